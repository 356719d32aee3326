/- What the laws' walks rest upon, part 23. -/
import Derived.Test.YtnnfkmjhaljplaaM10
import Derived.Test.YtnnfkmjhaljplaaM19
import Derived.Test.YtnnfkmjhaljplaaM20
import Derived.Test.YtnnfkmjhaljplaaM21
import Derived.Test.YtnnfkmjhaljplaaM22
import Derived.Deep.RegionHeld3
import Derived.Deep.DeepCutAuto
import Derived.Test.YtnnfkmjhaljplaaM11
import Derived.Test.YtnnfkmjhaljplaaM12
import Derived.Test.YtnnfkmjhaljplaaM04
import Derived.Test.YtnnfkmjhaljplaaM06
import Derived.StillTailTactics
import Derived.Lib.Hide
namespace Go.Proofs.Ytnnfkmjhaljplaa
open Go.RowKit
theorem keep2o {W w w' : World} {a0 a1 : Addr} {v0 v1 : Value} (hb : Below w.heap.size w w') (h : w.cell? a0 = some v0 ∧ w.cell? a1 = some v1 ∧ Below W.heap.size W w) :
  w'.cell? a0 = some v0 ∧ w'.cell? a1 = some v1 ∧ Below W.heap.size W w' :=
 ⟨cell_kept hb h.1, cell_kept hb h.2.1, h.2.2.trans (hb.mono h.2.2.size)⟩
theorem odO_few (ss : List Stp) (n : Int) : (odL ss n).length ≤ 32 := by
 by_cases h : logF ss n = 0
 ·obtain ⟨_, h2, _, _⟩ := logF_zero h
  obtain ⟨h3, h4⟩ := ordW_len ss
  rw [odL_ok h]
  omega
 ·rw [odL_bad h]; simp
theorem field_odC (a : Int) (D : Option Addr) (n d : Nat) (W : World) : (Instr.field 29 (.agg #[.int .i64 a, .slice D n d]) 0).run Try.prog W = .ok (.int .i64 a) W := by kernel_rfl
theorem field_odD (a : Int) (D : Option Addr) (n d : Nat) (W : World) : (Instr.field 29 (.agg #[.int .i64 a, .slice D n d]) 1).run Try.prog W = .ok (.slice D n d) W := by kernel_rfl
theorem field_lg1 (a : Int) (D : Option Addr) (n d : Nat) (W : World) : (Instr.field 39 (.agg #[.int .i64 a, .slice D n d]) 1).run Try.prog W = .ok (.slice D n d) W := by kernel_rfl
end Go.Proofs.Ytnnfkmjhaljplaa
namespace Go.Proofs.Ytnnfkmjhaljplaa
open Go.RowKit
/-- A machine as a value. -/
abbrev macV (A : Option Addr) (n c : Nat) (A' : Option Addr) (n' c' : Nat) : Value := .agg #[.slice A n c, .slice A' n' c']
structure RdMac (w : World) (B : Nat) (A A' : Option Addr) (m : Mac) : Prop where
 cs : RdT w B A m.cs
 mem : RdC w B A' m.mem
section
variable {w w' : World} {B B' : Nat} {A A' : Option Addr} {m : Mac}
theorem RdMac.keep (h : RdMac w B A A' m) (hk : ∀ p : Addr, p.block < B → w'.cell? p = w.cell? p) : RdMac w' B A A' m := ⟨h.cs.keep hk, h.mem.keep hk⟩
theorem RdMac.more (h : RdMac w B A A' m) (hB : B ≤ B') : RdMac w B' A A' m := ⟨h.cs.more hB, h.mem.more hB⟩
theorem RdMac.below (h : RdMac w B A A' m) (hb : Below B w w') : RdMac w' B A A' m := ⟨h.cs.below hb, h.mem.below hb⟩
theorem RdMac.alloc (h : RdMac w B A A' m) (hB : B ≤ w.heap.size) (o : Obj) : RdMac (w.alloc o) B A A' m := ⟨h.cs.alloc hB o, h.mem.alloc hB o⟩
theorem RdMac.lt (h : RdMac w B A A' m) : RdMac w w.heap.size A A' m := ⟨h.cs.lt, h.mem.lt⟩
end
/-- A machine of the call's own: its rows and its memory apart. -/
structure OwnMac (w : World) (base : Nat) (v v' : Value) (m : Mac) (us : List Value) : Prop where
 cs : OwnTLine w base v m.cs us
 mem : w.ownsRow base 200 2 v' m.mem.length (cels m.mem)
 far : ∀ b, v'.ownBlock = some b → v.ownBlock ≠ some b ∧ ∀ u ∈ us, u.ownBlock ≠ some b
theorem OwnTLine.only {w w' : World} {base : Nat} {v : Value} {t : List (List Ev)} {us vs : List Value} (h : OwnTLine w base v t us) (ho : Only vs w w') (hf : ∀ x ∈ vs, ∀ b, x.ownBlock = some b → v.ownBlock ≠ some b ∧ ∀ u ∈ us, u.ownBlock ≠ some b) : OwnTLine w' base v t us :=
 ⟨ho.own _ _ _ _ _ _ h.row fun b hb x hx e => (hf x hx b e).1 hb, fun i hi => by
  obtain ⟨u, h1, h2, h3⟩ := h.rows i hi
  exact ⟨u, h1, ho.own _ _ _ _ _ _ h2 fun b hb x hx e => (hf x hx b e).2 u (List.mem_of_getElem? h1) hb, h3⟩, h.apart⟩
theorem OwnMac.alloc {w : World} {base : Nat} {v v' : Value} {m : Mac} {us : List Value} (h : OwnMac w base v v' m us) (o : Obj) : OwnMac (w.alloc o) base v v' m us := ⟨h.cs.alloc o, h.mem.alloc o, h.far⟩
theorem OwnMac.below {w w' : World} {base : Nat} {v v' : Value} {m : Mac} {us : List Value} (h : OwnMac w base v v' m us) (hb : Below w.heap.size w w') : OwnMac w' base v v' m us := ⟨h.cs.below hb, own_below h.mem hb (Nat.le_refl _), h.far⟩
theorem OwnMac.set_ {w : World} {base b i : Nat} {v v' : Value} {m : Mac} {us : List Value} (h : OwnMac w base v v' m us) (hb : b < base) (u : Value) : OwnMac (w.setCell ⟨b, i, none⟩ u) base v v' m us :=
 ⟨h.cs.kept (grown_set w b i u) (fun x e => by cases e; exact hb), ownsRow_setCell_below h.mem (a := ⟨b, i, none⟩) hb u, h.far⟩
theorem OwnMac.mono {w : World} {base b' : Nat} {v v' : Value} {m : Mac} {us : List Value} (h : OwnMac w base v v' m us) (hb : b' ≤ base) : OwnMac w b' v v' m us := ⟨h.cs.mono hb, own_mono h.mem hb, h.far⟩
theorem OwnMac.rd {w : World} {base : Nat} {A A' : Option Addr} {c c' : Nat} {m : Mac} {us : List Value} (h : OwnMac w base (.slice A m.cs.length c) (.slice A' m.mem.length c') m us) : RdMac w w.heap.size A A' m := ⟨h.cs.rd, RdC.of_own h.mem⟩
end Go.Proofs.Ytnnfkmjhaljplaa
namespace Go.Proofs.Ytnnfkmjhaljplaa
open Go.RowKit
theorem OwnMac.only {w w' : World} {base : Nat} {v v' : Value} {m : Mac} {us vs : List Value} (h : OwnMac w base v v' m us) (ho : Only vs w w') (hf : ∀ x ∈ vs, ∀ b, x.ownBlock = some b → v.ownBlock ≠ some b ∧ v'.ownBlock ≠ some b ∧ ∀ u ∈ us, u.ownBlock ≠ some b) : OwnMac w' base v v' m us :=
 ⟨h.cs.only ho fun x hx b hb => ⟨(hf x hx b hb).1, (hf x hx b hb).2.2⟩, ho.own _ _ _ _ _ _ h.mem fun b hb x hx e => (hf x hx b e).2.1 hb, h.far⟩
end Go.Proofs.Ytnnfkmjhaljplaa
