/- Contracts of the exact laws' own helpers on machines: measured, copied, compared, marked, held; and on answers with a machine. Contracts of the exact laws' own helpers on answers of a simulation: compared, marked, held. -/
import Derived.Test.YtldepledinolmaaGLine
import Derived.Test.YtldepledinolmaaGMcs
import Derived.Test.YtldepledinolmaaGFr
import Derived.StillTailTactics
import Derived.Lib.Hide
import Derived.Test.YtldepledinolmaaGSt2
namespace Go.Proofs.Ytldepledinolmaa
open Go.RowKit

/-- A machine as a value. -/
abbrev macV (A : Option Addr) (n c : Nat) (A' : Option Addr) (n' c' : Nat) : Value := .agg #[.slice A n c, .slice A' n' c']
/-- An answer with a machine, and one of a simulation, as values. -/
abbrev mrV (a : Int) (A : Option Addr) (n c : Nat) (A' : Option Addr) (n' c' : Nat) (v : Int) : Value := .agg #[.int .i64 a, .slice A n c, .slice A' n' c', .int .i64 v]
structure RdMac (w : World) (B : Nat) (A A' : Option Addr) (m : Mac) : Prop where
  cs : RdT w B A m.cs
  mem : RdC w B A' m.mem
section
variable {w w' : World} {B B' : Nat} {A A' : Option Addr} {m : Mac}
theorem RdMac.keep (h : RdMac w B A A' m) (hk : ∀ p : Addr, p.block < B → w'.cell? p = w.cell? p) : RdMac w' B A A' m := ⟨h.cs.keep hk, h.mem.keep hk⟩
theorem RdMac.more (h : RdMac w B A A' m) (hB : B ≤ B') : RdMac w B' A A' m := ⟨h.cs.more hB, h.mem.more hB⟩
theorem RdMac.below (h : RdMac w B A A' m) (hb : Below B w w') : RdMac w' B A A' m := ⟨h.cs.below hb, h.mem.below hb⟩
theorem RdMac.alloc (h : RdMac w B A A' m) (hB : B ≤ w.heap.size) (o : Obj) : RdMac (w.alloc o) B A A' m := ⟨h.cs.alloc hB o, h.mem.alloc hB o⟩
theorem RdMac.lt (h : RdMac w B A A' m) : RdMac w w.heap.size A A' m := ⟨h.cs.lt, h.mem.lt⟩
end
/-- A machine of the call's own: its rows and its memory apart. -/
structure OwnMac (w : World) (base : Nat) (v v' : Value) (m : Mac) (us : List Value) : Prop where
  cs : OwnTLine w base v m.cs us
  mem : w.ownsRow base 185 2 v' m.mem.length (cels m.mem)
  far : ∀ b, v'.ownBlock = some b → v.ownBlock ≠ some b ∧ ∀ u ∈ us, u.ownBlock ≠ some b
theorem OwnTLine.only {w w' : World} {base : Nat} {v : Value} {t : List (List Ev)} {us vs : List Value} (h : OwnTLine w base v t us) (ho : Only vs w w') (hf : ∀ x ∈ vs, ∀ b, x.ownBlock = some b → v.ownBlock ≠ some b ∧ ∀ u ∈ us, u.ownBlock ≠ some b) : OwnTLine w' base v t us :=
  ⟨ho.own _ _ _ _ _ _ h.row fun b hb x hx e => (hf x hx b e).1 hb, fun i hi => by
    obtain ⟨u, h1, h2, h3⟩ := h.rows i hi
    exact ⟨u, h1, ho.own _ _ _ _ _ _ h2 fun b hb x hx e => (hf x hx b e).2 u (List.mem_of_getElem? h1) hb, h3⟩, h.apart⟩
theorem OwnMac.alloc {w : World} {base : Nat} {v v' : Value} {m : Mac} {us : List Value} (h : OwnMac w base v v' m us) (o : Obj) : OwnMac (w.alloc o) base v v' m us := ⟨h.cs.alloc o, h.mem.alloc o, h.far⟩
theorem OwnMac.below {w w' : World} {base : Nat} {v v' : Value} {m : Mac} {us : List Value} (h : OwnMac w base v v' m us) (hb : Below w.heap.size w w') : OwnMac w' base v v' m us := ⟨h.cs.below hb, own_below h.mem hb (Nat.le_refl _), h.far⟩
theorem OwnMac.set_ {w : World} {base b i : Nat} {v v' : Value} {m : Mac} {us : List Value} (h : OwnMac w base v v' m us) (hb : b < base) (u : Value) : OwnMac (w.setCell ⟨b, i, none⟩ u) base v v' m us :=
  ⟨h.cs.kept (grown_set w b i u) (fun x e => by cases e; exact hb), ownsRow_setCell_below h.mem (a := ⟨b, i, none⟩) hb u, h.far⟩
theorem OwnMac.mono {w : World} {base b' : Nat} {v v' : Value} {m : Mac} {us : List Value} (h : OwnMac w base v v' m us) (hb : b' ≤ base) : OwnMac w b' v v' m us := ⟨h.cs.mono hb, own_mono h.mem hb, h.far⟩
theorem OwnMac.rd {w : World} {base : Nat} {A A' : Option Addr} {c c' : Nat} {m : Mac} {us : List Value} (h : OwnMac w base (.slice A m.cs.length c) (.slice A' m.mem.length c') m us) : RdMac w w.heap.size A A' m := ⟨h.cs.rd, RdC.of_own h.mem⟩
/-- How large a machine is. -/
def sizM (m : Mac) : Nat := m.cs.length + sumT m.cs + m.mem.length

/-- The marks of a machine, laid from k on. -/
def mkMac (k : Nat) (m : Mac) : Mac := ⟨mkT k m.cs, mkC (endT k m.cs) m.mem.length⟩
def endMac (k : Nat) (m : Mac) : Nat := endT k m.cs + m.mem.length * 2
end Go.Proofs.Ytldepledinolmaa
namespace Go.Proofs.Ytldepledinolmaa
open Go.RowKit

/-- An answer of a simulation as a value. -/
abbrev siV (a : Int) (L : Option Addr) (nl cl : Nat) (A : Option Addr) (n c : Nat) (A' : Option Addr) (n' c' : Nat) : Value := .agg #[.int .i64 a, .slice L nl cl, .slice A n c, .slice A' n' c']
theorem OwnMac.only {w w' : World} {base : Nat} {v v' : Value} {m : Mac} {us vs : List Value} (h : OwnMac w base v v' m us) (ho : Only vs w w') (hf : ∀ x ∈ vs, ∀ b, x.ownBlock = some b → v.ownBlock ≠ some b ∧ v'.ownBlock ≠ some b ∧ ∀ u ∈ us, u.ownBlock ≠ some b) : OwnMac w' base v v' m us :=
  ⟨h.cs.only ho fun x hx b hb => ⟨(hf x hx b hb).1, (hf x hx b hb).2.2⟩, ho.own _ _ _ _ _ _ h.mem fun b hb x hx e => (hf x hx b e).2.1 hb, h.far⟩

end Go.Proofs.Ytldepledinolmaa
