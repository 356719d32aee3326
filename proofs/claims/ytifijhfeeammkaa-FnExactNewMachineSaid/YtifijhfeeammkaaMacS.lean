/- Contracts of the exact laws' own helpers on machines: measured, copied, compared, marked, held; and on answers with a machine. -/
import Derived.Test.YtifijhfeeammkaaLineM
import Derived.Test.YtifijhfeeammkaaCelS
import Derived.Test.YtifijhfeeammkaaGFr
import Derived.StillTailTactics
import Derived.Lib.Hide
namespace Go.Proofs.Ytifijhfeeammkaa
open Go.RowKit

/-- A machine as a value. -/
abbrev macV (A : Option Addr) (n c : Nat) (A' : Option Addr) (n' c' : Nat) : Value := .agg #[.slice A n c, .slice A' n' c']
/-- An answer with a machine, and one of a simulation, as values. -/
abbrev mrV (a : Int) (A : Option Addr) (n c : Nat) (A' : Option Addr) (n' c' : Nat) (v : Int) : Value := .agg #[.int .i64 a, .slice A n c, .slice A' n' c', .int .i64 v]
structure RdMac (w : World) (B : Nat) (A A' : Option Addr) (m : Mac) : Prop where
  cs : RdT w B A m.cs
  mem : RdC w B A' m.mem
section
variable {w w' : World} {B B' : Nat} {A A' : Option Addr} {m : Mac}
theorem RdMac.keep (h : RdMac w B A A' m) (hk : ∀ p : Addr, p.block < B → w'.cell? p = w.cell? p) : RdMac w' B A A' m := ⟨h.cs.keep hk, h.mem.keep hk⟩
theorem RdMac.more (h : RdMac w B A A' m) (hB : B ≤ B') : RdMac w B' A A' m := ⟨h.cs.more hB, h.mem.more hB⟩
theorem RdMac.below (h : RdMac w B A A' m) (hb : Below B w w') : RdMac w' B A A' m := ⟨h.cs.below hb, h.mem.below hb⟩
theorem RdMac.alloc (h : RdMac w B A A' m) (hB : B ≤ w.heap.size) (o : Obj) : RdMac (w.alloc o) B A A' m := ⟨h.cs.alloc hB o, h.mem.alloc hB o⟩
theorem RdMac.lt (h : RdMac w B A A' m) : RdMac w w.heap.size A A' m := ⟨h.cs.lt, h.mem.lt⟩
end
/-- A machine of the call's own: its rows and its memory apart. -/
structure OwnMac (w : World) (base : Nat) (v v' : Value) (m : Mac) (us : List Value) : Prop where
  cs : OwnTLine w base v m.cs us
  mem : w.ownsRow base 120 2 v' m.mem.length (cels m.mem)
  far : ∀ b, v'.ownBlock = some b → v.ownBlock ≠ some b ∧ ∀ u ∈ us, u.ownBlock ≠ some b
theorem OwnTLine.only {w w' : World} {base : Nat} {v : Value} {t : List (List Ev)} {us vs : List Value} (h : OwnTLine w base v t us) (ho : Only vs w w') (hf : ∀ x ∈ vs, ∀ b, x.ownBlock = some b → v.ownBlock ≠ some b ∧ ∀ u ∈ us, u.ownBlock ≠ some b) : OwnTLine w' base v t us :=
  ⟨ho.own _ _ _ _ _ _ h.row fun b hb x hx e => (hf x hx b e).1 hb, fun i hi => by
    obtain ⟨u, h1, h2, h3⟩ := h.rows i hi
    exact ⟨u, h1, ho.own _ _ _ _ _ _ h2 fun b hb x hx e => (hf x hx b e).2 u (List.mem_of_getElem? h1) hb, h3⟩, h.apart⟩
theorem OwnMac.alloc {w : World} {base : Nat} {v v' : Value} {m : Mac} {us : List Value} (h : OwnMac w base v v' m us) (o : Obj) : OwnMac (w.alloc o) base v v' m us := ⟨h.cs.alloc o, h.mem.alloc o, h.far⟩
theorem OwnMac.below {w w' : World} {base : Nat} {v v' : Value} {m : Mac} {us : List Value} (h : OwnMac w base v v' m us) (hb : Below w.heap.size w w') : OwnMac w' base v v' m us := ⟨h.cs.below hb, own_below h.mem hb (Nat.le_refl _), h.far⟩
theorem OwnMac.set_ {w : World} {base b i : Nat} {v v' : Value} {m : Mac} {us : List Value} (h : OwnMac w base v v' m us) (hb : b < base) (u : Value) : OwnMac (w.setCell ⟨b, i, none⟩ u) base v v' m us :=
  ⟨h.cs.kept (grown_set w b i u) (fun x e => by cases e; exact hb), ownsRow_setCell_below h.mem (a := ⟨b, i, none⟩) hb u, h.far⟩
theorem OwnMac.mono {w : World} {base b' : Nat} {v v' : Value} {m : Mac} {us : List Value} (h : OwnMac w base v v' m us) (hb : b' ≤ base) : OwnMac w b' v v' m us := ⟨h.cs.mono hb, own_mono h.mem hb, h.far⟩
theorem OwnMac.rd {w : World} {base : Nat} {A A' : Option Addr} {c c' : Nat} {m : Mac} {us : List Value} (h : OwnMac w base (.slice A m.cs.length c) (.slice A' m.mem.length c') m us) : RdMac w w.heap.size A A' m := ⟨h.cs.rd, RdC.of_own h.mem⟩
/-- How large a machine is. -/
def sizM (m : Mac) : Nat := m.cs.length + sumT m.cs + m.mem.length

theorem szMachine_fit (m : Mac) (A A' : Option Addr) (c c' l : Nat) (w : World) (hs : sizM m ≤ l) (hl : l ≤ 1048576) (h : RdMac w w.heap.size A A' m) :
    Calls Try.prog 44 #[macV A m.cs.length c A' m.mem.length c', .int .i64 l] w fun e w' => e = .returned (.int .i64 ((l - sizM m : Nat) : Int)) ∧ Below w.heap.size w w' := by
  unfold sizM at hs
  go_enter Try.func44, Try.ntmps44
  go_wp2_with fail
  refine (szLineSS_fit m.cs A c l _ (by omega) hl (h.cs.alloc (Nat.le_refl _) _).lt).mono ?_
  rintro e w1 ⟨rfl, rfl⟩
  go_wp2_with fail
  refine (szCellS_fit A' m.mem.length c' (l - m.cs.length - sumT m.cs) _ (by omega) (by omega)).mono ?_
  rintro e w1 ⟨rfl, rfl⟩
  go_wp2
  go_ret
  exact ⟨ret_int (by unfold sizM; omega), by go_grown⟩
theorem szMachine_not (m : Mac) (A A' : Option Addr) (c c' l : Nat) (w : World) (hs : l < sizM m) (hl : l ≤ 1048576) (h1 : m.cs.length ≤ maxLen) (h2 : m.mem.length ≤ maxLen) (h : RdMac w w.heap.size A A' m) :
    Calls Try.prog 44 #[macV A m.cs.length c A' m.mem.length c', .int .i64 l] w fun e w' => e = .returned (.int .i64 (-1)) ∧ Below w.heap.size w w' := by
  unfold sizM at hs
  go_enter Try.func44, Try.ntmps44
  by_cases hc : m.cs.length + sumT m.cs ≤ l
  · go_wp2_with fail
    refine (szLineSS_fit m.cs A c l _ hc hl (h.cs.alloc (Nat.le_refl _) _).lt).mono ?_
    rintro e w1 ⟨rfl, rfl⟩
    go_wp2_with fail
    refine (szCellS_not A' m.mem.length c' (l - m.cs.length - sumT m.cs) _ (by omega) (by omega) h2).mono ?_
    rintro e w1 ⟨rfl, rfl⟩
    go_wp2
    go_ret
    exact ⟨rfl, by go_grown⟩
  · go_wp2_with fail
    refine (szLineSS_not m.cs A c l _ (by omega) hl h1 (h.cs.alloc (Nat.le_refl _) _).lt).mono ?_
    rintro e w1 ⟨rfl, rfl⟩
    go_wp2
    go_ret
    exact ⟨rfl, by go_grown⟩

theorem eqMachine_same (m : Mac) (A A' Z Z' : Option Addr) (c c' d d' : Nat) (w : World) (h1 : m.cs.length ≤ maxLen) (h2 : m.mem.length ≤ maxLen) (h : RdMac w w.heap.size A A' m) (k : RdMac w w.heap.size Z Z' m) :
    Calls Try.prog 46 #[macV A m.cs.length c A' m.mem.length c', macV Z m.cs.length d Z' m.mem.length d'] w fun e w' => e = .returned (.bool true) ∧ Below w.heap.size w w' := by
  obtain ⟨W, hW⟩ : ∃ W, W = (w.alloc (Obj.cells #[.slice A m.cs.length c, .slice A' m.mem.length c'] 27)).alloc (Obj.cells #[.slice Z m.cs.length d, .slice Z' m.mem.length d'] 27) := ⟨_, rfl⟩
  obtain ⟨k1, k2, hz, B0⟩ := two_new _ _ _ _ _ W hW
  have HW := hide hW
  have hR := (h.below B0).lt
  have kR := (k.below B0).lt
  clear hW
  go_enter Try.func46, Try.ntmps46
  go_wp2_with fail
  rw [← HW.out]
  refine (eqLineSS_same m.cs A Z c d W h1 hR.cs kR.cs).mono ?_
  rintro e w1 ⟨rfl, hb⟩
  have B1 := B0.trans (hb.mono B0.size)
  have q1 := (k1.kept hb).cell 1
  have q2 := (k2.kept hb).cell 1
  simp at q1 q2
  have hR1 := (hR.mem.below hb).lt
  have kR1 := (kR.mem.below hb).lt
  clear k1 k2
  go_wp2_with fail
  refine (eqCellS_same m.mem A' Z' c' d' w1 h2 hR1 kR1).mono ?_
  rintro e w2 ⟨rfl, hb2⟩
  go_wp2
  go_ret
  exact ⟨rfl, B1.trans (hb2.mono B1.size)⟩

theorem toMachine_own (m : Mac) (A A' : Option Addr) (c c' : Nat) (w : World) (h1 : LenT 1048576 m.cs) (h2 : m.mem.length ≤ 1048576) (h : RdMac w w.heap.size A A' m) :
    Calls Try.prog 45 #[macV A m.cs.length c A' m.mem.length c'] w fun e w' => ∃ g g' us, e = .returned (macV (some ⟨g, 0, none⟩) m.cs.length m.cs.length (some ⟨g', 0, none⟩) m.mem.length m.mem.length) ∧ OwnMac w' w.heap.size (.slice (some ⟨g, 0, none⟩) m.cs.length m.cs.length) (.slice (some ⟨g', 0, none⟩) m.mem.length m.mem.length) m us ∧ Below w.heap.size w w' := by
  obtain ⟨W, hW⟩ : ∃ W, W = ((w.alloc (Obj.cells #[.slice A m.cs.length c, .slice A' m.mem.length c'] 73)).alloc (Obj.cells #[.slice none 0 0, .slice none 0 0] 27)).alloc (Obj.cells #[.slice none 0 0, .slice none 0 0] 27) := ⟨_, rfl⟩
  obtain ⟨k0, k1, k2, hz, B0⟩ := three_new _ _ _ _ _ _ _ W hW
  have HW := hide hW
  have hR := (h.below B0).lt
  clear hW
  go_enter Try.func45, Try.ntmps45
  go_wp2_with fail
  rw [← HW.out]
  refine (toLineSS_own m.cs A c W h1 hR.cs).mono ?_
  rintro e w1 ⟨g, us, rfl, o1, b1⟩
  have B1 := B0.trans (b1.mono B0.size)
  have q0 := (k0.kept b1).cell 1
  have f2 := (k2.kept b1).frozen 0
  have d2 := (k2.kept b1).cell 0
  simp at q0 d2
  have hR1 := (hR.mem.below b1).lt
  have HO := hide o1
  have hz1 := b1.size
  have HK := hide (And.intro (k1.kept b1) (k2.kept b1))
  clear o1
  go_wp2_with fail
  have BX := B1.setCell (p := ⟨w.heap.size + 1 + 1, 0, none⟩) (by simp <;> omega) (.slice (some ⟨g, 0, none⟩) m.cs.length m.cs.length)
  have j2 := HK.out.2.set_ 0 (.slice (some ⟨g, 0, none⟩) m.cs.length m.cs.length)
  have j1 := HK.out.1.far (p := ⟨w.heap.size + 1 + 1, 0, none⟩) (by simp) (.slice (some ⟨g, 0, none⟩) m.cs.length m.cs.length)
  have OX := HO.out.kept (grown_set w1 (w.heap.size + 1 + 1) 0 (.slice (some ⟨g, 0, none⟩) m.cs.length m.cs.length)) (fun b e => by cases e; omega)
  have hRX := (h.mem.below BX).lt
  have hzX : W.heap.size ≤ (w1.setCell ⟨w.heap.size + 1 + 1, 0, none⟩ (.slice (some ⟨g, 0, none⟩) m.cs.length m.cs.length)).heap.size := by simp; exact hz1
  simp at j2
  clear q0 f2 d2 hR1 HO HK B1 b1
  generalize w1.setCell ⟨w.heap.size + 1 + 1, 0, none⟩ (.slice (some ⟨g, 0, none⟩) m.cs.length m.cs.length) = X at *
  refine (toCellS_any m.mem A' c' X h2 hRX).mono ?_
  rintro e w2 ⟨g2, rfl, o2, b2⟩
  have B2 := BX.trans (b2.mono BX.size)
  have i1 := j1.kept b2
  have i2 := j2.kept b2
  have q0 := i1.cell 0
  have q1 := i1.cell 1
  have q2 := i2.cell 0
  have q3 := i2.cell 1
  have f0 := i1.frozen 0
  have f1 := i1.frozen 1
  have f3 := i2.frozen 1
  simp at q0 q1 q2 q3
  have HO := hide (OwnMac.mk (OX.below b2) (own_mono o2 hzX) fun b hb => ⟨fun e => by have := OX.row.lt b e; have := o2.lt b hb; omega, fun u hu e => by have := own_boundLine OX u hu b e; have := o2.lt b hb; omega⟩)
  clear o2 b2 OX i1 i2 j1 j2 hRX hzX BX
  go_wp2
  have o4 := ((HO.out.set_ (b := w.heap.size + 1 + 1) (i := 1) (by omega) (.slice (some ⟨g2, 0, none⟩) m.mem.length m.mem.length)).set_ (b := w.heap.size + 1) (i := 0) (by omega) (.slice (some ⟨g, 0, none⟩) m.cs.length m.cs.length)).set_ (b := w.heap.size + 1) (i := 1) (by omega) (.slice (some ⟨g2, 0, none⟩) m.mem.length m.mem.length)
  refine bodyPost_ret (v := macV (some ⟨g, 0, none⟩) m.cs.length m.cs.length (some ⟨g2, 0, none⟩) m.mem.length m.mem.length) (by simp [results, Try.results45, go_sem, q0, q1]) rfl ?_
  exact ⟨g, g2, us, rfl, o4.mono (by omega), ((B2.setCell (by simp <;> omega) _).setCell (by simp) _).setCell (by simp) _⟩

/-- The marks of a machine, laid from k on. -/
def mkMac (k : Nat) (m : Mac) : Mac := ⟨mkT k m.cs, mkC (endT k m.cs) m.mem.length⟩
def endMac (k : Nat) (m : Mac) : Nat := endT k m.cs + m.mem.length * 2
theorem markMachine_any (base k : Nat) (m : Mac) (us : List Value) (A A' : Option Addr) (c c' : Nat) (w : World) (hk : endMac k m ≤ 1073741824) (ht : m.cs.length ≤ 1048576) (h : OwnMac w base (.slice A m.cs.length c) (.slice A' m.mem.length c') m us) :
    Calls Try.prog 50 #[macV A m.cs.length c A' m.mem.length c', .int .i64 k] w fun e w' => e = .returned (.int .i64 (endMac k m : Nat)) ∧ OwnMac w' base (.slice A m.cs.length c) (.slice A' m.mem.length c') (mkMac k m) us ∧ Only (.slice A' m.mem.length c' :: us) w w' := by
  unfold endMac at hk
  have kb := Bk.new w #[.slice A m.cs.length c, .slice A' m.mem.length c'] 27
  go_enter Try.func50, Try.ntmps50
  go_wp2_with fail
  refine (markLineSS_any base k m.cs us A c _ (by omega) ht (h.cs.alloc _)).mono ?_
  rintro e w1 ⟨rfl, ho, hs⟩
  have q1 := (hs.bk _ _ _ kb fun u hu e => by have := own_boundLine h.cs u hu _ e; omega).cell 1
  simp at q1
  clear kb
  have om := hs.own _ _ _ _ _ _ (h.mem.alloc _) fun b hb u hu => (h.far b hb).2 u hu
  go_wp2_with fail
  refine (markCellS_any base A' m.mem.length c' (endT k m.cs) _ _ hk om).mono ?_
  rintro e w2 ⟨rfl, o2, g2⟩
  go_wp2
  go_ret
  have O2 : Only [.slice A' m.mem.length c'] w1 w2 := Only.of_grown g2 (by simp)
  refine ⟨rfl, ⟨ho.only O2 fun x hx b hb => ?_, by simp only [mkMac, mkC_length]; exact o2, h.far⟩, (Only.of_none (World.grownBy_alloc w _ none)).trans ((hs.more fun u hu => by simp [hu]).trans (O2.more fun u hu => by simp at hu; simp [hu]))⟩
  simp only [List.mem_singleton] at hx
  subst hx
  exact h.far b hb
theorem heldMachine_marked (B k : Nat) (m : Mac) (A A' : Option Addr) (c c' : Nat) (w : World) (hk : endMac k m ≤ 1073741824) (ht : m.cs.length ≤ 1048576) (hB : B ≤ w.heap.size) (h : RdMac w B A A' (mkMac k m)) :
    Calls Try.prog 106 #[macV A m.cs.length c A' m.mem.length c', .int .i64 k] w fun e w' => e = .returned (.int .i64 (endMac k m : Nat)) ∧ Below w.heap.size w w' := by
  unfold endMac at hk
  go_enter Try.func106, Try.ntmps106
  go_wp2_with fail
  refine (heldLineSS_marked B k m.cs A c _ (by omega) ht (h.cs.alloc hB _)).mono ?_
  rintro e w1 ⟨rfl, rfl⟩
  go_wp2_with fail
  refine (heldCellS_marked B A' m.mem.length c' (endT k m.cs) _ hk (h.mem.alloc hB _)).mono ?_
  rintro e w2 ⟨rfl, rfl⟩
  go_wp2
  go_ret
  exact ⟨rfl, by go_grown⟩

theorem eqMachineResult_same (a v : Int) (m : Mac) (A A' Z Z' : Option Addr) (c c' d d' : Nat) (w : World) (h1 : m.cs.length ≤ maxLen) (h2 : m.mem.length ≤ maxLen) (h : RdMac w w.heap.size A A' m) (k : RdMac w w.heap.size Z Z' m) :
    Calls Try.prog 47 #[mrV a A m.cs.length c A' m.mem.length c' v, mrV a Z m.cs.length d Z' m.mem.length d' v] w fun e w' => e = .returned (.bool true) ∧ Below w.heap.size w w' := by
  obtain ⟨W, hW⟩ : ∃ W, W = (w.alloc (Obj.cells #[.int .i64 a, .slice A m.cs.length c, .slice A' m.mem.length c', .int .i64 v] 33)).alloc (Obj.cells #[.int .i64 a, .slice Z m.cs.length d, .slice Z' m.mem.length d', .int .i64 v] 33) := ⟨_, rfl⟩
  obtain ⟨k1, k2, hz, B0⟩ := two_new _ _ _ _ _ W hW
  have HW := hide hW
  have hR := (h.below B0).lt
  have kR := (k.below B0).lt
  clear hW
  go_enter Try.func47, Try.ntmps47
  go_wp2_with fail
  rw [← HW.out]
  refine (eqMachine_same m A A' Z Z' c c' d d' W h1 h2 hR kR).mono ?_
  rintro e w1 ⟨rfl, hb⟩
  have B1 := B0.trans (hb.mono B0.size)
  have q1 := (k1.kept hb).cell 3
  have q2 := (k2.kept hb).cell 3
  simp at q1 q2
  clear k1 k2
  go_wp2
  go_ret
  exact ⟨rfl, B1⟩
theorem markMachineResult_any (base k : Nat) (a v : Int) (m : Mac) (us : List Value) (A A' : Option Addr) (c c' : Nat) (w : World) (hk : endMac k m ≤ 1073741824) (ht : m.cs.length ≤ 1048576) (h : OwnMac w base (.slice A m.cs.length c) (.slice A' m.mem.length c') m us) :
    Calls Try.prog 48 #[mrV a A m.cs.length c A' m.mem.length c' v, .int .i64 k] w fun e w' => e = .returned (.int .i64 (endMac k m : Nat)) ∧ OwnMac w' base (.slice A m.cs.length c) (.slice A' m.mem.length c') (mkMac k m) us ∧ Only (.slice A' m.mem.length c' :: us) w w' := by
  go_enter Try.func48, Try.ntmps48
  go_wp2_with fail
  refine (markMachine_any base k m us A A' c c' _ hk ht (h.alloc _)).mono ?_
  rintro e w1 ⟨rfl, ho, hs⟩
  go_wp2
  go_ret
  exact ⟨rfl, ho, (Only.of_none (World.grownBy_alloc w _ none)).trans hs⟩
theorem heldMachineResult_marked (B k : Nat) (a v : Int) (m : Mac) (A A' : Option Addr) (c c' : Nat) (w : World) (hk : endMac k m ≤ 1073741824) (ht : m.cs.length ≤ 1048576) (hB : B ≤ w.heap.size) (h : RdMac w B A A' (mkMac k m)) :
    Calls Try.prog 49 #[mrV a A m.cs.length c A' m.mem.length c' v, .int .i64 k] w fun e w' => e = .returned (.int .i64 (endMac k m : Nat)) ∧ Below w.heap.size w w' := by
  go_enter Try.func49, Try.ntmps49
  go_wp2_with fail
  refine (heldMachine_marked B k m A A' c c' _ hk ht (by simp; omega) (h.alloc hB _)).mono ?_
  rintro e w1 ⟨rfl, hb⟩
  go_wp2
  go_ret
  exact ⟨rfl, below_alloc hb⟩
end Go.Proofs.Ytifijhfeeammkaa
