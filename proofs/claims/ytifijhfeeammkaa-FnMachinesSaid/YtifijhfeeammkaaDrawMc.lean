/- Contracts of the model's other draws of chapter 7. -/
import Derived.Test.YtifijhfeeammkaaDrawMa
import Derived.Test.YtifijhfeeammkaaGHeld
import Derived.Deep.RegionHeld3
import Derived.Deep.DeepCutAuto
namespace Go.Proofs.Ytifijhfeeammkaa
open Go.RowKit

theorem OwnMac.drawn {w w' : World} {o : Obj} {base g : Nat} {v v' : Value} {m : Mac} {us : List Value} (h : OwnMac w base v v' m us) (hg : (w.alloc o).grownBy w' (some g)) (h1 : g < base) : OwnMac w' base v v' m us :=
  ⟨(h.cs.alloc o).kept hg (fun b e => by simp at e; omega), (h.mem.alloc o).kept hg (own_sep fun b hb e => by have := h.mem.lt b hb; simp at e; omega), h.far⟩
/-- A store into a block of ops turns no machine. -/
theorem OwnMac.setRow {w : World} {base p : Nat} {v v' : Value} {m : Mac} {us : List Value} {cs : Array Value} (h : OwnMac w base v v' m us) (hk : Bk w p cs 29) (i : Nat) (x : Value) : OwnMac (w.setCell ⟨p, i, none⟩ x) base v v' m us :=
  ⟨h.cs.keptB (grown_set w p i x) (fun _ hb e => own_box h.cs.row hk (by decide) (hb.trans e.symm)) (fun u hu _ hb e => by
    obtain ⟨n, xs, hr⟩ := h.cs.usRow hu
    exact own_box hr hk (by decide) (hb.trans e.symm)), h.mem.kept (grown_set w p i x) (own_sep fun _ hb e => own_box h.mem hk (by decide) (hb.trans e.symm)), h.far⟩
theorem OwnMac.drawn0 {w w' : World} {base g : Nat} {v v' : Value} {m : Mac} {us : List Value} (h : OwnMac w base v v' m us) (hg : w.grownBy w' (some g)) (h1 : g < base) : OwnMac w' base v v' m us :=
  ⟨h.cs.kept hg (fun b e => by simp at e; omega), h.mem.kept hg (own_sep fun b hb e => by have := h.mem.lt b hb; simp at e; omega), h.far⟩
/-- A copy of a machine that is turned: p its block, which holds x0 and x1; v its rows, vm its memory. -/
structure DrB (base p : Nat) (x0 x1 v vm : Value) (cs : List (List Ev)) (mem : List Cel) (us : List Value) (w : World) : Prop where
  box : Bk w p #[x0, x1] 27
  cs : OwnTLine w base v cs us
  mem : w.ownsRow base 120 2 vm mem.length (cels mem)
  lo : base ≤ p
section
variable {w w' : World} {base p : Nat} {x0 x1 v vm vm' : Value} {cs : List (List Ev)} {mem : List Cel} {us : List Value}
theorem DrB.below (h : DrB base p x0 x1 v vm cs mem us w) (hb : Below w.heap.size w w') : DrB base p x0 x1 v vm cs mem us w' := ⟨h.box.kept hb, h.cs.below hb, own_below h.mem hb (Nat.le_refl _), h.lo⟩
theorem DrB.drawn {g : Nat} (h : DrB base p x0 x1 v vm cs mem us w) (hg : w.grownBy w' (some g)) (h1 : g < base) : DrB base p x0 x1 v vm cs mem us w' :=
  ⟨h.box.grown hg (by have := h.lo; simp; omega), h.cs.kept hg (fun b e => by simp at e; omega), h.mem.kept hg (own_sep fun b hb e => by have := h.mem.lt b hb; simp at e; omega), h.lo⟩
theorem DrB.far {q i : Nat} (h : DrB base p x0 x1 v vm cs mem us w) (hq : q < base) (x : Value) : DrB base p x0 x1 v vm cs mem us (w.setCell ⟨q, i, none⟩ x) := h.drawn (grown_set w q i x) hq
theorem DrB.store (h : DrB base p x0 x1 v vm cs mem us w) (i : Nat) (x : Value) : ∀ y0 y1, #[x0, x1].setIfInBounds i x = #[y0, y1] → DrB base p y0 y1 v vm cs mem us (w.setCell ⟨p, i, none⟩ x) ∧ Below base w (w.setCell ⟨p, i, none⟩ x) := by
  have hb := h.box.set_ i x
  refine fun y0 y1 e => ⟨⟨by rw [← e]; exact hb, h.cs.keptB (grown_set w p i x) (fun b hb e => ?_) (fun u hu b hb e => ?_), h.mem.kept (grown_set w p i x) (own_sep fun b hb e => ?_), h.lo⟩, (Below.refl _ _).setCell h.lo _⟩
  · exact own_box h.cs.row h.box (by decide) (hb.trans e.symm)
  · obtain ⟨n, xs, hr⟩ := h.cs.usRow hu
    exact own_box hr h.box (by decide) (hb.trans e.symm)
  · exact own_box h.mem h.box (by decide) (hb.trans e.symm)
theorem DrB.grewM {y : Cel} (h : DrB base p x0 x1 v vm cs mem us w) (ho : w'.ownsRow base 120 2 vm' (mem.length + 1) (cels mem ++ cels [y])) (hg : w.grownBy w' vm.ownBlock) (hb : base ≤ w.heap.size) : DrB base p x0 x1 v vm' cs (mem ++ [y]) us w' ∧ Below base w w' := by
  refine ⟨⟨h.box.grown hg (fun e => own_box h.mem h.box (by decide) e.symm), h.cs.keptB hg (fun b hb => ?_) (fun u hu b hb => ?_), by rw [List.length_append, cels_append]; exact ho, h.lo⟩, grown_below h.mem hg hb (Nat.le_refl _)⟩
  · exact fun e => own_types h.cs.row h.mem (by decide) b hb e
  · obtain ⟨n, xs, hr⟩ := h.cs.usRow hu
    exact fun e => own_types hr h.mem (by decide) b hb e
theorem DrB.line {gv n d b0 q cu : Nat} (h : DrB base p x0 x1 (.slice (some ⟨gv, 0, none⟩) n d) vm cs mem us w) (hu : us[0]? = some (.slice (some ⟨b0, 0, none⟩) q cu)) (j : Nat) (x : Value) (l' : List Ev) (hl : l'.length = q) (he : ∀ h0 : 0 < cs.length, (evs cs[0]).set j x = evs l') :
    DrB base p x0 x1 (.slice (some ⟨gv, 0, none⟩) n d) vm (cs.set 0 l') mem us (w.setCell ⟨b0, j, none⟩ x) ∧ Below base w (w.setCell ⟨b0, j, none⟩ x) := by
  subst hl
  obtain ⟨hi, hr, _⟩ := h.cs.at_ hu
  have hb0 := (hr.lt b0 rfl).1
  have hql : cs[0].length = l'.length := by
    rcases own_shape hr with ⟨_, _, e⟩
    simp only [Value.slice.injEq] at e
    exact e.2.1.symm
  rw [hql] at hr
  have hst := (hr.stored j x).1
  rw [he hi] at hst
  have hg := grown_set w b0 j x
  exact ⟨⟨h.box.grown hg (fun e => own_box hr h.box (by decide) e.symm), h.cs.turnAt hu hg hst, h.mem.kept hg (own_sep fun b hb e => own_types h.mem hr (by decide) b hb e), h.lo⟩, (Below.refl _ _).setCell hb0 _⟩
theorem DrB.rd {A1 A2 : Option Addr} {c1 c2 n1 n2 : Nat} (h : DrB base p x0 x1 (.slice A1 n1 c1) (.slice A2 n2 c2) cs mem us w) (h1 : n1 = cs.length) (h2 : n2 = mem.length) : RdMac w w.heap.size A1 A2 ⟨cs, mem⟩ := by
  subst h1 h2
  exact ⟨h.cs.rd, RdC.of_own h.mem⟩
end

set_option maxHeartbeats 800000 in
theorem DrawNewMachine_any (l : List Int) (A : Option Addr) (c : Nat) (w : World) (hl : l.length ≤ 1048576) (hR : Rd .u8 w w.heap.size A l) (b8 : B8 l) :
    Calls Try.prog 19 #[.slice A l.length c] w fun e w' => ∃ x y : Int, e = .returned (.tuple #[.int .i64 x, .int .i64 y]) ∧ (0 ≤ x ∧ x ≤ 5) ∧ (0 ≤ y ∧ y ≤ 5) ∧ Below w.heap.size w w' := by
  go_enter Try.func19, Try.ntmps19
  go_wp2_with fail
  refine (l1Source_any l A c w hR b8 hl).mono ?_
  rintro e w1 ⟨rfl, S1, B1⟩
  go_wp2_with fail
  refine (l1Pick_any _ _ _ [1, 2, 4, 0, 5] A c l _ _ (S1.alloc _) (by omega) (by simp) (by simp) (Bk.new _ _ _) (by have := S1.lt; omega)).mono ?_
  rintro e w2 ⟨x, rfl, hx, S2, g2⟩
  have g12 := grown_alloc g2
  have B2 := grown_from B1 g12 B1.size (Nat.le_refl _)
  have hx5 : 0 ≤ x ∧ x ≤ 5 := by simp at hx; omega
  clear hx g2 g12
  go_wp2_with fail
  refine (l1Pick_any _ _ _ [1, 2, 4, 0, 5] A c l _ _ (S2.alloc _) (by omega) (by simp) (by simp) (Bk.new _ _ _) (by have := S2.lt; omega)).mono ?_
  rintro e w3 ⟨y, rfl, hy, S3, g3⟩
  have g13 := grown_alloc g3
  have B3 := grown_from B2 g13 B2.size (Nat.le_refl _)
  have hy5 : 0 ≤ y ∧ y ≤ 5 := by simp at hy; omega
  clear hy g3 g13
  go_wp2
  refine bodyPost_ret (v := .tuple #[.int .i64 x, .int .i64 y]) (by simp [results, Try.results19, go_sem]) rfl ?_
  exact ⟨x, y, rfl, hx5, hy5, B3⟩

set_option maxHeartbeats 1600000 in
theorem DrawOpFault_any (l : List Int) (A : Option Addr) (c : Nat) (w : World) (hl : l.length ≤ 1048576) (hR : Rd .u8 w w.heap.size A l) (b8 : B8 l) :
    Calls Try.prog 22 #[.slice A l.length c] w fun e w' => ∃ x : Ev, e = .returned (evV x.k x.a x.v) ∧ Below w.heap.size w w' := by
  obtain ⟨W, hW⟩ : ∃ W, W = w.alloc (Obj.cells #[Value.int .i64 0, .int .i64 0, .int .i64 0] 29) := ⟨_, rfl⟩
  have kr : Bk W w.heap.size #[.int .i64 0, .int .i64 0, .int .i64 0] 29 := by rw [hW]; exact Bk.new _ _ _
  have B0 : Below w.heap.size w W := by rw [hW]; exact (Below.refl _ _).alloc (Nat.le_refl _) _
  have hR1 : Rd .u8 W W.heap.size A l := (hR.below B0).lt
  have HW := hide hW
  clear hW hR
  go_enter Try.func22, Try.ntmps22
  go_wp2_with fail
  rw [← HW.out]
  refine (l1Source_any l A c W hR1 b8 hl).mono ?_
  rintro e w1 ⟨rfl, S1, B1⟩
  replace kr := kr.kept B1
  have hgs : w.heap.size < W.heap.size := by have := HW.out; rw [this]; simp
  obtain ⟨gs, hg⟩ : ∃ gs, gs = W.heap.size := ⟨_, rfl⟩
  rw [← hg] at S1 ⊢
  have hgw : w.heap.size < gs := by omega
  have B2 := B0.trans (B1.mono B0.size)
  clear hR1 B1 B0 hg hgs
  go_wp2_with fail
  refine (l7Op_any gs _ A c l w1 S1 (by omega)).mono ?_
  rintro e w2 ⟨x, rfl, _, k2, hk2, S2, g2⟩
  replace kr := kr.grown g2 (by simp; omega)
  have B3 := grown_from B2 g2 B2.size (by omega)
  clear g2 B2 S1
  have ko := Bk.new w2 #[.int .i64 x.k, .int .i64 x.a, .int .i64 x.v] 29
  replace kr := kr.alloc (.cells #[.int .i64 x.k, .int .i64 x.a, .int .i64 x.v] 29)
  have S3 := S2.alloc (.cells #[.int .i64 x.k, .int .i64 x.a, .int .i64 x.v] 29)
  have B4 := B3.alloc B3.size (.cells #[.int .i64 x.k, .int .i64 x.a, .int .i64 x.v] 29)
  have hpg := S2.lt
  obtain ⟨V, hV⟩ : ∃ V, V = w2.alloc (.cells #[.int .i64 x.k, .int .i64 x.a, .int .i64 x.v] 29) := ⟨_, rfl⟩
  obtain ⟨p, hp⟩ : ∃ p, p = w2.heap.size := ⟨_, rfl⟩
  rw [← hV] at ko kr S3 B4
  rw [← hp] at ko hpg
  have HV := hide hV
  have HP := hide hp
  clear hV hp S2 B3
  go_upto_region 3 with fail
  rw [← HV.out, ← HP.out]
  go_wp2_with fail
  refine (l1Next_any gs _ 6 A c l V S3 (by omega) (by omega) (by omega)).mono ?_
  rintro e w4 ⟨s, rfl, hs0, hs1, S4, g4⟩
  replace kr := kr.grown g4 (by simp; omega)
  replace ko := ko.grown g4 (by simp; omega)
  have B5 := grown_from B4 g4 B4.size (by omega)
  clear g4 B4 S3 hs0 hs1
  by_cases e0 : s = 0
  · subst e0
    go_wp2_with fail
    refine (l1Pick_any gs _ _ [-1, 2] A c l _ _ (S4.alloc _) (by omega) (by simp) (by simp) (Bk.new _ _ _) (by have := S4.lt; omega)).mono ?_
    rintro e w5 ⟨r, rfl, _, S5, g5⟩
    replace kr := (kr.alloc (.cells #[.int .i64 (-1), .int .i64 2] 2)).grown g5 (by simp; omega)
    replace ko := (ko.alloc (.cells #[.int .i64 (-1), .int .i64 2] 2)).grown g5 (by simp; omega)
    have B6 := grown_from B5 (grown_alloc g5) B5.size (by omega)
    have hwp : w.heap.size < p := by omega
    clear g5 B5 S4 S5
    have q0 := (ko.cell 0).trans (rfl : _ = some (Value.int .i64 x.k))
    have q1 := ko.frozen 0
    go_upto_region 8 with fail
    clear q0 q1
    have ko2 := ko.set_ 0 (.int .i64 r)
    have kr2 := kr.far (p := ⟨p, 0, none⟩) (by simp only; omega) (.int .i64 r)
    have B7 := B6.setCell (p := ⟨p, 0, none⟩) (by simp only; omega) (.int .i64 r)
    simp only [List.setIfInBounds_toArray, List.set_cons_zero] at ko2
    clear ko kr B6
    generalize w5.setCell ⟨p, 0, none⟩ (.int .i64 r) = Z at ko2 kr2 B7 ⊢
    have y0 := (ko2.cell 0).trans (rfl : _ = some (Value.int .i64 r))
    have z0 := (kr2.cell 0).trans (rfl : _ = some (Value.int .i64 0))
    have f0 := kr2.frozen 0
    have y1 := (ko2.cell 1).trans (rfl : _ = some (Value.int .i64 x.a))
    have z1 := (kr2.cell 1).trans (rfl : _ = some (Value.int .i64 0))
    have f1 := kr2.frozen 1
    have y2 := (ko2.cell 2).trans (rfl : _ = some (Value.int .i64 x.v))
    have z2 := (kr2.cell 2).trans (rfl : _ = some (Value.int .i64 0))
    have f2 := kr2.frozen 2
    have HB := hide B7
    clear ko2 kr2 B7
    go_wp2
    refine bodyPost_ret (v := evV r x.a x.v) (by simp [results, Try.results22, go_sem, z0, z1, z2]) rfl ?_
    exact ⟨⟨r, x.a, x.v⟩, rfl, ((HB.out.setCell (Nat.le_refl _) _).setCell (Nat.le_refl _) _).setCell (Nat.le_refl _) _⟩
  by_cases e1 : s = 1
  · subst e1
    clear e0
    go_wp2_with fail
    refine (l1Pick_any gs _ _ [1000000, 5, -1] A c l _ _ (S4.alloc _) (by omega) (by simp) (by simp) (Bk.new _ _ _) (by have := S4.lt; omega)).mono ?_
    rintro e w5 ⟨r, rfl, _, S5, g5⟩
    replace kr := (kr.alloc (.cells #[.int .i64 1000000, .int .i64 5, .int .i64 (-1)] 2)).grown g5 (by simp; omega)
    replace ko := (ko.alloc (.cells #[.int .i64 1000000, .int .i64 5, .int .i64 (-1)] 2)).grown g5 (by simp; omega)
    have B6 := grown_from B5 (grown_alloc g5) B5.size (by omega)
    have hwp : w.heap.size < p := by omega
    clear g5 B5 S4 S5
    have q0 := (ko.cell 2).trans (rfl : _ = some (Value.int .i64 x.v))
    have q1 := ko.frozen 2
    go_upto_region 8 with fail
    clear q0 q1
    have ko2 := ko.set_ 2 (.int .i64 r)
    have kr2 := kr.far (p := ⟨p, 2, none⟩) (by simp only; omega) (.int .i64 r)
    have B7 := B6.setCell (p := ⟨p, 2, none⟩) (by simp only; omega) (.int .i64 r)
    simp only [List.setIfInBounds_toArray, List.set_cons_zero, List.set_cons_succ] at ko2
    clear ko kr B6
    generalize w5.setCell ⟨p, 2, none⟩ (.int .i64 r) = Z at ko2 kr2 B7 ⊢
    have y0 := (ko2.cell 0).trans (rfl : _ = some (Value.int .i64 x.k))
    have z0 := (kr2.cell 0).trans (rfl : _ = some (Value.int .i64 0))
    have f0 := kr2.frozen 0
    have y1 := (ko2.cell 1).trans (rfl : _ = some (Value.int .i64 x.a))
    have z1 := (kr2.cell 1).trans (rfl : _ = some (Value.int .i64 0))
    have f1 := kr2.frozen 1
    have y2 := (ko2.cell 2).trans (rfl : _ = some (Value.int .i64 r))
    have z2 := (kr2.cell 2).trans (rfl : _ = some (Value.int .i64 0))
    have f2 := kr2.frozen 2
    have HB := hide B7
    clear ko2 kr2 B7
    go_wp2
    refine bodyPost_ret (v := evV x.k x.a r) (by simp [results, Try.results22, go_sem, z0, z1, z2]) rfl ?_
    exact ⟨⟨x.k, x.a, r⟩, rfl, ((HB.out.setCell (Nat.le_refl _) _).setCell (Nat.le_refl _) _).setCell (Nat.le_refl _) _⟩
  have b0 : (s == 0) = false := beq_eq_false_iff_ne.2 e0
  have b1 : (s == 1) = false := beq_eq_false_iff_ne.2 e1
  clear e0 e1 S4
  go_upto_region 8 with fail
  have y0 := (ko.cell 0).trans (rfl : _ = some (Value.int .i64 x.k))
  have z0 := (kr.cell 0).trans (rfl : _ = some (Value.int .i64 0))
  have f0 := kr.frozen 0
  have y1 := (ko.cell 1).trans (rfl : _ = some (Value.int .i64 x.a))
  have z1 := (kr.cell 1).trans (rfl : _ = some (Value.int .i64 0))
  have f1 := kr.frozen 1
  have y2 := (ko.cell 2).trans (rfl : _ = some (Value.int .i64 x.v))
  have z2 := (kr.cell 2).trans (rfl : _ = some (Value.int .i64 0))
  have f2 := kr.frozen 2
  have HB := hide B5
  clear ko kr B5
  go_wp2
  refine bodyPost_ret (v := evV x.k x.a x.v) (by simp [results, Try.results22, go_sem, z0, z1, z2]) rfl ?_
  exact ⟨⟨x.k, x.a, x.v⟩, rfl, ((HB.out.setCell (Nat.le_refl _) _).setCell (Nat.le_refl _) _).setCell (Nat.le_refl _) _⟩

set_option maxHeartbeats 800000 in
theorem DrawValueAt_any (l : List Int) (A : Option Addr) (c : Nat) (w : World) (hl : l.length ≤ 1048576) (hR : Rd .u8 w w.heap.size A l) (b8 : B8 l) :
    Calls Try.prog 17 #[.slice A l.length c] w fun e w' => ∃ (m : Mac) (A1 : Option Addr) (c1 : Nat) (A2 : Option Addr) (c2 : Nat) (x : Int), e = .returned (.tuple #[macV A1 m.cs.length c1 A2 m.mem.length c2, .int .i64 x]) ∧ ((1 ≤ m.cs.length ∧ m.cs.length ≤ 5 ∧ 1 ≤ (m.cs.getD 0 []).length ∧ ∀ x ∈ m.cs, x.length ≤ 20) ∧ m.mem.length ≤ 40) ∧ RdMac w' w'.heap.size A1 A2 m ∧ Below w.heap.size w w' := by
  obtain ⟨W, hW⟩ : ∃ W, W = w.alloc (Obj.cells #[.slice none 0 0, .slice none 0 0] 27) := ⟨_, rfl⟩
  have kr : Bk W w.heap.size #[.slice none 0 0, .slice none 0 0] 27 := by rw [hW]; exact Bk.new _ _ _
  have B0 : Below w.heap.size w W := by rw [hW]; exact (Below.refl _ _).alloc (Nat.le_refl _) _
  have hR1 : Rd .u8 W W.heap.size A l := (hR.below B0).lt
  have hgs : w.heap.size < W.heap.size := kr.lt
  have HW := hide hW
  clear hW
  go_enter Try.func17, Try.ntmps17
  go_wp2_with fail
  rw [← HW.out]
  refine (l1Source_any l A c W hR1 b8 hl).mono ?_
  rintro e w1 ⟨rfl, S1, B1⟩
  replace kr := kr.kept B1
  obtain ⟨gs, hg⟩ : ∃ gs, gs = W.heap.size := ⟨_, rfl⟩
  rw [← hg] at S1 hgs ⊢
  have B2 := B0.trans (B1.mono B0.size)
  have z1 := kr.lt
  have zs1 := S1.lt
  clear hR1 B1 B0 hg
  go_wp2_with fail
  refine (l7Machine_any gs _ A c l w1 S1 (by omega)).mono ?_
  rintro e w2 ⟨m, A1, c1, A2, c2, us, rfl, om, hmc, hmm, k2, hk2, S2, g2⟩
  replace kr := kr.grown g2 (by simp; omega)
  have B3 := grown_from B2 g2 B2.size (by omega)
  have z2 := g2.size
  clear g2 B2 S1
  go_wp2_with fail
  refine (l1Pick_any gs _ _ [0, 1, 2, 4, 5, 999999, 1000000, -1] A c l _ _ (S2.alloc _) (by omega) (by simp) (by simp) (Bk.new _ _ _) (by have := S2.lt; omega)).mono ?_
  rintro e w3 ⟨x, rfl, _, S3, g3⟩
  replace kr := (kr.alloc (.cells #[.int .i64 0, .int .i64 1, .int .i64 2, .int .i64 4, .int .i64 5, .int .i64 999999, .int .i64 1000000, .int .i64 (-1)] 2)).grown g3 (by simp; omega)
  have B4 := grown_from B3 (grown_alloc g3) B3.size (by omega)
  have om3 := om.drawn g3 (o := (.cells #[.int .i64 0, .int .i64 1, .int .i64 2, .int .i64 4, .int .i64 5, .int .i64 999999, .int .i64 1000000, .int .i64 (-1)] 2)) (by omega)
  have z3 := kr.lt
  clear g3 B3 S2 S3 om
  have z0 := (kr.cell 0).trans (rfl : _ = some (Value.slice none 0 0))
  have z1' := (kr.cell 1).trans (rfl : _ = some (Value.slice none 0 0))
  have f0 := kr.frozen 0
  have f1 := kr.frozen 1
  have HB := hide B4
  have HO := hide om3
  clear kr B4 om3
  go_wp2
  refine bodyPost_ret (v := .tuple #[macV A1 m.cs.length c1 A2 m.mem.length c2, .int .i64 x]) (by simp [results, Try.results17, go_sem, z0, z1']) rfl ?_
  have ho := (HO.out.set_ (b := w.heap.size) (i := 0) (by omega) (.slice A1 m.cs.length c1)).set_ (b := w.heap.size) (i := 1) (by omega) (.slice A2 m.mem.length c2)
  exact ⟨m, A1, c1, A2, c2, x, rfl, ⟨hmc, hmm⟩, ho.rd, (HB.out.setCell (Nat.le_refl _) _).setCell (Nat.le_refl _) _⟩

set_option maxRecDepth 100000 in
set_option maxHeartbeats 3200000 in
theorem DrawDoOp_any (l : List Int) (A : Option Addr) (c : Nat) (w : World) (hl : l.length ≤ 1048576) (hR : Rd .u8 w w.heap.size A l) (b8 : B8 l) :
    Calls Try.prog 14 #[.slice A l.length c] w fun e w' => ∃ (m : Mac) (A1 : Option Addr) (c1 : Nat) (A2 : Option Addr) (c2 : Nat) (y : Int) (x : Ev), e = .returned (.tuple #[macV A1 m.cs.length c1 A2 m.mem.length c2, .int .i64 y, evV x.k x.a x.v]) ∧ ((1 ≤ m.cs.length ∧ m.cs.length ≤ 5 ∧ 1 ≤ (m.cs.getD 0 []).length ∧ ∀ x ∈ m.cs, x.length ≤ 20) ∧ m.mem.length ≤ 40) ∧ (-1 ≤ y ∧ y ≤ 3) ∧ RdMac w' w'.heap.size A1 A2 m ∧ Below w.heap.size w w' := by
  obtain ⟨W, hW⟩ : ∃ W, W = (w.alloc (Obj.cells #[.slice none 0 0, .slice none 0 0] 27)).alloc (Obj.cells #[.int .i64 0, .int .i64 0, .int .i64 0] 29) := ⟨_, rfl⟩
  obtain ⟨kr, ko, hz, B0⟩ := two_new _ _ _ _ _ W hW
  have HW := hide hW
  have hR1 : Rd .u8 W W.heap.size A l := (hR.below B0).lt
  have hRR := hide hR
  clear hW hR
  go_enter Try.func14, Try.ntmps14
  go_wp2_with fail
  rw [← HW.out]
  refine (l1Source_any l A c W hR1 b8 hl).mono ?_
  rintro e w1 ⟨rfl, S1, B1⟩
  replace kr := kr.kept B1
  replace ko := ko.kept B1
  have hgs : w.heap.size + 1 < W.heap.size := by have := HW.out; rw [this]; simp
  obtain ⟨gs, hg⟩ : ∃ gs, gs = W.heap.size := ⟨_, rfl⟩
  rw [← hg] at S1 hgs ⊢
  have B2 := B0.trans (B1.mono B0.size)
  have z1 := S1.lt
  clear hR1 B1 B0 hg hz
  go_wp2_with fail
  refine (l7Machine_any gs _ A c l w1 S1 (by omega)).mono ?_
  rintro e w2 ⟨m, A1, c1, A2, c2, us, rfl, om, hmc, hmm, k2, hk2, S2, g2⟩
  replace kr := kr.grown g2 (by simp; omega)
  replace ko := ko.grown g2 (by simp; omega)
  have B3 := grown_from B2 g2 B2.size (by omega)
  have z2 := g2.size
  obtain ⟨b1, hb1⟩ : ∃ b1, b1 = w1.heap.size := ⟨_, rfl⟩
  rw [← hb1] at om z1 z2
  clear g2 B2 S1 hb1
  have MC : ∀ _ : True, True := fun h => h
  have e6 := (Below.refl w2.heap.size w2).alloc (Nat.le_refl _) (Obj.cells #[.slice A1 m.cs.length c1, .slice A2 m.mem.length c2] 27)
  have k6 := Bk.new w2 #[.slice A1 m.cs.length c1, .slice A2 m.mem.length c2] 27
  replace kr := kr.kept e6
  replace ko := ko.kept e6
  have S3 := S2.below e6 S2.lt
  replace om := om.below e6
  have B4 := B3.trans (e6.mono B3.size)
  obtain ⟨V, hV⟩ : ∃ V, V = w2.alloc (Obj.cells #[.slice A1 m.cs.length c1, .slice A2 m.mem.length c2] 27) := ⟨_, rfl⟩
  obtain ⟨p6, hp⟩ : ∃ p6, p6 = w2.heap.size := ⟨_, rfl⟩
  rw [← hV] at k6 kr ko S3 om B4
  rw [← hp] at k6
  have hp6 : gs < p6 := by omega
  have HV := hide hV
  have HP := hide hp
  clear hV hp e6 S2 B3 MC
  go_upto_region 3 with fail
  rw [← HV.out, ← HP.out]
  go_wp2_with fail
  refine (l7Op_any gs _ A c l V S3 (by omega)).mono ?_
  rintro e w3 ⟨x, rfl, _, k3, hk3, S4, g4⟩
  replace kr := kr.grown g4 (by simp; omega)
  replace ko := ko.grown g4 (by simp; omega)
  replace k6 := k6.grown g4 (by simp; omega)
  replace om := om.drawn0 g4 (by omega)
  have B5 := grown_from B4 g4 B4.size (by omega)
  have z3 := k6.lt
  clear g4 B4 S3
  have e7 := (Below.refl w3.heap.size w3).alloc (Nat.le_refl _) (Obj.cells #[.int .i64 x.k, .int .i64 x.a, .int .i64 x.v] 29)
  have k7 := Bk.new w3 #[.int .i64 x.k, .int .i64 x.a, .int .i64 x.v] 29
  replace kr := kr.kept e7
  replace ko := ko.kept e7
  replace k6 := k6.kept e7
  have S5 := S4.below e7 S4.lt
  replace om := om.below e7
  have B6 := B5.trans (e7.mono B5.size)
  obtain ⟨U, hU⟩ : ∃ U, U = w3.alloc (Obj.cells #[.int .i64 x.k, .int .i64 x.a, .int .i64 x.v] 29) := ⟨_, rfl⟩
  obtain ⟨p7, hp⟩ : ∃ p7, p7 = w3.heap.size := ⟨_, rfl⟩
  rw [← hU] at k6 k7 kr ko S5 om B6
  rw [← hp] at k7
  have hp7 : p6 < p7 := by omega
  have HU := hide hU
  have HP7 := hide hp
  clear hU hp e7 S4 B5
  go_upto_region 4 with fail
  rw [← HU.out, ← HP7.out]
  go_wp2_with fail
  refine (l1Chance_any gs _ 12 A c l U S5 (by omega) (by omega) (by omega)).mono ?_
  rintro e w4 ⟨bb, rfl, S6, g6⟩
  replace kr := kr.grown g6 (by simp; omega)
  replace ko := ko.grown g6 (by simp; omega)
  replace k6 := k6.grown g6 (by simp; omega)
  replace k7 := k7.grown g6 (by simp; omega)
  replace om := om.drawn0 g6 (by omega)
  have B7 := grown_from B6 g6 B6.size (by omega)
  clear g6 B6 S5
  have hk9 : k3 + 1 ≤ 1000 := by omega
  cases bb
  case false =>
    go_wp2_with fail
    replace kr := kr.kept (Below.refl w4.heap.size w4).drew
    replace ko := ko.kept (Below.refl w4.heap.size w4).drew
    replace k6 := k6.kept (Below.refl w4.heap.size w4).drew
    replace k7 := k7.kept (Below.refl w4.heap.size w4).drew
    replace om := om.below (Below.refl w4.heap.size w4).drew
    have S9 := S6.below (Below.refl w4.heap.size w4).drew S6.lt
    have B9 := B7.trans ((Below.refl w4.heap.size w4).drew.mono B7.size)
    clear S6 B7
    have a0 := (k6.cell 0).trans (rfl : _ = some (Value.slice A1 m.cs.length c1))
    have a1 := (k6.cell 1).trans (rfl : _ = some (Value.slice A2 m.mem.length c2))
    have a2 := (k7.cell 0).trans (rfl : _ = some (Value.int .i64 x.k))
    have a3 := (k7.cell 1).trans (rfl : _ = some (Value.int .i64 x.a))
    have a4 := (k7.cell 2).trans (rfl : _ = some (Value.int .i64 x.v))
    refine wp_region_F 99 (fun w' => w'.cell? ⟨p6, 0, none⟩ = some (Value.slice A1 m.cs.length c1) ∧ w'.cell? ⟨p6, 1, none⟩ = some (Value.slice A2 m.mem.length c2) ∧ w'.cell? ⟨p7, 0, none⟩ = some (Value.int .i64 x.k) ∧ w'.cell? ⟨p7, 1, none⟩ = some (Value.int .i64 x.a) ∧ w'.cell? ⟨p7, 2, none⟩ = some (Value.int .i64 x.v)) (fun w' => True) (by kernel_rfl) ⟨⟨a0, a1, a2, a3, a4⟩, trivial⟩ (fun hHeld => ?_)
    try simp only [Act.put, List.setIfInBounds_toArray, List.set_cons_zero, List.set_cons_succ]
    clear a0 a1 a2 a3 a4
    generalize w4.drew = Z at *
    refine wpAnyF_keep (i := 0) (v := ?_) (by (simp only [List.getElem?_toArray, List.getElem?_cons_zero]; rfl)) (by kernel_rfl) (by kernel_rfl) (by kernel_rfl) (by decide) (by exact fun _ _ _ h => h) ⟨hHeld.1, .inr hHeld.2⟩ (Or.inl ⟨by rfl, ?_⟩) ?_
    rotate_left
    · (intro w' hSw; (try dsimp only at hSw); obtain ⟨hSa0, hSa1, hSa2, hSa3, hSa4⟩ := hSw; go_simp <;> with_reducible rfl)
    try simp only [Act.put, List.setIfInBounds_toArray, List.set_cons_zero, List.set_cons_succ]
    refine wpAnyF_take (i := 1) (v := ?_) (by (simp only [List.getElem?_toArray, List.getElem?_cons_succ, List.getElem?_cons_zero]; rfl)) (by kernel_rfl) (by kernel_rfl) (by kernel_rfl) (by decide) (by exact fun _ _ _ h => h) ⟨hHeld.1, .inr hHeld.2⟩ (Or.inl ⟨by rfl, ?_⟩) ?_
    rotate_left
    · (intro w' _; go_simp <;> with_reducible rfl)
    try simp only [Act.put, List.setIfInBounds_toArray, List.set_cons_zero, List.set_cons_succ]
    refine wpAnyF_keep (i := 4) (v := ?_) (by (simp only [List.getElem?_toArray, List.getElem?_cons_succ, List.getElem?_cons_zero]; rfl)) (by kernel_rfl) (by kernel_rfl) (by kernel_rfl) (by decide) (by exact fun _ _ _ h => h) ⟨hHeld.1, .inr hHeld.2⟩ (Or.inl ⟨by rfl, ?_⟩) ?_
    rotate_left
    · (intro w' hSw; (try dsimp only at hSw); obtain ⟨hSa0, hSa1, hSa2, hSa3, hSa4⟩ := hSw; go_simp <;> with_reducible rfl)
    try simp only [Act.put, List.setIfInBounds_toArray, List.set_cons_zero, List.set_cons_succ]
    refine wpAnyF_ready (rs := [2]) (by kernel_rfl) (by simp) ?_
    refine AllReadyF.cons (by (simp only [List.getElem?_toArray, List.getElem?_cons_succ, List.getElem?_cons_zero]; rfl)) (fun K hK => ?_) AllReadyF.nil
    go_simp
    have hh := Bk.new Z #[.int .i64 0, .int .i64 0, .int .i64 1, .int .i64 2, .int .i64 3, .int .i64 (-1)] 2
    have hgz := S9.lt
    replace kr := kr.alloc (.cells #[.int .i64 0, .int .i64 0, .int .i64 1, .int .i64 2, .int .i64 3, .int .i64 (-1)] 2)
    replace ko := ko.alloc (.cells #[.int .i64 0, .int .i64 0, .int .i64 1, .int .i64 2, .int .i64 3, .int .i64 (-1)] 2)
    replace k6 := k6.alloc (.cells #[.int .i64 0, .int .i64 0, .int .i64 1, .int .i64 2, .int .i64 3, .int .i64 (-1)] 2)
    replace k7 := k7.alloc (.cells #[.int .i64 0, .int .i64 0, .int .i64 1, .int .i64 2, .int .i64 3, .int .i64 (-1)] 2)
    replace om := om.alloc (.cells #[.int .i64 0, .int .i64 0, .int .i64 1, .int .i64 2, .int .i64 3, .int .i64 (-1)] 2)
    replace S9 := S9.alloc (.cells #[.int .i64 0, .int .i64 0, .int .i64 1, .int .i64 2, .int .i64 3, .int .i64 (-1)] 2)
    replace B9 := B9.alloc B9.size (.cells #[.int .i64 0, .int .i64 0, .int .i64 1, .int .i64 2, .int .i64 3, .int .i64 (-1)] 2)
    refine hK.out _ _ ⟨⟨(k6.cell 0).trans rfl, (k6.cell 1).trans rfl, (k7.cell 0).trans rfl, (k7.cell 1).trans rfl, (k7.cell 2).trans rfl⟩, trivial⟩ (fun hNew => ?_)
    clear hK K hHeld
    have hHeld := hNew
    clear hNew
    try simp only [Act.put, List.setIfInBounds_toArray, List.set_cons_zero, List.set_cons_succ]
    refine wpAnyF_ready (rs := [3]) (by kernel_rfl) (by simp) ?_
    refine AllReadyF.cons (by (simp only [List.getElem?_toArray, List.getElem?_cons_succ, List.getElem?_cons_zero]; rfl)) (fun K hK => ?_) AllReadyF.nil
    go_simp
    go_at_call 63
    refine (l1Pick_any gs _ _ [0, 0, 1, 2, 3, -1] A c l _ _ S9 (by omega) (by simp) (by simp) hh (by omega)).mono ?_
    rintro e wz ⟨y, rfl, hy, S10, g9⟩
    have hy' : -1 ≤ y ∧ y ≤ 3 := (by simp at hy; omega)
    replace kr := kr.grown g9 (by simp; omega)
    replace ko := ko.grown g9 (by simp; omega)
    replace k6 := k6.grown g9 (by simp; omega)
    replace k7 := k7.grown g9 (by simp; omega)
    replace om := om.drawn0 g9 (by omega)
    have B10 := grown_from B9 g9 B9.size (by omega)
    clear S9 S10 g9 hy hh B9
    refine hK.out _ _ ⟨⟨(k6.cell 0).trans rfl, (k6.cell 1).trans rfl, (k7.cell 0).trans rfl, (k7.cell 1).trans rfl, (k7.cell 2).trans rfl⟩, trivial⟩ (fun hNew => ?_)
    clear hK K hHeld
    have hHeld := hNew
    clear hNew
    try simp only [Act.put, List.setIfInBounds_toArray, List.set_cons_zero, List.set_cons_succ]
    refine wpAnyF_ready (rs := [5]) (by kernel_rfl) (by simp) ?_
    refine AllReadyF.cons (by (simp only [List.getElem?_toArray, List.getElem?_cons_succ, List.getElem?_cons_zero]; rfl)) (fun K hK => ?_) AllReadyF.nil
    have z0 := (kr.cell 0).trans (rfl : _ = some (Value.slice none 0 0))
    have z1' := (kr.cell 1).trans (rfl : _ = some (Value.slice none 0 0))
    have f0 := kr.frozen 0
    have f1 := kr.frozen 1
    go_simp
    clear z0 z1' f0 f1
    replace kr := (kr.set_ 0 (.slice A1 m.cs.length c1)).set_ 1 (.slice A2 m.mem.length c2)
    simp only [List.setIfInBounds_toArray, List.set_cons_zero, List.set_cons_succ] at kr
    replace ko := (ko.far (p := ⟨w.heap.size, 0, none⟩) (by simp only; omega) (.slice A1 m.cs.length c1)).far (p := ⟨w.heap.size, 1, none⟩) (by simp only; omega) (.slice A2 m.mem.length c2)
    replace k6 := (k6.far (p := ⟨w.heap.size, 0, none⟩) (by simp only; omega) (.slice A1 m.cs.length c1)).far (p := ⟨w.heap.size, 1, none⟩) (by simp only; omega) (.slice A2 m.mem.length c2)
    replace k7 := (k7.far (p := ⟨w.heap.size, 0, none⟩) (by simp only; omega) (.slice A1 m.cs.length c1)).far (p := ⟨w.heap.size, 1, none⟩) (by simp only; omega) (.slice A2 m.mem.length c2)
    replace om := (om.set_ (b := w.heap.size) (i := 0) (by omega) (.slice A1 m.cs.length c1)).set_ (b := w.heap.size) (i := 1) (by omega) (.slice A2 m.mem.length c2)
    replace B10 := (B10.setCell (p := ⟨w.heap.size, 0, none⟩) (Nat.le_refl _) (.slice A1 m.cs.length c1)).setCell (p := ⟨w.heap.size, 1, none⟩) (Nat.le_refl _) (.slice A2 m.mem.length c2)
    refine hK.out _ _ ⟨⟨(k6.cell 0).trans rfl, (k6.cell 1).trans rfl, (k7.cell 0).trans rfl, (k7.cell 1).trans rfl, (k7.cell 2).trans rfl⟩, trivial⟩ (fun hNew => ?_)
    clear hK K hHeld
    have hHeld := hNew
    clear hNew
    try simp only [Act.put, List.setIfInBounds_toArray, List.set_cons_zero, List.set_cons_succ]
    generalize (wz.setCell ⟨w.heap.size, 0, none⟩ (.slice A1 m.cs.length c1)).setCell ⟨w.heap.size, 1, none⟩ (.slice A2 m.mem.length c2) = Y at *
    refine wpAnyF_take (i := 6) (v := ?_) (by (simp only [List.getElem?_toArray, List.getElem?_cons_succ, List.getElem?_cons_zero]; rfl)) (by kernel_rfl) (by kernel_rfl) (by kernel_rfl) (by decide) (by exact fun _ _ _ h => h) ⟨hHeld.1, .inr hHeld.2⟩ (Or.inl ⟨by rfl, ?_⟩) ?_
    rotate_left
    · (intro w' _; go_simp <;> with_reducible rfl)
    try simp only [Act.put, List.setIfInBounds_toArray, List.set_cons_zero, List.set_cons_succ]
    refine wpAnyF_ready (rs := [7]) (by kernel_rfl) (by simp) ?_
    refine AllReadyF.cons (by (simp only [List.getElem?_toArray, List.getElem?_cons_succ, List.getElem?_cons_zero]; rfl)) (fun K hK => ?_) AllReadyF.nil
    have z0 := (ko.cell 0).trans (rfl : _ = some (Value.int .i64 0))
    have z1' := (ko.cell 1).trans (rfl : _ = some (Value.int .i64 0))
    have z2' := (ko.cell 2).trans (rfl : _ = some (Value.int .i64 0))
    have f0 := ko.frozen 0
    have f1 := ko.frozen 1
    have f2 := ko.frozen 2
    go_simp
    clear z0 z1' z2' f0 f1 f2
    replace ko := ((ko.set_ 0 (.int .i64 x.k)).set_ 1 (.int .i64 x.a)).set_ 2 (.int .i64 x.v)
    simp only [List.setIfInBounds_toArray, List.set_cons_zero, List.set_cons_succ] at ko
    replace kr := ((kr.far (p := ⟨w.heap.size + 1, 0, none⟩) (by simp only; omega) (.int .i64 x.k)).far (p := ⟨w.heap.size + 1, 1, none⟩) (by simp only; omega) (.int .i64 x.a)).far (p := ⟨w.heap.size + 1, 2, none⟩) (by simp only; omega) (.int .i64 x.v)
    replace k6 := ((k6.far (p := ⟨w.heap.size + 1, 0, none⟩) (by simp only; omega) (.int .i64 x.k)).far (p := ⟨w.heap.size + 1, 1, none⟩) (by simp only; omega) (.int .i64 x.a)).far (p := ⟨w.heap.size + 1, 2, none⟩) (by simp only; omega) (.int .i64 x.v)
    replace k7 := ((k7.far (p := ⟨w.heap.size + 1, 0, none⟩) (by simp only; omega) (.int .i64 x.k)).far (p := ⟨w.heap.size + 1, 1, none⟩) (by simp only; omega) (.int .i64 x.a)).far (p := ⟨w.heap.size + 1, 2, none⟩) (by simp only; omega) (.int .i64 x.v)
    replace om := ((om.set_ (b := w.heap.size + 1) (i := 0) (by omega) (.int .i64 x.k)).set_ (b := w.heap.size + 1) (i := 1) (by omega) (.int .i64 x.a)).set_ (b := w.heap.size + 1) (i := 2) (by omega) (.int .i64 x.v)
    replace B10 := ((B10.setCell (p := ⟨w.heap.size + 1, 0, none⟩) (by simp only; omega) (.int .i64 x.k)).setCell (p := ⟨w.heap.size + 1, 1, none⟩) (by simp only; omega) (.int .i64 x.a)).setCell (p := ⟨w.heap.size + 1, 2, none⟩) (by simp only; omega) (.int .i64 x.v)
    refine hK.out _ _ ⟨⟨(k6.cell 0).trans rfl, (k6.cell 1).trans rfl, (k7.cell 0).trans rfl, (k7.cell 1).trans rfl, (k7.cell 2).trans rfl⟩, trivial⟩ (fun hNew => ?_)
    clear hK K hHeld
    have hHeld := hNew
    clear hNew
    try simp only [Act.put, List.setIfInBounds_toArray, List.set_cons_zero, List.set_cons_succ]
    generalize ((Y.setCell ⟨w.heap.size + 1, 0, none⟩ (.int .i64 x.k)).setCell ⟨w.heap.size + 1, 1, none⟩ (.int .i64 x.a)).setCell ⟨w.heap.size + 1, 2, none⟩ (.int .i64 x.v) = Y2 at *
    refine wpAnyF_done (by kernel_rfl) ?_ _
    have m0 := (kr.cell 0).trans (rfl : _ = some (Value.slice A1 m.cs.length c1))
    have m1 := (kr.cell 1).trans (rfl : _ = some (Value.slice A2 m.mem.length c2))
    have x0 := (ko.cell 0).trans (rfl : _ = some (Value.int .i64 x.k))
    have x1 := (ko.cell 1).trans (rfl : _ = some (Value.int .i64 x.a))
    have x2 := (ko.cell 2).trans (rfl : _ = some (Value.int .i64 x.v))
    have HO := hide om
    have HB := hide B10
    clear kr ko k6 k7 om B10 hHeld
    go_wp2
    refine bodyPost_ret (v := .tuple #[macV A1 m.cs.length c1 A2 m.mem.length c2, .int .i64 y, evV x.k x.a x.v]) (by simp [results, Try.results14, go_sem, m0, m1, x0, x1, x2]) rfl ?_
    exact ⟨m, A1, c1, A2, c2, y, x, rfl, ⟨hmc, hmm⟩, hy', HO.out.rd, HB.out⟩
  case true =>
    go_wp2_with fail
    refine (DrawOpFault_any l A c w4 hl ((hRR.out.below B7).more B7.size) b8).mono ?_
    rintro e w5 ⟨x', rfl, b5⟩
    replace kr := kr.kept b5
    replace ko := ko.kept b5
    replace k6 := k6.kept b5
    replace k7 := k7.kept b5
    replace om := om.below b5
    have S7 := S6.below b5 S6.lt
    have B8' := B7.trans (b5.mono B7.size)
    clear b5 S6 B7
    have q0 := (k7.cell 0).trans (rfl : _ = some (Value.int .i64 x.k))
    have q1 := (k7.cell 1).trans (rfl : _ = some (Value.int .i64 x.a))
    have q2 := (k7.cell 2).trans (rfl : _ = some (Value.int .i64 x.v))
    have f0 := k7.frozen 0
    have f1 := k7.frozen 1
    have f2 := k7.frozen 2
    go_upto_region 6 with fail
    clear q0 q1 q2 f0 f1 f2
    have k7n := ((k7.set_ 0 (.int .i64 x'.k)).set_ 1 (.int .i64 x'.a)).set_ 2 (.int .i64 x'.v)
    simp only [List.setIfInBounds_toArray, List.set_cons_zero, List.set_cons_succ] at k7n
    have b6 := (((Below.refl p7 w5).setCell (p := ⟨p7, 0, none⟩) (Nat.le_refl _) (.int .i64 x'.k)).setCell (p := ⟨p7, 1, none⟩) (Nat.le_refl _) (.int .i64 x'.a)).setCell (p := ⟨p7, 2, none⟩) (Nat.le_refl _) (.int .i64 x'.v)
    replace kr := kr.below b6 (by omega)
    replace ko := ko.below b6 (by omega)
    replace k6 := k6.below b6 (by omega)
    have om' := ((om.setRow k7 0 (.int .i64 x'.k)).setRow (k7.set_ 0 (.int .i64 x'.k)) 1 (.int .i64 x'.a)).setRow ((k7.set_ 0 (.int .i64 x'.k)).set_ 1 (.int .i64 x'.a)) 2 (.int .i64 x'.v)
    have S8 := S7.below b6 (by omega)
    have B9' := B8'.trans (b6.mono (by omega))
    clear om S7 B8' b6 k7
    generalize ((w5.setCell ⟨p7, 0, none⟩ (.int .i64 x'.k)).setCell ⟨p7, 1, none⟩ (.int .i64 x'.a)).setCell ⟨p7, 2, none⟩ (.int .i64 x'.v) = V7 at *
    have om := om'
    have k7 := k7n
    clear om' k7n
    go_wp2_with fail
    replace kr := kr.kept (Below.refl V7.heap.size V7).drew
    replace ko := ko.kept (Below.refl V7.heap.size V7).drew
    replace k6 := k6.kept (Below.refl V7.heap.size V7).drew
    replace k7 := k7.kept (Below.refl V7.heap.size V7).drew
    replace om := om.below (Below.refl V7.heap.size V7).drew
    have S9 := S8.below (Below.refl V7.heap.size V7).drew S8.lt
    have B9 := B9'.trans ((Below.refl V7.heap.size V7).drew.mono B9'.size)
    clear S8 B9'
    have a0 := (k6.cell 0).trans (rfl : _ = some (Value.slice A1 m.cs.length c1))
    have a1 := (k6.cell 1).trans (rfl : _ = some (Value.slice A2 m.mem.length c2))
    have a2 := (k7.cell 0).trans (rfl : _ = some (Value.int .i64 x'.k))
    have a3 := (k7.cell 1).trans (rfl : _ = some (Value.int .i64 x'.a))
    have a4 := (k7.cell 2).trans (rfl : _ = some (Value.int .i64 x'.v))
    refine wp_region_F 99 (fun w' => w'.cell? ⟨p6, 0, none⟩ = some (Value.slice A1 m.cs.length c1) ∧ w'.cell? ⟨p6, 1, none⟩ = some (Value.slice A2 m.mem.length c2) ∧ w'.cell? ⟨p7, 0, none⟩ = some (Value.int .i64 x'.k) ∧ w'.cell? ⟨p7, 1, none⟩ = some (Value.int .i64 x'.a) ∧ w'.cell? ⟨p7, 2, none⟩ = some (Value.int .i64 x'.v)) (fun w' => True) (by kernel_rfl) ⟨⟨a0, a1, a2, a3, a4⟩, trivial⟩ (fun hHeld => ?_)
    try simp only [Act.put, List.setIfInBounds_toArray, List.set_cons_zero, List.set_cons_succ]
    clear a0 a1 a2 a3 a4
    generalize V7.drew = Z at *
    refine wpAnyF_keep (i := 0) (v := ?_) (by (simp only [List.getElem?_toArray, List.getElem?_cons_zero]; rfl)) (by kernel_rfl) (by kernel_rfl) (by kernel_rfl) (by decide) (by exact fun _ _ _ h => h) ⟨hHeld.1, .inr hHeld.2⟩ (Or.inl ⟨by rfl, ?_⟩) ?_
    rotate_left
    · (intro w' hSw; (try dsimp only at hSw); obtain ⟨hSa0, hSa1, hSa2, hSa3, hSa4⟩ := hSw; go_simp <;> with_reducible rfl)
    try simp only [Act.put, List.setIfInBounds_toArray, List.set_cons_zero, List.set_cons_succ]
    refine wpAnyF_take (i := 1) (v := ?_) (by (simp only [List.getElem?_toArray, List.getElem?_cons_succ, List.getElem?_cons_zero]; rfl)) (by kernel_rfl) (by kernel_rfl) (by kernel_rfl) (by decide) (by exact fun _ _ _ h => h) ⟨hHeld.1, .inr hHeld.2⟩ (Or.inl ⟨by rfl, ?_⟩) ?_
    rotate_left
    · (intro w' _; go_simp <;> with_reducible rfl)
    try simp only [Act.put, List.setIfInBounds_toArray, List.set_cons_zero, List.set_cons_succ]
    refine wpAnyF_keep (i := 4) (v := ?_) (by (simp only [List.getElem?_toArray, List.getElem?_cons_succ, List.getElem?_cons_zero]; rfl)) (by kernel_rfl) (by kernel_rfl) (by kernel_rfl) (by decide) (by exact fun _ _ _ h => h) ⟨hHeld.1, .inr hHeld.2⟩ (Or.inl ⟨by rfl, ?_⟩) ?_
    rotate_left
    · (intro w' hSw; (try dsimp only at hSw); obtain ⟨hSa0, hSa1, hSa2, hSa3, hSa4⟩ := hSw; go_simp <;> with_reducible rfl)
    try simp only [Act.put, List.setIfInBounds_toArray, List.set_cons_zero, List.set_cons_succ]
    refine wpAnyF_ready (rs := [2]) (by kernel_rfl) (by simp) ?_
    refine AllReadyF.cons (by (simp only [List.getElem?_toArray, List.getElem?_cons_succ, List.getElem?_cons_zero]; rfl)) (fun K hK => ?_) AllReadyF.nil
    go_simp
    have hh := Bk.new Z #[.int .i64 0, .int .i64 0, .int .i64 1, .int .i64 2, .int .i64 3, .int .i64 (-1)] 2
    have hgz := S9.lt
    replace kr := kr.alloc (.cells #[.int .i64 0, .int .i64 0, .int .i64 1, .int .i64 2, .int .i64 3, .int .i64 (-1)] 2)
    replace ko := ko.alloc (.cells #[.int .i64 0, .int .i64 0, .int .i64 1, .int .i64 2, .int .i64 3, .int .i64 (-1)] 2)
    replace k6 := k6.alloc (.cells #[.int .i64 0, .int .i64 0, .int .i64 1, .int .i64 2, .int .i64 3, .int .i64 (-1)] 2)
    replace k7 := k7.alloc (.cells #[.int .i64 0, .int .i64 0, .int .i64 1, .int .i64 2, .int .i64 3, .int .i64 (-1)] 2)
    replace om := om.alloc (.cells #[.int .i64 0, .int .i64 0, .int .i64 1, .int .i64 2, .int .i64 3, .int .i64 (-1)] 2)
    replace S9 := S9.alloc (.cells #[.int .i64 0, .int .i64 0, .int .i64 1, .int .i64 2, .int .i64 3, .int .i64 (-1)] 2)
    replace B9 := B9.alloc B9.size (.cells #[.int .i64 0, .int .i64 0, .int .i64 1, .int .i64 2, .int .i64 3, .int .i64 (-1)] 2)
    refine hK.out _ _ ⟨⟨(k6.cell 0).trans rfl, (k6.cell 1).trans rfl, (k7.cell 0).trans rfl, (k7.cell 1).trans rfl, (k7.cell 2).trans rfl⟩, trivial⟩ (fun hNew => ?_)
    clear hK K hHeld
    have hHeld := hNew
    clear hNew
    try simp only [Act.put, List.setIfInBounds_toArray, List.set_cons_zero, List.set_cons_succ]
    refine wpAnyF_ready (rs := [3]) (by kernel_rfl) (by simp) ?_
    refine AllReadyF.cons (by (simp only [List.getElem?_toArray, List.getElem?_cons_succ, List.getElem?_cons_zero]; rfl)) (fun K hK => ?_) AllReadyF.nil
    go_simp
    go_at_call 63
    refine (l1Pick_any gs _ _ [0, 0, 1, 2, 3, -1] A c l _ _ S9 (by omega) (by simp) (by simp) hh (by omega)).mono ?_
    rintro e wz ⟨y, rfl, hy, S10, g9⟩
    have hy' : -1 ≤ y ∧ y ≤ 3 := (by simp at hy; omega)
    replace kr := kr.grown g9 (by simp; omega)
    replace ko := ko.grown g9 (by simp; omega)
    replace k6 := k6.grown g9 (by simp; omega)
    replace k7 := k7.grown g9 (by simp; omega)
    replace om := om.drawn0 g9 (by omega)
    have B10 := grown_from B9 g9 B9.size (by omega)
    clear S9 S10 g9 hy hh B9
    refine hK.out _ _ ⟨⟨(k6.cell 0).trans rfl, (k6.cell 1).trans rfl, (k7.cell 0).trans rfl, (k7.cell 1).trans rfl, (k7.cell 2).trans rfl⟩, trivial⟩ (fun hNew => ?_)
    clear hK K hHeld
    have hHeld := hNew
    clear hNew
    try simp only [Act.put, List.setIfInBounds_toArray, List.set_cons_zero, List.set_cons_succ]
    refine wpAnyF_ready (rs := [5]) (by kernel_rfl) (by simp) ?_
    refine AllReadyF.cons (by (simp only [List.getElem?_toArray, List.getElem?_cons_succ, List.getElem?_cons_zero]; rfl)) (fun K hK => ?_) AllReadyF.nil
    have z0 := (kr.cell 0).trans (rfl : _ = some (Value.slice none 0 0))
    have z1' := (kr.cell 1).trans (rfl : _ = some (Value.slice none 0 0))
    have f0 := kr.frozen 0
    have f1 := kr.frozen 1
    go_simp
    clear z0 z1' f0 f1
    replace kr := (kr.set_ 0 (.slice A1 m.cs.length c1)).set_ 1 (.slice A2 m.mem.length c2)
    simp only [List.setIfInBounds_toArray, List.set_cons_zero, List.set_cons_succ] at kr
    replace ko := (ko.far (p := ⟨w.heap.size, 0, none⟩) (by simp only; omega) (.slice A1 m.cs.length c1)).far (p := ⟨w.heap.size, 1, none⟩) (by simp only; omega) (.slice A2 m.mem.length c2)
    replace k6 := (k6.far (p := ⟨w.heap.size, 0, none⟩) (by simp only; omega) (.slice A1 m.cs.length c1)).far (p := ⟨w.heap.size, 1, none⟩) (by simp only; omega) (.slice A2 m.mem.length c2)
    replace k7 := (k7.far (p := ⟨w.heap.size, 0, none⟩) (by simp only; omega) (.slice A1 m.cs.length c1)).far (p := ⟨w.heap.size, 1, none⟩) (by simp only; omega) (.slice A2 m.mem.length c2)
    replace om := (om.set_ (b := w.heap.size) (i := 0) (by omega) (.slice A1 m.cs.length c1)).set_ (b := w.heap.size) (i := 1) (by omega) (.slice A2 m.mem.length c2)
    replace B10 := (B10.setCell (p := ⟨w.heap.size, 0, none⟩) (Nat.le_refl _) (.slice A1 m.cs.length c1)).setCell (p := ⟨w.heap.size, 1, none⟩) (Nat.le_refl _) (.slice A2 m.mem.length c2)
    refine hK.out _ _ ⟨⟨(k6.cell 0).trans rfl, (k6.cell 1).trans rfl, (k7.cell 0).trans rfl, (k7.cell 1).trans rfl, (k7.cell 2).trans rfl⟩, trivial⟩ (fun hNew => ?_)
    clear hK K hHeld
    have hHeld := hNew
    clear hNew
    try simp only [Act.put, List.setIfInBounds_toArray, List.set_cons_zero, List.set_cons_succ]
    generalize (wz.setCell ⟨w.heap.size, 0, none⟩ (.slice A1 m.cs.length c1)).setCell ⟨w.heap.size, 1, none⟩ (.slice A2 m.mem.length c2) = Y at *
    refine wpAnyF_take (i := 6) (v := ?_) (by (simp only [List.getElem?_toArray, List.getElem?_cons_succ, List.getElem?_cons_zero]; rfl)) (by kernel_rfl) (by kernel_rfl) (by kernel_rfl) (by decide) (by exact fun _ _ _ h => h) ⟨hHeld.1, .inr hHeld.2⟩ (Or.inl ⟨by rfl, ?_⟩) ?_
    rotate_left
    · (intro w' _; go_simp <;> with_reducible rfl)
    try simp only [Act.put, List.setIfInBounds_toArray, List.set_cons_zero, List.set_cons_succ]
    refine wpAnyF_ready (rs := [7]) (by kernel_rfl) (by simp) ?_
    refine AllReadyF.cons (by (simp only [List.getElem?_toArray, List.getElem?_cons_succ, List.getElem?_cons_zero]; rfl)) (fun K hK => ?_) AllReadyF.nil
    have z0 := (ko.cell 0).trans (rfl : _ = some (Value.int .i64 0))
    have z1' := (ko.cell 1).trans (rfl : _ = some (Value.int .i64 0))
    have z2' := (ko.cell 2).trans (rfl : _ = some (Value.int .i64 0))
    have f0 := ko.frozen 0
    have f1 := ko.frozen 1
    have f2 := ko.frozen 2
    go_simp
    clear z0 z1' z2' f0 f1 f2
    replace ko := ((ko.set_ 0 (.int .i64 x'.k)).set_ 1 (.int .i64 x'.a)).set_ 2 (.int .i64 x'.v)
    simp only [List.setIfInBounds_toArray, List.set_cons_zero, List.set_cons_succ] at ko
    replace kr := ((kr.far (p := ⟨w.heap.size + 1, 0, none⟩) (by simp only; omega) (.int .i64 x'.k)).far (p := ⟨w.heap.size + 1, 1, none⟩) (by simp only; omega) (.int .i64 x'.a)).far (p := ⟨w.heap.size + 1, 2, none⟩) (by simp only; omega) (.int .i64 x'.v)
    replace k6 := ((k6.far (p := ⟨w.heap.size + 1, 0, none⟩) (by simp only; omega) (.int .i64 x'.k)).far (p := ⟨w.heap.size + 1, 1, none⟩) (by simp only; omega) (.int .i64 x'.a)).far (p := ⟨w.heap.size + 1, 2, none⟩) (by simp only; omega) (.int .i64 x'.v)
    replace k7 := ((k7.far (p := ⟨w.heap.size + 1, 0, none⟩) (by simp only; omega) (.int .i64 x'.k)).far (p := ⟨w.heap.size + 1, 1, none⟩) (by simp only; omega) (.int .i64 x'.a)).far (p := ⟨w.heap.size + 1, 2, none⟩) (by simp only; omega) (.int .i64 x'.v)
    replace om := ((om.set_ (b := w.heap.size + 1) (i := 0) (by omega) (.int .i64 x'.k)).set_ (b := w.heap.size + 1) (i := 1) (by omega) (.int .i64 x'.a)).set_ (b := w.heap.size + 1) (i := 2) (by omega) (.int .i64 x'.v)
    replace B10 := ((B10.setCell (p := ⟨w.heap.size + 1, 0, none⟩) (by simp only; omega) (.int .i64 x'.k)).setCell (p := ⟨w.heap.size + 1, 1, none⟩) (by simp only; omega) (.int .i64 x'.a)).setCell (p := ⟨w.heap.size + 1, 2, none⟩) (by simp only; omega) (.int .i64 x'.v)
    refine hK.out _ _ ⟨⟨(k6.cell 0).trans rfl, (k6.cell 1).trans rfl, (k7.cell 0).trans rfl, (k7.cell 1).trans rfl, (k7.cell 2).trans rfl⟩, trivial⟩ (fun hNew => ?_)
    clear hK K hHeld
    have hHeld := hNew
    clear hNew
    try simp only [Act.put, List.setIfInBounds_toArray, List.set_cons_zero, List.set_cons_succ]
    generalize ((Y.setCell ⟨w.heap.size + 1, 0, none⟩ (.int .i64 x'.k)).setCell ⟨w.heap.size + 1, 1, none⟩ (.int .i64 x'.a)).setCell ⟨w.heap.size + 1, 2, none⟩ (.int .i64 x'.v) = Y2 at *
    refine wpAnyF_done (by kernel_rfl) ?_ _
    have m0 := (kr.cell 0).trans (rfl : _ = some (Value.slice A1 m.cs.length c1))
    have m1 := (kr.cell 1).trans (rfl : _ = some (Value.slice A2 m.mem.length c2))
    have x0 := (ko.cell 0).trans (rfl : _ = some (Value.int .i64 x'.k))
    have x1 := (ko.cell 1).trans (rfl : _ = some (Value.int .i64 x'.a))
    have x2 := (ko.cell 2).trans (rfl : _ = some (Value.int .i64 x'.v))
    have HO := hide om
    have HB := hide B10
    clear kr ko k6 k7 om B10 hHeld
    go_wp2
    refine bodyPost_ret (v := .tuple #[macV A1 m.cs.length c1 A2 m.mem.length c2, .int .i64 y, evV x'.k x'.a x'.v]) (by simp [results, Try.results14, go_sem, m0, m1, x0, x1, x2]) rfl ?_
    exact ⟨m, A1, c1, A2, c2, y, x', rfl, ⟨hmc, hmm⟩, hy', HO.out.rd, HB.out⟩
end Go.Proofs.Ytifijhfeeammkaa
