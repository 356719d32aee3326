/- Contracts of the draws of chapter 3: a frame, a frame with a fault, two frames that are the same or not. -/
import Derived.Test.YtkeifkdaddmkfaaDoorFr
import Derived.Test.YtkeifkdaddmkfaaDoorDrawEv
import Derived.Test.YtkeifkdaddmkfaaDoorOwnT
import Derived.Test.YtkeifkdaddmkfaaDoorAppendE
namespace Go.Proofs.YtkeifkdaddmkfaaDoor
open Go.RowKit

set_option maxRecDepth 100000 in
set_option maxHeartbeats 1000000 in
theorem l3Draw_any (g k : Nat) (A : Option Addr) (c : Nat) (l : List Int) (w : World) (hS : Src w g A c l k) (hk : k ≤ 500) :
    Calls Tryd.prog 37 #[.pointer (some ⟨g, 0, none⟩)] w fun e w' => ∃ (q : Int) (es : List Ev) (D : Option Addr) (d : Nat), e = .returned (frV q D es.length d) ∧ 0 ≤ q ∧ q ≤ 3 ∧ 1 ≤ es.length ∧ es.length ≤ 8 ∧ (∀ x ∈ es, evF x = 0) ∧ w'.ownsRow w.heap.size 81 3 (.slice D es.length d) es.length (evs es) ∧ Went w g A c l k 70 w' := by
  obtain ⟨i0, hi, hz0, hz1, hz2⟩ := info_parts info_event
  have hgl := hS.lt
  obtain ⟨W, hW⟩ : ∃ W, W = w.alloc (Obj.cells #[Value.int .i64 0, .slice none 0 0] 26) := ⟨_, rfl⟩
  have HW := hide hW
  have kr : Bk W w.heap.size #[.int .i64 0, .slice none 0 0] 26 := by rw [hW]; exact Bk.new _ _ _
  have S0 : Src W g A c l k := by rw [hW]; exact hS.alloc _
  have G0 : w.grownBy W (some g) := by rw [hW]; exact World.grownBy_alloc _ _ _
  have z0 : W.heap.size = w.heap.size + 1 := by rw [hW]; simp
  clear hW
  go_enter Tryd.func37, Tryd.ntmps37
  go_wp2_with fail
  rw [← HW.out]
  refine (l1Next_any g k 4 A c l _ S0 (by omega) (by omega) (by omega)).mono ?_
  rintro e w1 ⟨q, rfl, q0, q1, S1, g1⟩
  have hq : q ≤ 3 := by omega
  have kr := kr.grown g1 (by simp; omega)
  have G1 := G0.trans g1
  have z1 := g1.size
  clear g1 q1 S0 G0
  go_wp2_with fail
  refine (l2Steps_any g (k + 1) 7 A c l w1 S1 (by omega) (by omega)).mono ?_
  rintro e w2 ⟨es, D, d, rfl, hes, hev, o2, k2, hk2, S2, g2⟩
  have kr := kr.grown g2 (by simp; omega)
  have G2 := G1.trans g2
  have z2 := g2.size
  clear g2 G1 S1
  go_wp2_with fail
  refine (l2Event_any g k2 A c l w2 S2 (by omega)).mono ?_
  rintro e w3 ⟨x, rfl, hx, k3, hk3, S3, g3⟩
  have kr := kr.grown g3 (by simp; omega)
  have o3 := o2.kept g3 (.inr (fun e => own_apart o2 g (.inl (by omega)) e.symm))
  have G3 := G2.trans g3
  have z3 := g3.size
  clear g3 G2 S2 o2
  go_wp2_with (at_builtin; refine wpList_append_own_at _ rfl _ _ 24 rfl w1.heap.size 81 i0 (.agg #[.int .i64 0, .int .i64 0, .int .i64 0]) 3 24 Tryd.underlying24 hi hz0 hz1 hz2 rfl (by decide) _ _ _ rfl (o3.alloc _) ⟨w3.heap.size, 0, none⟩ 1 1 [.int .i64 x.k, .int .i64 x.a, .int .i64 x.v] rfl rfl (cell_three_new _ _ _ _ _) (one_cells3 _ _ _ _) (by unfold maxLen; omega) (by omega) (by simp; omega) ?_; intro v4 w4 o4 g4 _ hat4; have kr := (kr.alloc (.cells #[.int .i64 x.k, .int .i64 x.a, .int .i64 x.v] 81)).grown g4 (own_apart (o3.alloc (.cells #[.int .i64 x.k, .int .i64 x.a, .int .i64 x.v] 81)) _ (.inl (by omega))); have b4 : Below w1.heap.size w3 w4 := ((Below.refl _ _).alloc (by omega) _).trans (grown_below (o3.alloc (.cells #[.int .i64 x.k, .int .i64 x.a, .int .i64 x.v] 81)) g4 (by simp; omega) (Nat.le_refl _)); have S4 := S3.below b4 (by omega); have G4 := G3.andThen (grown_alloc g4) (fun j hj => .inl (by have := (o3.lt j hj).1; omega)); have z4 := b4.size; clear b4 g4 hat4 S3 o3 G3; obtain ⟨D4, d4, hv4⟩ := own_shape o4; rw [hv4] at o4; rw [hv4]; clear hv4; have c0 := (kr.cell 0).trans (rfl : _ = some (Value.int .i64 0)); have c1 := (kr.cell 1).trans (rfl : _ = some (Value.slice none 0 0)); have f0 := kr.frozen 0; have f1 := kr.frozen 1)
  have hlen : (es ++ [x]).length = es.length + 1 := by simp
  have o5 := ownsRow_setCell_below o4 (a := ⟨w.heap.size, 0, none⟩) (by simp; omega) (.int .i64 q)
  have o6 := ownsRow_setCell_below o5 (a := ⟨w.heap.size, 1, none⟩) (by simp; omega) (.slice D4 (es.length + 1) d4)
  have G5 := (G4.andThen (grown_set w4 w.heap.size 0 (.int .i64 q)) (fun j hj => .inl (by simp at hj; omega))).andThen (grown_set _ w.heap.size 1 (.slice D4 (es.length + 1) d4)) (fun j hj => .inl (by simp at hj; omega))
  have S5 := S4.blk
  refine bodyPost_ret (v := frV q D4 (es.length + 1) d4) (by simp [results, Tryd.results37, go_sem, c0, c1]) rfl ?_
  refine ⟨q, es ++ [x], D4, d4, by rw [hlen], q0, hq, by omega, by omega, fun y hy => ?_, ?_, k3, by omega, ?_, G5⟩
  · rcases List.mem_append.1 hy with h | h
    · exact hev y h
    · simp at h; rw [h]; exact hx
  · rw [hlen, evs_append]
    exact own_mono o6 (by omega)
  · exact (S4.below ((Below.refl (g + 1) w4).setCell (p := ⟨w.heap.size, 0, none⟩) (by simp only; omega) _) (by omega)).below ((Below.refl (g + 1) _).setCell (p := ⟨w.heap.size, 1, none⟩) (by simp only; omega) _) (by omega)

/-- A frame to read, in new memory or none. -/
def FrmPost (w : World) (e : Ending) (w' : World) : Prop := ∃ (q : Int) (es : List Ev) (D : Option Addr) (d : Nat), e = .returned (frV q D es.length d) ∧ es.length ≤ 9 ∧ w'.ownsRow w.heap.size 81 3 (.slice D es.length d) es.length (evs es) ∧ Below w.heap.size w w'
/-- The two frames' cells stored, with the row kept apart from both. -/
theorem frm_done {w W : World} {q0 : Int} {D : Option Addr} {d : Nat} {es : List Ev} {base : Nat} (hes : es.length ≤ 9) (hb : w.heap.size < base) (o : W.ownsRow base 81 3 (.slice D es.length d) es.length (evs es)) (B : Below w.heap.size w W) :
    FrmPost w (.returned (frV q0 D es.length d)) ((W.setCell ⟨w.heap.size, 0, none⟩ (.int .i64 q0)).setCell ⟨w.heap.size, 1, none⟩ (.slice D es.length d)) := by
  have o5 := ownsRow_setCell_below o (a := ⟨w.heap.size, 0, none⟩) (by simp; omega) (.int .i64 q0)
  have o6 := ownsRow_setCell_below o5 (a := ⟨w.heap.size, 1, none⟩) (by simp; omega) (.slice D es.length d)
  exact ⟨q0, es, D, d, rfl, hes, own_mono o6 (by omega), (B.setCell (Nat.le_refl _) _).setCell (Nat.le_refl _) _⟩

set_option maxRecDepth 100000 in
set_option maxHeartbeats 1600000 in
theorem DrawFrameFault_any (l : List Int) (A : Option Addr) (c : Nat) (w : World) (hl : l.length ≤ 1048576) (hR : Rd .u8 w w.heap.size A l) (b8 : B8 l) :
    Calls Tryd.prog 32 #[.slice A l.length c] w (FrmPost w) := by
  obtain ⟨i0, hi, hz0, hz1, hz2⟩ := info_parts info_event
  obtain ⟨W, hW⟩ : ∃ W, W = w.alloc (Obj.cells #[Value.int .i64 0, .slice none 0 0] 26) := ⟨_, rfl⟩
  have HW := hide hW
  have kr : Bk W w.heap.size #[.int .i64 0, .slice none 0 0] 26 := by rw [hW]; exact Bk.new _ _ _
  have hRW : Rd .u8 W W.heap.size A l := by rw [hW]; exact (hR.alloc (Nat.le_refl _) _).lt
  have B0 : Below w.heap.size w W := by rw [hW]; exact (Below.refl _ _).alloc (Nat.le_refl _) _
  have z0 : w.heap.size < W.heap.size := by rw [hW]; simp
  clear hW
  go_enter Tryd.func32, Tryd.ntmps32
  go_wp2_with fail
  rw [← HW.out]
  refine (l1Source_any l A c W hRW b8 hl).mono ?_
  rintro e w1 ⟨rfl, S1, B1⟩
  have kr := kr.kept B1
  have B1 := B0.trans (B1.mono B0.size)
  have z1 := S1.lt
  clear B0
  go_wp2_with fail
  refine (l3Draw_any _ _ A c l w1 S1 (by omega)).mono ?_
  rintro e w2 ⟨q, es, D, d, rfl, q0, q3, h1, h8, hev, o2, k2, hk2, S2, g2⟩
  have kr := (kr.grown g2 (by simp; omega)).alloc (.cells #[.int .i64 q, .slice D es.length d] 26)
  have B2 := (B1.grown g2 B1.size (fun k hk => by simp at hk; omega)).alloc (by have := B1.size; have := g2.size; omega) (.cells #[.int .i64 q, .slice D es.length d] 26)
  have S2' := S2.alloc (.cells #[.int .i64 q, .slice D es.length d] 26)
  have ke := Bk.new w2 #[.int .i64 q, .slice D es.length d] 26
  have hne : ∀ b, (Value.slice D es.length d).ownBlock = some b → w1.heap.size ≤ b ∧ b < w2.heap.size := fun b hb => o2.lt b hb
  have o3 := o2.alloc (.cells #[.int .i64 q, .slice D es.length d] 26)
  have z2 := g2.size
  clear g2 S2 o2 S1 B1
  go_wp2_with fail
  refine (l1Next_any _ _ 7 A c l _ S2' (by omega) (by omega) (by omega)).mono ?_
  rintro e w3 ⟨s, rfl, s0, s1, S3, g3⟩
  have kr := kr.grown g3 (by simp; omega)
  have ke := ke.grown g3 (by simp; omega)
  have o3 := o3.kept g3 (own_sep fun b hb e => by have := hne b hb; simp at e; omega)
  have B3 := B2.grown g3 B2.size (fun k hk => by simp at hk; omega)
  have z3 : w2.heap.size + 1 ≤ w3.heap.size := by have := g3.size; simp at this; omega
  clear g3 S2' s1 B2
  by_cases e0 : s = 0
  · subst e0
    go_wp2_with fail
    refine (l1Pick_any _ _ _ [-1, 4] A c l _ _ (S3.alloc _) (by omega) (by simp) (by simp) (Bk.new _ _ _) (by have := S3.lt; omega)).mono ?_
    rintro e w4 ⟨r, rfl, hm, S4, g4⟩
    have kr := (kr.alloc (.cells #[.int .i64 (-1), .int .i64 4] 2)).grown g4 (by simp; omega)
    have ke := (ke.alloc (.cells #[.int .i64 (-1), .int .i64 4] 2)).grown g4 (by simp; omega)
    have o4 := (o3.alloc (.cells #[.int .i64 (-1), .int .i64 4] 2)).kept g4 (own_sep fun b hb e => by have := hne b hb; simp at e; omega)
    have B4 := (B3.alloc B3.size (.cells #[.int .i64 (-1), .int .i64 4] 2)).grown g4 (by have := B3.size; simp; omega) (fun k hk => by simp at hk; omega)
    have z4 : w3.heap.size ≤ w4.heap.size := by have := g4.size; simp at this; omega
    clear hm S4 g4 S3 B3 o3
    have o5 := o4.kept (grown_set w4 w2.heap.size 0 (.int .i64 r)) (own_sep fun b hb e => by have := hne b hb; simp at e; omega)
    have B5 := B4.setCell (p := ⟨w2.heap.size, 0, none⟩) (by simp only; omega) (.int .i64 r)
    have HO := hide o5
    have HB := hide B5
    have a1 : w4.cell? ⟨w2.heap.size, 1, none⟩ = some (.slice D es.length d) := (ke.cell 1).trans rfl
    have a0 : w4.cell? ⟨w2.heap.size, 0, none⟩ = some (.int .i64 q) := (ke.cell 0).trans rfl
    have c0 : w4.cell? ⟨w.heap.size, 0, none⟩ = some (.int .i64 0) := (kr.cell 0).trans rfl
    have c1 : w4.cell? ⟨w.heap.size, 1, none⟩ = some (.slice none 0 0) := (kr.cell 1).trans rfl
    have fa0 := ke.frozen 0
    have fc0 := kr.frozen 0
    have fc1 := kr.frozen 1
    clear ke kr o4 B4 o5 B5
    go_wp2
    refine bodyPost_ret (v := frV r D es.length d) (by simp [results, Tryd.results32, go_sem, c0, c1]) rfl ?_
    exact frm_done (by omega) (by omega) HO.out HB.out
  · have a1 : w3.cell? ⟨w2.heap.size, 1, none⟩ = some (.slice D es.length d) := (ke.cell 1).trans rfl
    have a0 : w3.cell? ⟨w2.heap.size, 0, none⟩ = some (.int .i64 q) := (ke.cell 0).trans rfl
    have fa1 := ke.frozen 1
    by_cases e1 : s = 1
    · subst e1
      clear e0
      have c0 : w3.cell? ⟨w.heap.size, 0, none⟩ = some (.int .i64 0) := (kr.cell 0).trans rfl
      have c1 : w3.cell? ⟨w.heap.size, 1, none⟩ = some (.slice none 0 0) := (kr.cell 1).trans rfl
      have fc0 := kr.frozen 0
      have fc1 := kr.frozen 1
      have HB := hide (B3.setCell (p := ⟨w2.heap.size, 1, none⟩) (by simp only; omega) (.slice none 0 0))
      clear ke kr B3 S3 o3
      go_wp2
      refine bodyPost_ret (v := frV q none 0 0) (by simp [results, Tryd.results32, go_sem, c0, c1]) rfl ?_
      exact ⟨q, [], none, 0, rfl, by simp, World.ownsRow_nil _ _ _ _, (HB.out.setCell (Nat.le_refl _) _).setCell (Nat.le_refl _) _⟩
    · by_cases e2 : s = 2
      · subst e2
        clear e0 e1
        go_wp2_with (at_builtin; refine wpList_append_own_at _ rfl _ _ 24 rfl w1.heap.size 81 i0 (.agg #[.int .i64 0, .int .i64 0, .int .i64 0]) 3 24 Tryd.underlying24 hi hz0 hz1 hz2 rfl (by decide) _ _ _ rfl (o3.alloc _) ⟨w3.heap.size, 0, none⟩ 1 1 [.int .i64 5, .int .i64 0, .int .i64 0] rfl rfl (cell_three_new _ _ _ _ _) (one_cells3 _ _ _ _) (by unfold maxLen; omega) (by omega) (by simp; omega) ?_; intro v4 w4 o4 g4 _ hat4; have kr := (kr.alloc (.cells #[.int .i64 5, .int .i64 0, .int .i64 0] 81)).grown g4 (own_apart (o3.alloc (.cells #[.int .i64 5, .int .i64 0, .int .i64 0] 81)) _ (.inl (by omega))); have ke := (ke.alloc (.cells #[.int .i64 5, .int .i64 0, .int .i64 0] 81)).grown g4 (fun e => by have := hne _ e.symm; omega); have B4 := B3.trans (((Below.refl w3.heap.size w3).alloc (Nat.le_refl _) (.cells #[.int .i64 5, .int .i64 0, .int .i64 0] 81)).mono B3.size); have B5 := B4.trans (grown_below (o3.alloc (.cells #[.int .i64 5, .int .i64 0, .int .i64 0] 81)) g4 (B := w.heap.size) (by simp; omega) (by omega)); have hn4 : v4.ownBlock = none ∨ v4.ownBlock ≠ some w2.heap.size := (own_sep fun b hb e => by rcases hat4 with h | h; (have := hne b (h.symm.trans hb); simp at e; omega); (rw [h] at hb; simp at hb e; omega)); clear g4 hat4 S3 o3 B3 B4; obtain ⟨D4, d4, hv4⟩ := own_shape o4; rw [hv4] at o4 hn4; rw [hv4]; clear hv4; have c0 := (kr.cell 0).trans (rfl : _ = some (Value.int .i64 0)); have c1 := (kr.cell 1).trans (rfl : _ = some (Value.slice none 0 0)); have f0 := kr.frozen 0; have f1 := kr.frozen 1; have a0 := (ke.cell 0).trans (rfl : _ = some (Value.int .i64 q)); have a1' := (ke.cell 1).trans (rfl : _ = some (Value.slice D es.length d)); have fa1 := ke.frozen 1)
        have e4 : es.length + 1 = (es ++ [(⟨5, 0, 0⟩ : Ev)]).length := by simp
        have e5 : evs es ++ [Value.int .i64 5, .int .i64 0, .int .i64 0] = evs (es ++ [(⟨5, 0, 0⟩ : Ev)]) := by rw [evs_append]; rfl
        have o5 := o4.kept (grown_set w4 w2.heap.size 1 (.slice D4 (es.length + 1) d4)) hn4
        rw [e5, e4] at o5
        refine bodyPost_ret (v := frV q D4 (es.length + 1) d4) (by simp [results, Tryd.results32, go_sem, c0, c1]) rfl ?_
        rw [e4]
        exact frm_done (by rw [← e4]; omega) (by omega) o5 (B5.setCell (p := ⟨w2.heap.size, 1, none⟩) (by simp only; omega) _)
      · have b0 : (s == 0) = false := beq_eq_false_iff_ne.2 e0
        have b1 : (s == 1) = false := beq_eq_false_iff_ne.2 e1
        have b2 : (s == 2) = false := beq_eq_false_iff_ne.2 e2
        have c0 : w3.cell? ⟨w.heap.size, 0, none⟩ = some (.int .i64 0) := (kr.cell 0).trans rfl
        have c1 : w3.cell? ⟨w.heap.size, 1, none⟩ = some (.slice none 0 0) := (kr.cell 1).trans rfl
        have fc0 := kr.frozen 0
        have fc1 := kr.frozen 1
        have HO := hide o3
        have HB := hide B3
        clear e0 e1 e2 ke kr S3 o3 B3
        go_wp2
        refine bodyPost_ret (v := frV q D es.length d) (by simp [results, Tryd.results32, go_sem, c0, c1]) rfl ?_
        exact frm_done (by omega) (by omega) HO.out HB.out

set_option maxHeartbeats 800000 in
theorem DrawPackFrame_any (l : List Int) (A : Option Addr) (c : Nat) (w : World) (hl : l.length ≤ 1048576) (hR : Rd .u8 w w.heap.size A l) (b8 : B8 l) :
    Calls Tryd.prog 7 #[.slice A l.length c] w (FrmPost w) := by
  obtain ⟨W, hW⟩ : ∃ W, W = w.alloc (Obj.cells #[Value.int .i64 0, .slice none 0 0] 26) := ⟨_, rfl⟩
  have HW := hide hW
  have hRW : Rd .u8 W W.heap.size A l := by rw [hW]; exact (hR.alloc (Nat.le_refl _) _).lt
  clear hW
  go_enter Tryd.func7, Tryd.ntmps7
  go_wp2_with fail
  rw [← HW.out]
  refine (DrawFrameFault_any l A c W hl hRW b8).mono ?_
  rintro e w1 ⟨q, es, D, d, rfl, h9, o1, hb⟩
  have q0 := W_cell HW.out hb 0
  have q1 := W_cell HW.out hb 1
  have f0 := W_frozen HW.out hb 0
  have f1 := W_frozen HW.out hb 1
  simp at q0 q1
  have HO := hide o1
  have zW := W_size HW.out
  clear o1
  go_wp2
  refine bodyPost_ret (v := frV q D es.length d) (by simp [results, Tryd.results7, go_sem, q0, q1]) rfl ?_
  exact frm_done h9 (by omega) HO.out (W_below HW.out hb)

/-- Two frames to read, in new memory. -/
def TwoFr (w : World) (e : Ending) (w' : World) : Prop := ∃ (q q' : Int) (es : List Ev) (D D' : Option Addr) (d d' : Nat), e = .returned (.tuple #[frV q D es.length d, frV q' D' es.length d']) ∧ es.length ≤ 9 ∧ RdE w' w'.heap.size D es ∧ RdE w' w'.heap.size D' es ∧ Below w.heap.size w w'

set_option maxRecDepth 100000 in
set_option maxHeartbeats 1600000 in
theorem DrawSameFrames_any (l : List Int) (A : Option Addr) (c : Nat) (w : World) (hl : l.length ≤ 1048576) (hR : Rd .u8 w w.heap.size A l) (b8 : B8 l) :
    Calls Tryd.prog 12 #[.slice A l.length c] w (TwoFr w) := by
  obtain ⟨i0, hi, hz0, hz1, hz2⟩ := info_parts info_event
  obtain ⟨W, hW⟩ : ∃ W, W = (w.alloc (Obj.cells #[Value.int .i64 0, .slice none 0 0] 26)).alloc (Obj.cells #[Value.int .i64 0, .slice none 0 0] 26) := ⟨_, rfl⟩
  obtain ⟨kr, kt, hz, B0⟩ := two_new _ _ _ _ _ W hW
  have HW := hide hW
  have HZ := hide hz
  have z0 : w.heap.size + 1 < W.heap.size := by omega
  have hRW := (hR.below B0).lt
  clear hW hR hz
  go_enter Tryd.func12, Tryd.ntmps12
  go_wp2_with fail
  rw [← HW.out]
  refine (l1Source_any l A c W hRW b8 hl).mono ?_
  rintro e w1 ⟨rfl, S1, B1⟩
  have kr := kr.kept B1
  have kt := kt.kept B1
  have B1 := B0.trans (B1.mono B0.size)
  have z1 := S1.lt
  clear B0
  go_wp2_with fail
  refine (l3Draw_any _ _ A c l w1 S1 (by omega)).mono ?_
  rintro e w2 ⟨q, es, D, d, rfl, q0, q3, h1, h8, hev, o2, k2, hk2, S2, g2⟩
  have kr := (kr.grown g2 (by simp; omega)).alloc (.cells #[.int .i64 q, .slice D es.length d] 26)
  have kt := (kt.grown g2 (by simp; omega)).alloc (.cells #[.int .i64 q, .slice D es.length d] 26)
  have B2 := (B1.grown g2 B1.size (fun k hk => by simp at hk; omega)).alloc (by have := B1.size; have := g2.size; omega) (.cells #[.int .i64 q, .slice D es.length d] 26)
  have S2' := S2.alloc (.cells #[.int .i64 q, .slice D es.length d] 26)
  have ke := Bk.new w2 #[.int .i64 q, .slice D es.length d] 26
  have hne : ∀ b, (Value.slice D es.length d).ownBlock = some b → w1.heap.size ≤ b ∧ b < w2.heap.size := fun b hb => o2.lt b hb
  have o3 := o2.alloc (.cells #[.int .i64 q, .slice D es.length d] 26)
  have z2 := g2.size
  have a0 := (ke.cell 0).trans (rfl : _ = some (Value.int .i64 q))
  have a1 := (ke.cell 1).trans (rfl : _ = some (Value.slice D es.length d))
  clear g2 S2 o2 S1 B1
  go_wp2_with fail
  generalize hV : w2.alloc (Obj.cells #[Value.int .i64 q, .slice D es.length d] 26) = V at *
  have zV : w2.heap.size < V.heap.size := by rw [← hV]; simp
  clear hV
  go_cut [6] (fun s wx => ∃ h D' d', s = .pointer (some ⟨h, 0, none⟩) ∧ V.heap.size ≤ h ∧ Bk wx h #[.int .i64 q, .slice D' es.length d'] 26 ∧ wx.ownsRow V.heap.size 81 3 (.slice D' es.length d') es.length (evs es) ∧ (Value.slice D' es.length d').ownBlock ≠ some h ∧ Below V.heap.size V wx)
  case first =>
    have rE := RdE.of_own o3
    have n0 : w2.heap.size ≠ V.heap.size := by omega
    have n1 : w2.heap.size ≠ V.heap.size + 1 := by omega
    have ra := World.ownsRow_lit V #[] 0 (e := 81) (size := 3) (base := V.heap.size) (Nat.le_refl _) (by simp) rfl
    have rb := ra.alloc (.cells #[.int .i64 0, .slice none 0 0] 26)
    have rc := World.ownsRow_lit (V.alloc (.cells #[.int .i64 0, .slice none 0 0] 26)) #[] 0 (e := 81) (size := 3) (base := V.heap.size) (by simp) (by simp) rfl
    have rEb := (rE.alloc (Nat.le_refl _) (.cells #[] 81)).alloc (by simp) (.cells #[.int .i64 0, .slice none 0 0] 26)
    have rEc := (rE.alloc (Nat.le_refl _) (.cells #[.int .i64 0, .slice none 0 0] 26)).alloc (by simp) (.cells #[] 81)
    have Bb := ((Below.refl V.heap.size V).alloc (Nat.le_refl _) (.cells #[] 81)).alloc (by simp) (.cells #[.int .i64 0, .slice none 0 0] 26)
    have Bc := ((Below.refl V.heap.size V).alloc (Nat.le_refl _) (.cells #[.int .i64 0, .slice none 0 0] 26)).alloc (by simp) (.cells #[] 81)
    have k6b := Bk.new (V.alloc (.cells #[] 81)) #[.int .i64 0, .slice none 0 0] 26
    have k6c := (Bk.new V #[.int .i64 0, .slice none 0 0] 26).alloc (.cells #[] 81)
    rw [show (V.alloc (.cells #[.int .i64 0, .slice none 0 0] 26)).heap.size = V.heap.size + 1 by simp] at rc
    rw [show (V.alloc (.cells #[] 81)).heap.size = V.heap.size + 1 by simp] at k6b
    go_region_held3 (fun w' => w'.cell? ⟨w2.heap.size, 0, none⟩ = some (.int .i64 q) ∧ w'.cell? ⟨w2.heap.size, 1, none⟩ = some (.slice D es.length d))
      (first | assumption | exact ⟨a0, a1⟩ | go_keep | exact ⟨cell_kept b4 a0, cell_kept b4 a1⟩ | exact ⟨cell_kept ((b4.setCell (by simp) _).setCell (by simp) _) a0, cell_kept ((b4.setCell (by simp) _).setCell (by simp) _) a1⟩)
      (first
        | (refine step_append_re _ (by rfl) (.tmp 13) (.tmp 15) 24 (by rfl) V.heap.size 81 i0 (.agg #[.int .i64 0, .int .i64 0, .int .i64 0]) 24 Tryd.underlying24 hi hz0 hz1 hz2 rfl (.slice (some ⟨V.heap.size, 0, none⟩) 0 0) 0 [] (by rfl) ra D es d V.heap.size (by rfl) (rE.alloc (Nat.le_refl _) _) (by unfold maxLen; omega) (by omega) (by simp) ?_
           intro v4 w4 o4 g4 hat4
           rw [Nat.zero_add, List.nil_append] at o4
           obtain ⟨D4, d4, hv4⟩ := own_shape o4
           subst hv4
           have b4 : Below V.heap.size V w4 := ((Below.refl V.heap.size V).alloc (Nat.le_refl _) _).drew.grown g4 (by simp) (fun k hk => by simp [Value.ownBlock] at hk; omega)
           have qa0 := cell_kept b4 a0
           have qa1 := cell_kept b4 a1
           have z4 := b4.size)
        | (refine step_append_re _ (by rfl) (.tmp 13) (.tmp 15) 24 (by rfl) V.heap.size 81 i0 (.agg #[.int .i64 0, .int .i64 0, .int .i64 0]) 24 Tryd.underlying24 hi hz0 hz1 hz2 rfl (.slice (some ⟨V.heap.size, 0, none⟩) 0 0) 0 [] (by rfl) rb D es d V.heap.size (by rfl) rEb (by unfold maxLen; omega) (by omega) (by simp; omega) ?_
           intro v4 w4 o4 g4 hat4
           rw [Nat.zero_add, List.nil_append] at o4
           obtain ⟨D4, d4, hv4⟩ := own_shape o4
           subst hv4
           have b4 : Below V.heap.size V w4 := Bb.drew.grown g4 (by simp; omega) (fun k hk => by simp [Value.ownBlock] at hk; omega)
           have qa0 := cell_kept b4 a0
           have qa1 := cell_kept b4 a1
           have z4 := b4.size
           have kb := k6b.drew_.grown g4 (by simp only [Value.ownBlock, ne_eq, Option.some.injEq]; omega)
           have q0 := (kb.cell 0).trans (rfl : _ = some (Value.int .i64 0))
           have q1 := (kb.cell 1).trans (rfl : _ = some (Value.slice none 0 0))
           have f0 := kb.frozen 0
           have f1 := kb.frozen 1)
        | (refine step_append_re _ (by rfl) (.tmp 13) (.tmp 15) 24 (by rfl) V.heap.size 81 i0 (.agg #[.int .i64 0, .int .i64 0, .int .i64 0]) 24 Tryd.underlying24 hi hz0 hz1 hz2 rfl (.slice (some ⟨V.heap.size + 1, 0, none⟩) 0 0) 0 [] (by rfl) rc D es d V.heap.size (by rfl) rEc (by unfold maxLen; omega) (by omega) (by simp; omega) ?_
           intro v4 w4 o4 g4 hat4
           rw [Nat.zero_add, List.nil_append] at o4
           obtain ⟨D4, d4, hv4⟩ := own_shape o4
           subst hv4
           have b4 : Below V.heap.size V w4 := Bc.drew.grown g4 (by simp; omega) (fun k hk => by simp [Value.ownBlock] at hk; omega)
           have qa0 := cell_kept b4 a0
           have qa1 := cell_kept b4 a1
           have z4 := b4.size
           have kb := k6c.drew_.grown g4 (by simp only [Value.ownBlock, ne_eq, Option.some.injEq]; omega)
           have q0 := (kb.cell 0).trans (rfl : _ = some (Value.int .i64 0))
           have q1 := (kb.cell 1).trans (rfl : _ = some (Value.slice none 0 0))
           have f0 := kb.frozen 0
           have f1 := kb.frozen 1))
    · go_wp2_with fail
      go_meet
      exact ⟨w4.heap.size, D4, d4, rfl, z4, Bk.new w4 _ _, o4.alloc _, (fun e => by have := o4.lt _ e; omega), b4.alloc z4 _⟩
    · go_wp2_with fail
      go_meet
      have hn4 : (Value.slice D4 es.length d4).ownBlock ≠ some (V.heap.size + 1) := by rcases hat4 with h | h <;> rw [h] <;> simp [Value.ownBlock]
      exact ⟨V.heap.size + 1, D4, d4, rfl, by omega, (kb.set_ 0 (.int .i64 q)).set_ 1 (.slice D4 es.length d4), (o4.kept (grown_set w4 (V.heap.size + 1) 0 (.int .i64 q)) (.inr hn4)).kept (grown_set _ (V.heap.size + 1) 1 (.slice D4 es.length d4)) (.inr hn4), hn4, (b4.setCell (by simp) _).setCell (by simp) _⟩
    · go_wp2_with fail
      go_meet
      have hn4 : (Value.slice D4 es.length d4).ownBlock ≠ some V.heap.size := by rcases hat4 with h | h <;> rw [h] <;> first | (simp [Value.ownBlock]; done) | (simp; omega)
      exact ⟨V.heap.size, D4, d4, rfl, by omega, (kb.set_ 0 (.int .i64 q)).set_ 1 (.slice D4 es.length d4), (o4.kept (grown_set w4 V.heap.size 0 (.int .i64 q)) (.inr hn4)).kept (grown_set _ V.heap.size 1 (.slice D4 es.length d4)) (.inr hn4), hn4, (b4.setCell (by simp) _).setCell (by simp) _⟩
  case rest =>
    obtain ⟨h6, D', d', rfl, hV6, k6, o6, hn6, B6⟩ := hcut
    have kr := kr.kept B6
    have kt := kt.kept B6
    have ke := ke.kept B6
    have o3 := own_below o3 B6 (Nat.le_refl _)
    have S3 := S2'.below B6 (by omega)
    have B3 := B2.trans (B6.mono B2.size)
    have z6 := B6.size
    have y6 := k6.lt
    clear B6 B2 S2' a0 a1
    go_wp2_with fail
    refine (l1Chance_any _ _ 2 A c l _ S3 (by omega) (by omega) (by omega)).mono ?_
    rintro e w4 ⟨bb, rfl, S4, g4⟩
    have kr := kr.grown g4 (by simp; omega)
    have kt := kt.grown g4 (by simp; omega)
    have ke := ke.grown g4 (by simp; omega)
    have k6 := k6.grown g4 (by simp; omega)
    have o3 := o3.kept g4 (own_sep fun b hb e => by have := hne b hb; simp at e; omega)
    have o6 := o6.kept g4 (own_sep fun b hb e => by have := o6.lt b hb; simp at e; omega)
    have B4 := B3.grown g4 B3.size (fun k hk => by simp at hk; omega)
    have z4 := g4.size
    clear g4 S3 B3
    cases bb
    · have a0 := (ke.cell 0).trans (rfl : _ = some (Value.int .i64 q))
      have a1 := (ke.cell 1).trans (rfl : _ = some (Value.slice D es.length d))
      have b0 := (k6.cell 0).trans (rfl : _ = some (Value.int .i64 q))
      have b1 := (k6.cell 1).trans (rfl : _ = some (Value.slice D' es.length d'))
      have c0 := (kr.cell 0).trans (rfl : _ = some (Value.int .i64 0))
      have c1 := (kr.cell 1).trans (rfl : _ = some (Value.slice none 0 0))
      have e0 := (kt.cell 0).trans (rfl : _ = some (Value.int .i64 0))
      have e1 := (kt.cell 1).trans (rfl : _ = some (Value.slice none 0 0))
      have fc0 := kr.frozen 0
      have fc1 := kr.frozen 1
      have fe0 := kt.frozen 0
      have fe1 := kt.frozen 1
      have ff0 := k6.frozen 0
      have x0 : w2.heap.size ≠ w.heap.size := by omega
      have x1 : w2.heap.size ≠ w.heap.size + 1 := by omega
      have x2 : h6 ≠ w.heap.size := by omega
      have x3 : h6 ≠ w.heap.size + 1 := by omega
      have x4 : h6 ≠ w2.heap.size := by omega
      have HO := hide o3
      have HP := hide o6
      have HB := hide B4
      clear ke k6 kr kt o3 o6 B4 S4
      go_wp2
      go_region
      all_goals
        go_wp2
        first
          | (refine bodyPost_ret (v := .tuple #[frV q D es.length d, frV q D' es.length d']) (by simp [results, Tryd.results12, go_sem, c0, c1, e0, e1]) rfl ?_)
        first
          | (have o7 := ownsRow_setCell_below (ownsRow_setCell_below (ownsRow_setCell_below (ownsRow_setCell_below HO.out (a := ⟨w.heap.size, 0, none⟩) (by simp; omega) (.int .i64 q)) (a := ⟨w.heap.size, 1, none⟩) (by simp; omega) (.slice D es.length d)) (a := ⟨w.heap.size + 1, 0, none⟩) (by simp; omega) (.int .i64 q)) (a := ⟨w.heap.size + 1, 1, none⟩) (by simp; omega) (.slice D' es.length d')
             have o8 := ownsRow_setCell_below (ownsRow_setCell_below (ownsRow_setCell_below (ownsRow_setCell_below HP.out (a := ⟨w.heap.size, 0, none⟩) (by simp; omega) (.int .i64 q)) (a := ⟨w.heap.size, 1, none⟩) (by simp; omega) (.slice D es.length d)) (a := ⟨w.heap.size + 1, 0, none⟩) (by simp; omega) (.int .i64 q)) (a := ⟨w.heap.size + 1, 1, none⟩) (by simp; omega) (.slice D' es.length d')
             exact ⟨q, q, es, D, D', d, d', rfl, by omega, (RdE.of_own o7), (RdE.of_own o8), below_drewN ((((HB.out.setCell (p := ⟨w.heap.size, 0, none⟩) (by simp) _).setCell (p := ⟨w.heap.size, 1, none⟩) (by simp) _).setCell (p := ⟨w.heap.size + 1, 0, none⟩) (by simp) _).setCell (p := ⟨w.heap.size + 1, 1, none⟩) (by simp) _) 1⟩)
          | (have o7 := ownsRow_setCell_below (ownsRow_setCell_below (ownsRow_setCell_below (ownsRow_setCell_below HO.out (a := ⟨w.heap.size + 1, 0, none⟩) (by simp; omega) (.int .i64 q)) (a := ⟨w.heap.size + 1, 1, none⟩) (by simp; omega) (.slice D' es.length d')) (a := ⟨w.heap.size, 0, none⟩) (by simp; omega) (.int .i64 q)) (a := ⟨w.heap.size, 1, none⟩) (by simp; omega) (.slice D es.length d)
             have o8 := ownsRow_setCell_below (ownsRow_setCell_below (ownsRow_setCell_below (ownsRow_setCell_below HP.out (a := ⟨w.heap.size + 1, 0, none⟩) (by simp; omega) (.int .i64 q)) (a := ⟨w.heap.size + 1, 1, none⟩) (by simp; omega) (.slice D' es.length d')) (a := ⟨w.heap.size, 0, none⟩) (by simp; omega) (.int .i64 q)) (a := ⟨w.heap.size, 1, none⟩) (by simp; omega) (.slice D es.length d)
             exact ⟨q, q, es, D, D', d, d', rfl, by omega, (RdE.of_own o7), (RdE.of_own o8), below_drewN ((((HB.out.setCell (p := ⟨w.heap.size + 1, 0, none⟩) (by simp) _).setCell (p := ⟨w.heap.size + 1, 1, none⟩) (by simp) _).setCell (p := ⟨w.heap.size, 0, none⟩) (by simp) _).setCell (p := ⟨w.heap.size, 1, none⟩) (by simp) _) 1⟩)
    · go_wp2_with fail
      refine (l1Next_any _ _ 4 A c l _ S4 (by omega) (by omega) (by omega)).mono ?_
      rintro e w5 ⟨r, rfl, r0, r1, S5, g5⟩
      have kr := kr.grown g5 (by simp; omega)
      have kt := kt.grown g5 (by simp; omega)
      have ke := ke.grown g5 (by simp; omega)
      have k6 := k6.grown g5 (by simp; omega)
      have o3 := o3.kept g5 (own_sep fun b hb e => by have := hne b hb; simp at e; omega)
      have o6 := o6.kept g5 (own_sep fun b hb e => by have := o6.lt b hb; simp at e; omega)
      have B5 := B4.grown g5 B4.size (fun k hk => by simp at hk; omega)
      have z5 := g5.size
      clear g5 S4 B4 r0 r1
      have a0 := (ke.cell 0).trans (rfl : _ = some (Value.int .i64 q))
      have a1 := (ke.cell 1).trans (rfl : _ = some (Value.slice D es.length d))
      have b0 := (k6.cell 0).trans (rfl : _ = some (Value.int .i64 q))
      have b1 := (k6.cell 1).trans (rfl : _ = some (Value.slice D' es.length d'))
      have c0 := (kr.cell 0).trans (rfl : _ = some (Value.int .i64 0))
      have c1 := (kr.cell 1).trans (rfl : _ = some (Value.slice none 0 0))
      have e0 := (kt.cell 0).trans (rfl : _ = some (Value.int .i64 0))
      have e1 := (kt.cell 1).trans (rfl : _ = some (Value.slice none 0 0))
      have fc0 := kr.frozen 0
      have fc1 := kr.frozen 1
      have fe0 := kt.frozen 0
      have fe1 := kt.frozen 1
      have ff0 := k6.frozen 0
      have x0 : w2.heap.size ≠ w.heap.size := by omega
      have x1 : w2.heap.size ≠ w.heap.size + 1 := by omega
      have x2 : h6 ≠ w.heap.size := by omega
      have x3 : h6 ≠ w.heap.size + 1 := by omega
      have x4 : h6 ≠ w2.heap.size := by omega
      have o9 := o3.kept (grown_set w5 h6 0 (.int .i64 r)) (own_sep fun b hb e => by have := hne b hb; simp at e; omega)
      have oA := o6.kept (grown_set w5 h6 0 (.int .i64 r)) (.inr hn6)
      have B6 := B5.setCell (p := ⟨h6, 0, none⟩) (by simp only; omega) (.int .i64 r)
      have HO := hide o9
      have HP := hide oA
      have HB := hide B6
      clear ke k6 kr kt o3 o6 o9 oA B5 B6 S5
      go_wp2
      go_region
      all_goals
        go_wp2
        first
          | (refine bodyPost_ret (v := .tuple #[frV q D es.length d, frV r D' es.length d']) (by simp [results, Tryd.results12, go_sem, c0, c1, e0, e1]) rfl ?_)
        first
          | (have o7 := ownsRow_setCell_below (ownsRow_setCell_below (ownsRow_setCell_below (ownsRow_setCell_below HO.out (a := ⟨w.heap.size, 0, none⟩) (by simp; omega) (.int .i64 q)) (a := ⟨w.heap.size, 1, none⟩) (by simp; omega) (.slice D es.length d)) (a := ⟨w.heap.size + 1, 0, none⟩) (by simp; omega) (.int .i64 r)) (a := ⟨w.heap.size + 1, 1, none⟩) (by simp; omega) (.slice D' es.length d')
             have o8 := ownsRow_setCell_below (ownsRow_setCell_below (ownsRow_setCell_below (ownsRow_setCell_below HP.out (a := ⟨w.heap.size, 0, none⟩) (by simp; omega) (.int .i64 q)) (a := ⟨w.heap.size, 1, none⟩) (by simp; omega) (.slice D es.length d)) (a := ⟨w.heap.size + 1, 0, none⟩) (by simp; omega) (.int .i64 r)) (a := ⟨w.heap.size + 1, 1, none⟩) (by simp; omega) (.slice D' es.length d')
             exact ⟨q, r, es, D, D', d, d', rfl, by omega, (RdE.of_own o7), (RdE.of_own o8), below_drewN ((((HB.out.setCell (p := ⟨w.heap.size, 0, none⟩) (by simp) _).setCell (p := ⟨w.heap.size, 1, none⟩) (by simp) _).setCell (p := ⟨w.heap.size + 1, 0, none⟩) (by simp) _).setCell (p := ⟨w.heap.size + 1, 1, none⟩) (by simp) _) 1⟩)
          | (have o7 := ownsRow_setCell_below (ownsRow_setCell_below (ownsRow_setCell_below (ownsRow_setCell_below HO.out (a := ⟨w.heap.size + 1, 0, none⟩) (by simp; omega) (.int .i64 r)) (a := ⟨w.heap.size + 1, 1, none⟩) (by simp; omega) (.slice D' es.length d')) (a := ⟨w.heap.size, 0, none⟩) (by simp; omega) (.int .i64 q)) (a := ⟨w.heap.size, 1, none⟩) (by simp; omega) (.slice D es.length d)
             have o8 := ownsRow_setCell_below (ownsRow_setCell_below (ownsRow_setCell_below (ownsRow_setCell_below HP.out (a := ⟨w.heap.size + 1, 0, none⟩) (by simp; omega) (.int .i64 r)) (a := ⟨w.heap.size + 1, 1, none⟩) (by simp; omega) (.slice D' es.length d')) (a := ⟨w.heap.size, 0, none⟩) (by simp; omega) (.int .i64 q)) (a := ⟨w.heap.size, 1, none⟩) (by simp; omega) (.slice D es.length d)
             exact ⟨q, r, es, D, D', d, d', rfl, by omega, (RdE.of_own o7), (RdE.of_own o8), below_drewN ((((HB.out.setCell (p := ⟨w.heap.size + 1, 0, none⟩) (by simp) _).setCell (p := ⟨w.heap.size + 1, 1, none⟩) (by simp) _).setCell (p := ⟨w.heap.size, 0, none⟩) (by simp) _).setCell (p := ⟨w.heap.size, 1, none⟩) (by simp) _) 1⟩)
end Go.Proofs.YtkeifkdaddmkfaaDoor
