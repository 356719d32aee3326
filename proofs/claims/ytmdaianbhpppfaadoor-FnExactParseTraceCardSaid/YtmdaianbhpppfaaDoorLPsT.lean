/- The walk of the exact law of ParseTrace. -/
import Derived.Test.YtmdaianbhpppfaaDoorPsE
import Derived.Test.YtmdaianbhpppfaaDoorGTrM
namespace Go.Proofs.YtmdaianbhpppfaaDoor
open Go.RowKit

theorem psT_few (l : List Int) : (psT l).length ≤ 4 ∧ ∀ x ∈ psT l, x.length ≤ 8 := by
  unfold psT
  by_cases h : psC l = 0
  · rw [if_pos h]
    unfold psC at h
    by_cases h2 : l.length ≤ 2000
    · rw [if_pos h2] at h
      by_cases h3 : trF (parL l) = 0 ∧ prL (parL l) = l
      · obtain ⟨_, h4, hall⟩ := trT_zero h3.1
        exact ⟨h4, fun x hx => stF_8 (hall x hx)⟩
      · rw [if_neg h3] at h; cases h
    · rw [if_neg h2] at h; cases h
  · rw [if_neg h]; exact ⟨by simp, fun x hx => by simp at hx⟩
theorem sumT_le8 : ∀ {t : List (List Ev)}, (∀ l ∈ t, l.length ≤ 8) → sumT t ≤ 8 * t.length
  | [], _ => by simp [sumT]
  | l :: r, h => by
    have h1 := sumT_le8 fun x hx => h x (List.mem_cons_of_mem l hx)
    have := h l (List.mem_cons_self ..)
    simp only [sumT, List.length_cons]
    omega

set_option maxRecDepth 100000 in
set_option maxHeartbeats 1600000 in
theorem FnExactParseTrace_walk (l : List Int) (w : World) (b8 : B8 l) (hl : l.length ≤ maxLen) (hM : ML w) :
    Calls Tryd.prog 6 #[.string (strOfNums l)] w fun e w' => e = .returned (.bool true) ∧ Below w.heap.size w w' := by
  have HM := hide hM
  have hn := hl
  have z0 := strOfNums_size l
  unfold maxLen at hl
  clear hM
  by_cases hL : l.length ≤ 1048576
  · have q1 : ¬ (1048576 : Int) < (l.length : Int) := by omega
    obtain ⟨t, ht2⟩ : ∃ t, t = psT l := ⟨_, rfl⟩
    have hfew := psT_few l
    rw [← ht2] at hfew
    have hsum := sumT_le8 hfew.2
    have hend : endT 1 t ≤ 1073741824 := by unfold endT; omega
    have ht : t.length ≤ 1048576 := by omega
    have hlm : t.length ≤ maxLen := by unfold maxLen; omega
    obtain ⟨a, ha⟩ : ∃ a, a = psC l := ⟨_, rfl⟩
    have SP := hide (fun w => ParseTrace_spec l w b8 hn)
    have IM := hide (fun w h => ParseTrace_any l w h b8 hn)
    unfold PsPost at SP IM
    rw [← ht2, ← ha] at SP IM
    clear ht2 ha hfew hsum b8
    go_enter Tryd.func6, Tryd.ntmps6
    have B := Below.refl w.heap.size w
    have zB := B.size
    go_wp2_with fail
    refine (SP.out _).mono ?_
    rintro e w2 ⟨A0, c0, us0, rfl, o2, b2⟩
    have z_1 := Below.size b2
    replace B := B.trans (b2.mono B.size)
    clear b2
    have r0 := o2.rd
    clear o2
    have e_ := (Below.refl w2.heap.size w2).alloc (Nat.le_refl _) (Obj.cells #[Value.int .i64 a, .slice A0 t.length c0] 41)
    have zz_1 : (w2.alloc (Obj.cells #[Value.int .i64 a, .slice A0 t.length c0] 41)).heap.size = w2.heap.size + 1 := by simp
    have z_2 := Below.size e_
    replace B := B.trans (e_.mono B.size)
    replace r0 := r0.below (e_.mono (by omega))
    clear e_
    have k0 := Bk.new w2 #[Value.int .i64 a, .slice A0 t.length c0] 41
    have zk := k0.lt
    have qK := k0.cell
    go_wp2_with fail
    clear qK
    refine (IM.out _ (HM.out.below B)).mono ?_
    rintro e w4 ⟨A1, c1, us1, rfl, o4, b4⟩
    have z_3 := Below.size b4
    replace B := B.trans (b4.mono B.size)
    replace r0 := r0.below (b4.mono (by omega))
    replace k0 := k0.kept b4
    clear b4
    replace o4 := o4.mono (b' := w2.heap.size + 1) (by simp)
    have hus := own_bound o4
    have e_ := (Below.refl w4.heap.size w4).alloc (Nat.le_refl _) (Obj.cells #[Value.int .i64 a, .slice A1 t.length c1] 41)
    have zz_3 : (w4.alloc (Obj.cells #[Value.int .i64 a, .slice A1 t.length c1] 41)).heap.size = w4.heap.size + 1 := by simp
    have z_4 := Below.size e_
    replace B := B.trans (e_.mono B.size)
    replace r0 := r0.below (e_.mono (by omega))
    replace k0 := k0.kept e_
    replace o4 := o4.below e_
    clear e_
    have k1 := Bk.new w4 #[Value.int .i64 a, .slice A1 t.length c1] 41
    have q_k0 := k0.cell
    have q_k1 := k1.cell
    go_wp2_with fail
    refine (eqTraceResult_same a t _ _ _ _ _ hlm o4.rd (r0.more (by omega))).mono ?_
    rintro e w9 ⟨rfl, b9⟩
    clear q_k0 q_k1
    have z_5 := Below.size b9
    replace B := B.trans (b9.mono B.size)
    replace r0 := r0.below (b9.mono (by omega))
    replace k0 := k0.kept b9
    replace k1 := k1.kept b9
    replace o4 := o4.below b9
    clear b9
    have q_k1 := k1.cell
    go_wp2_with fail
    have MK := markTraceResult_any (w2.heap.size + 1) w4.heap.size 1 a t us1 A1 c1 w9 hend ht (by omega) hus o4
    refine MK.mono ?_
    clear MK q_k1 o4
    rintro e w10 ⟨rfl, o10, s10⟩
    have z_s := s10.size
    replace r0 := r0.below (s10.below.mono (by omega))
    replace B := B.trans (s10.below.mono (by omega))
    replace k0 := k0.below s10.below (by omega)
    replace k1 := s10.bk _ _ _ k1 (Nat.le_refl _)
    have r1 := (show OwnT w10 (w2.heap.size + 1) (.slice A1 (mkT 1 t).length c1) (mkT 1 t) us1 by rw [mkT_length]; exact o10).rd
    clear s10 hus o10
    have q_k1 := k1.cell
    go_wp2_with fail
    refine (heldTraceResult_marked _ 1 a t A1 c1 w10 hend ht (Nat.le_refl _) r1).mono ?_
    rintro e w11 ⟨rfl, b11⟩
    clear q_k1
    have z_6 := Below.size b11
    replace B := B.trans (b11.mono B.size)
    replace r0 := r0.below (b11.mono (by omega))
    replace k0 := k0.kept b11
    replace k1 := k1.kept b11
    replace r1 := (r1.below b11).lt
    clear b11
    go_wp2_with fail
    refine (IM.out _ (HM.out.below B)).mono ?_
    rintro e w13 ⟨A2, c2, us2, rfl, o13, b13⟩
    have z_7 := Below.size b13
    replace B := B.trans (b13.mono B.size)
    replace r0 := r0.below (b13.mono (by omega))
    replace k0 := k0.kept b13
    replace k1 := k1.kept b13
    replace r1 := (r1.below b13).lt
    clear b13
    have r2 := o13.rd
    clear o13
    have e_ := (Below.refl w13.heap.size w13).alloc (Nat.le_refl _) (Obj.cells #[Value.int .i64 a, .slice A2 t.length c2] 41)
    have zz_7 : (w13.alloc (Obj.cells #[Value.int .i64 a, .slice A2 t.length c2] 41)).heap.size = w13.heap.size + 1 := by simp
    have z_8 := Below.size e_
    replace B := B.trans (e_.mono B.size)
    replace r0 := r0.below (e_.mono (by omega))
    replace k0 := k0.kept e_
    replace k1 := k1.kept e_
    replace r1 := (r1.below e_).lt
    replace r2 := (r2.below e_).lt
    clear e_
    have k2 := Bk.new w13 #[Value.int .i64 a, .slice A2 t.length c2] 41
    have q_k0 := k0.cell
    have q_k2 := k2.cell
    go_wp2_with fail
    refine (eqTraceResult_same a t _ _ _ _ _ hlm r2 (r0.more (by omega))).mono ?_
    rintro e w14 ⟨rfl, b14⟩
    clear q_k0 q_k2
    have z_9 := Below.size b14
    replace B := B.trans (b14.mono B.size)
    replace r0 := r0.below (b14.mono (by omega))
    replace k0 := k0.kept b14
    replace k1 := k1.kept b14
    replace r1 := (r1.below b14).lt
    replace r2 := (r2.below b14).lt
    replace k2 := k2.kept b14
    clear b14
    have q_k1 := k1.cell
    go_wp2_with fail
    refine (heldTraceResult_marked _ 1 a t A1 c1 w14 hend ht (Nat.le_refl _) r1).mono ?_
    rintro e w15 ⟨rfl, b15⟩
    clear q_k1
    have z_10 := Below.size b15
    replace B := B.trans (b15.mono B.size)
    replace r0 := r0.below (b15.mono (by omega))
    replace k0 := k0.kept b15
    replace k1 := k1.kept b15
    replace r1 := (r1.below b15).lt
    replace r2 := (r2.below b15).lt
    replace k2 := k2.kept b15
    clear b15
    go_wp2
    go_ret
    exact ⟨rfl, B⟩
  · have q1 : (1048576 : Int) < (l.length : Int) := by omega
    go_enter Tryd.func6, Tryd.ntmps6
    go_wp2
    go_ret
    exact ⟨rfl, Below.refl _ _⟩
end Go.Proofs.YtmdaianbhpppfaaDoor
