/- The walk of the exact law of OrdersOf. -/
import Derived.Test.YtdmdljimbmhecaaOrdS
import Derived.Test.YtdmdljimbmhecaaGStp
import Derived.Test.YtdmdljimbmhecaaWlsU
namespace Go.Proofs.Ytdmdljimbmhecaa
open Go.RowKit

theorem odL_few (ss : List Stp) (n : Int) : (odL ss n).length ≤ 32 ∧ sumO (odL ss n) ≤ 32 := by
  by_cases h : logF ss n = 0
  · obtain ⟨_, h2, _, _⟩ := logF_zero h
    obtain ⟨h3, h4⟩ := ordW_len ss
    rw [odL_ok h]
    exact ⟨by omega, by omega⟩
  · rw [odL_bad h]; simp [sumO]

set_option maxRecDepth 100000 in
set_option maxHeartbeats 1600000 in
theorem FnExactOrdersOf_walk (ss : List Stp) (A : Option Addr) (c : Nat) (n : Int) (w : World) (hl : ss.length ≤ c) (hc : c ≤ maxLen) (h : RdP w w.heap.size A ss) :
    Calls Try.prog 6 #[.slice A ss.length c, .int .i64 n] w fun e w' => e = .returned (.bool true) ∧ Below w.heap.size w w' := by
  have hn : ss.length ≤ maxLen := by omega
  unfold maxLen at hc
  by_cases hS : ss.length ≤ 1048576
  · obtain ⟨os, ht2⟩ : ∃ os, os = odL ss n := ⟨_, rfl⟩
    have hfew := odL_few ss n
    rw [← ht2] at hfew
    have hend : endW 1 os ≤ 1073741824 := by unfold endW; omega
    have ht : os.length ≤ 1048576 := by omega
    have hlm : os.length ≤ maxLen := by unfold maxLen; omega
    obtain ⟨a, ha⟩ : ∃ a, a = logF ss n := ⟨_, rfl⟩
    have SP := hide (fun A c w => specOd_any ss n A c w hn)
    have IM := hide (fun A c w => implOd_any ss n A c w hn)
    unfold OdPost at SP IM
    rw [← ht2, ← ha] at SP IM
    clear ht2 ha hfew
    go_enter Try.func6, Try.ntmps6
    go_wp2_with fail
    refine (szStepS_fit A ss.length c 1048576 _ hS (Nat.le_refl _)).mono ?_
    rintro e w' ⟨rfl, rfl⟩
    go_wp2_with fail
    refine (toStepS_any ss A c _ hS h).mono ?_
    rintro e w1 ⟨g1, rfl, o1, B⟩
    have x1 := RdP.of_own o1
    clear o1
    have R := h.below B
    have zB := B.size
    go_wp2_with fail
    refine (SP.out _ _ _ x1).mono ?_
    rintro e w2 ⟨A0, c0, us0, rfl, o2, b2⟩
    have z_1 := Below.size b2
    replace R := R.below (b2.mono (by omega))
    replace B := B.trans (b2.mono B.size)
    clear b2
    have r0 := o2.rd
    clear o2 x1
    have e_ := (Below.refl w2.heap.size w2).alloc (Nat.le_refl _) (Obj.cells #[Value.int .i64 a, .slice A0 os.length c0] 29)
    have zz_1 : (w2.alloc (Obj.cells #[Value.int .i64 a, .slice A0 os.length c0] 29)).heap.size = w2.heap.size + 1 := by simp
    have z_2 := Below.size e_
    replace R := R.below (e_.mono (by omega))
    replace B := B.trans (e_.mono B.size)
    replace r0 := r0.below (e_.mono (by omega))
    clear e_
    have k0 := Bk.new w2 #[Value.int .i64 a, .slice A0 os.length c0] 29
    have zk := k0.lt
    have qK := k0.cell
    go_wp2_with fail
    clear qK
    refine (toStepS_any ss A c _ hS (R.more (by omega))).mono ?_
    rintro e w3 ⟨g3, rfl, o3, b3⟩
    have z_3 := Below.size b3
    replace R := R.below (b3.mono (by omega))
    replace B := B.trans (b3.mono B.size)
    replace r0 := r0.below (b3.mono (by omega))
    replace k0 := k0.kept b3
    clear b3
    replace o3 := own_mono (base' := w2.heap.size + 1) o3 (by simp)
    have x3 := RdP.of_own o3
    have hg3 := o3.lt g3 rfl
    go_wp2_with fail
    refine (IM.out _ _ _ x3).mono ?_
    rintro e w4 ⟨A1, c1, us1, rfl, o4, b4⟩
    have z_4 := Below.size b4
    replace R := R.below (b4.mono (by omega))
    replace B := B.trans (b4.mono B.size)
    replace r0 := r0.below (b4.mono (by omega))
    replace k0 := k0.kept b4
    replace o3 := own_below o3 b4 (Nat.le_refl _)
    clear b4
    clear x3
    replace o4 := o4.mono (b' := w3.heap.size) (Nat.le_refl _)
    have hus : ∀ u ∈ (Value.slice A1 os.length c1 :: us1), ∀ b, u.ownBlock = some b → w3.heap.size ≤ b ∧ b < w4.heap.size := fun u hu b hb => by
      rcases List.mem_cons.1 hu with rfl | hu
      · exact o4.row.lt b hb
      · exact o4.bound u hu b hb
    have e_ := (Below.refl w4.heap.size w4).alloc (Nat.le_refl _) (Obj.cells #[Value.int .i64 a, .slice A1 os.length c1] 29)
    have zz_4 : (w4.alloc (Obj.cells #[Value.int .i64 a, .slice A1 os.length c1] 29)).heap.size = w4.heap.size + 1 := by simp
    have z_5 := Below.size e_
    replace R := R.below (e_.mono (by omega))
    replace B := B.trans (e_.mono B.size)
    replace r0 := r0.below (e_.mono (by omega))
    replace k0 := k0.kept e_
    replace o3 := own_below o3 e_ (Nat.le_refl _)
    replace o4 := o4.below e_
    clear e_
    have k1 := Bk.new w4 #[Value.int .i64 a, .slice A1 os.length c1] 29
    have q_k0 := k0.cell
    have q_k1 := k1.cell
    go_wp2_with fail
    refine (eqOrdersResult_same a os _ _ _ _ _ hlm o4.rd (r0.more (by omega))).mono ?_
    rintro e w5 ⟨rfl, b5⟩
    clear q_k0 q_k1
    have z_6 := Below.size b5
    replace R := R.below (b5.mono (by omega))
    replace B := B.trans (b5.mono B.size)
    replace r0 := r0.below (b5.mono (by omega))
    replace k0 := k0.kept b5
    replace o3 := own_below o3 b5 (Nat.le_refl _)
    replace k1 := k1.kept b5
    replace o4 := o4.below b5
    clear b5
    go_wp2_with fail
    refine (toStepS_any ss A c _ hS (R.more (by omega))).mono ?_
    rintro e w6 ⟨g6, rfl, o6, b6⟩
    have z_7 := Below.size b6
    replace R := R.below (b6.mono (by omega))
    replace B := B.trans (b6.mono B.size)
    replace r0 := r0.below (b6.mono (by omega))
    replace k0 := k0.kept b6
    replace o3 := own_below o3 b6 (Nat.le_refl _)
    replace k1 := k1.kept b6
    replace o4 := o4.below b6
    clear b6
    have x6 := RdP.of_own o6
    clear o6
    go_wp2_with fail
    refine (eqStepS_same ss _ _ _ _ _ hn (RdP.of_own o3) x6).mono ?_
    rintro e w7 ⟨rfl, b7⟩
    have z_8 := Below.size b7
    replace R := R.below (b7.mono (by omega))
    replace B := B.trans (b7.mono B.size)
    replace r0 := r0.below (b7.mono (by omega))
    replace k0 := k0.kept b7
    replace o3 := own_below o3 b7 (Nat.le_refl _)
    replace k1 := k1.kept b7
    replace o4 := o4.below b7
    clear b7
    clear x6
    go_wp2_with fail
    have MK := markStepS_any (w2.heap.size + 1) _ ss.length _ 1 _ w7 (by omega) o3
    refine MK.mono ?_
    clear MK
    rintro e w8 ⟨rfl, o8, g8⟩
    clear o8
    have b_ := grown_below o3 g8 (B := w2.heap.size + 1) (by omega) (Nat.le_refl _)
    have z_g := Below.size b_
    replace R := R.below (b_.mono (by omega))
    replace r0 := r0.below (b_.mono (by omega))
    replace B := B.trans (b_.mono (by omega))
    replace k0 := k0.grown g8 (own_apart o3 _ (.inl (by omega)))
    replace k1 := k1.grown g8 (by simp only [Value.ownBlock, ne_eq, Option.some.injEq]; omega)
    replace o4 := o4.kept g8 (fun b e => by cases e; exact hg3.2)
    clear b_ g8 o3
    have q_k0 := k0.cell
    have q_k1 := k1.cell
    go_wp2_with fail
    refine (eqOrdersResult_same a os _ _ _ _ _ hlm o4.rd (r0.more (by omega))).mono ?_
    rintro e w9 ⟨rfl, b9⟩
    clear q_k0 q_k1
    have z_9 := Below.size b9
    replace R := R.below (b9.mono (by omega))
    replace B := B.trans (b9.mono B.size)
    replace r0 := r0.below (b9.mono (by omega))
    replace k0 := k0.kept b9
    replace k1 := k1.kept b9
    replace o4 := o4.below b9
    clear b9
    have q_k1 := k1.cell
    go_wp2_with fail
    have MK := markOrdersResult_any w3.heap.size 1 a os us1 A1 c1 w9 hend ht o4
    refine MK.mono ?_
    clear MK q_k1 o4
    rintro e w10 ⟨rfl, o10, s10⟩
    have z_s := s10.size
    have b_ := s10.below w3.heap.size (by omega) (fun u hu b hb => (hus u hu b hb).1)
    replace R := R.below (b_.mono (by omega))
    replace r0 := r0.below (b_.mono (by omega))
    replace B := B.trans (b_.mono (by omega))
    replace k0 := k0.below b_ (by omega)
    replace k1 := s10.bk _ _ _ k1 (fun u hu e => by have := (hus u hu _ e).2; omega)
    have r1 := o10.rd
    clear s10 b_ o10
    have q_k1 := k1.cell
    go_wp2_with fail
    refine (heldOrdersResult_marked _ 1 a os A1 c1 w10 hend ht (Nat.le_refl _) r1).mono ?_
    rintro e w11 ⟨rfl, b11⟩
    clear q_k1
    have z_10 := Below.size b11
    replace R := R.below (b11.mono (by omega))
    replace B := B.trans (b11.mono B.size)
    replace r0 := r0.below (b11.mono (by omega))
    replace k0 := k0.kept b11
    replace k1 := k1.kept b11
    replace r1 := (r1.below b11).lt
    clear b11
    go_wp2_with fail
    refine (toStepS_any ss A c _ hS (R.more (by omega))).mono ?_
    rintro e w12 ⟨g12, rfl, o12, b12⟩
    have z_11 := Below.size b12
    replace R := R.below (b12.mono (by omega))
    replace B := B.trans (b12.mono B.size)
    replace r0 := r0.below (b12.mono (by omega))
    replace k0 := k0.kept b12
    replace k1 := k1.kept b12
    replace r1 := (r1.below b12).lt
    clear b12
    have x12 := RdP.of_own o12
    clear o12
    go_wp2_with fail
    refine (IM.out _ _ _ x12).mono ?_
    rintro e w13 ⟨A2, c2, us2, rfl, o13, b13⟩
    have z_12 := Below.size b13
    replace R := R.below (b13.mono (by omega))
    replace B := B.trans (b13.mono B.size)
    replace r0 := r0.below (b13.mono (by omega))
    replace k0 := k0.kept b13
    replace k1 := k1.kept b13
    replace r1 := (r1.below b13).lt
    clear b13
    have r2 := o13.rd
    clear o13 x12
    have e_ := (Below.refl w13.heap.size w13).alloc (Nat.le_refl _) (Obj.cells #[Value.int .i64 a, .slice A2 os.length c2] 29)
    have zz_12 : (w13.alloc (Obj.cells #[Value.int .i64 a, .slice A2 os.length c2] 29)).heap.size = w13.heap.size + 1 := by simp
    have z_13 := Below.size e_
    replace R := R.below (e_.mono (by omega))
    replace B := B.trans (e_.mono B.size)
    replace r0 := r0.below (e_.mono (by omega))
    replace k0 := k0.kept e_
    replace k1 := k1.kept e_
    replace r1 := (r1.below e_).lt
    replace r2 := (r2.below e_).lt
    clear e_
    have k2 := Bk.new w13 #[Value.int .i64 a, .slice A2 os.length c2] 29
    have q_k0 := k0.cell
    have q_k2 := k2.cell
    go_wp2_with fail
    refine (eqOrdersResult_same a os _ _ _ _ _ hlm r2 (r0.more (by omega))).mono ?_
    rintro e w14 ⟨rfl, b14⟩
    clear q_k0 q_k2
    have z_14 := Below.size b14
    replace R := R.below (b14.mono (by omega))
    replace B := B.trans (b14.mono B.size)
    replace r0 := r0.below (b14.mono (by omega))
    replace k0 := k0.kept b14
    replace k1 := k1.kept b14
    replace r1 := (r1.below b14).lt
    replace r2 := (r2.below b14).lt
    replace k2 := k2.kept b14
    clear b14
    have q_k1 := k1.cell
    go_wp2_with fail
    refine (heldOrdersResult_marked _ 1 a os A1 c1 w14 hend ht (Nat.le_refl _) r1).mono ?_
    rintro e w15 ⟨rfl, b15⟩
    clear q_k1
    have z_15 := Below.size b15
    replace R := R.below (b15.mono (by omega))
    replace B := B.trans (b15.mono B.size)
    replace r0 := r0.below (b15.mono (by omega))
    replace k0 := k0.kept b15
    replace k1 := k1.kept b15
    replace r1 := (r1.below b15).lt
    replace r2 := (r2.below b15).lt
    replace k2 := k2.kept b15
    clear b15
    go_wp2
    go_ret
    exact ⟨rfl, B⟩
  · go_enter Try.func6, Try.ntmps6
    go_wp2_with fail
    refine (szStepS_not A ss.length c 1048576 _ (by omega) (Nat.le_refl _) hn).mono ?_
    rintro e w' ⟨rfl, rfl⟩
    go_wp2
    go_ret
    exact ⟨rfl, Below.refl _ _⟩
end Go.Proofs.Ytdmdljimbmhecaa
