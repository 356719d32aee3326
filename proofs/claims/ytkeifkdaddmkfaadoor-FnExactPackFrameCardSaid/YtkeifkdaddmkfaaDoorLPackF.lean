/- The walk of the exact law of PackFrame. -/
import Derived.Test.YtkeifkdaddmkfaaDoorFrM
import Derived.Test.YtkeifkdaddmkfaaDoorBytesR
import Derived.Test.YtkeifkdaddmkfaaDoorPackF
import Derived.Deep.RegionHeld3
import Derived.Deep.DeepCutAuto
namespace Go.Proofs.YtkeifkdaddmkfaaDoor
open Go.RowKit

set_option maxRecDepth 100000 in
set_option maxHeartbeats 3200000 in
theorem FnExactPackFrame_walk (k : Int) (es : List Ev) (A : Option Addr) (c : Nat) (w : World) (hl : es.length ≤ c) (hc : c ≤ maxLen) (h : RdE w w.heap.size A es) (hT : Tab w) :
    Calls Tryd.prog 4 #[frV k A es.length c] w fun e w' => e = .returned (.bool true) ∧ Below w.heap.size w w' := by
  have hn : es.length ≤ maxLen := by omega
  unfold maxLen at hc
  obtain ⟨W, hW⟩ : ∃ W, W = w.alloc (Obj.cells #[Value.int .i64 k, .slice A es.length c] 43) := ⟨_, rfl⟩
  have HW := hide hW
  have K : Bk W w.heap.size #[Value.int .i64 k, .slice A es.length c] 43 := by rw [hW]; exact Bk.new _ _ _
  have B : Below w.heap.size w W := by rw [hW]; exact (Below.refl _ _).alloc (Nat.le_refl _) _
  have zW : W.heap.size = w.heap.size + 1 := by rw [hW]; simp
  clear hW
  have R := (h.below B).lt
  have HT := hide hT
  clear hT h
  by_cases hL : es.length ≤ 1048576
  · obtain ⟨l, hl2⟩ : ∃ l, l = frB k es := ⟨_, rfl⟩
    have hlen : l.length ≤ 152 := by rw [hl2]; exact frB_len k es
    have hlm : l.length ≤ maxLen := by unfold maxLen; omega
    obtain ⟨a, ha⟩ : ∃ a, a = frF k es := ⟨_, rfl⟩
    have SP := hide (fun A c w => specPackF_any k es A c w hn)
    have IM := hide (fun A c w => implPackF_any k es A c w hn)
    rw [← hl2, ← ha] at SP IM
    clear hl2 ha
    go_enter Tryd.func4, Tryd.ntmps4
    go_wp2_with fail
    rw [← HW.out]
    refine (szFrame_fit k A es.length c 1048576 _ hL (Nat.le_refl _)).mono ?_
    rintro e w1 ⟨rfl, b1⟩
    have z_1 := Below.size b1
    replace K := K.kept b1
    replace R := R.below (b1.mono (by omega))
    replace B := B.trans (b1.mono B.size)
    clear b1
    have q_K := K.cell
    go_wp2_with fail
    refine (toFrame_any k es A c _ hL (R.more (by omega))).mono ?_
    rintro e w2 ⟨g2, rfl, o2, b2⟩
    clear q_K
    have z_2 := Below.size b2
    replace K := K.kept b2
    replace R := R.below (b2.mono (by omega))
    replace B := B.trans (b2.mono B.size)
    clear b2
    have x2 := RdE.of_own o2
    clear o2
    go_wp2_with fail
    refine (SP.out _ _ _ x2).mono ?_
    rintro e w3 ⟨A0, c0, rfl, o3, b3⟩
    have z_3 := Below.size b3
    replace K := K.kept b3
    replace R := R.below (b3.mono (by omega))
    replace B := B.trans (b3.mono B.size)
    clear b3
    have r0 := Rd.of_own o3
    clear o3 x2
    have e_ := (Below.refl w3.heap.size w3).alloc (Nat.le_refl _) (Obj.cells #[Value.int .i64 a, .slice A0 l.length c0] 29)
    have zz_3 : (w3.alloc (Obj.cells #[Value.int .i64 a, .slice A0 l.length c0] 29)).heap.size = w3.heap.size + 1 := by simp
    have z_4 := Below.size e_
    replace K := K.kept e_
    replace R := R.below (e_.mono (by omega))
    replace B := B.trans (e_.mono B.size)
    replace r0 := r0.below (e_.mono (by omega))
    clear e_
    have k0 := Bk.new w3 #[Value.int .i64 a, .slice A0 l.length c0] 29
    have qK := K.cell
    go_wp2_with fail
    clear qK
    refine (toFrame_any k es A c _ hL (R.more (by omega))).mono ?_
    rintro e w4 ⟨g4, rfl, o4, b4⟩
    have z_5 := Below.size b4
    replace K := K.kept b4
    replace R := R.below (b4.mono (by omega))
    replace B := B.trans (b4.mono B.size)
    replace r0 := r0.below (b4.mono (by omega))
    replace k0 := k0.kept b4
    clear b4
    have hg4 := o4.lt g4 rfl
    have e_ := (Below.refl w4.heap.size w4).alloc (Nat.le_refl _) (Obj.cells #[Value.int .i64 k, .slice (some ⟨g4, 0, none⟩) es.length es.length] 26)
    have zz_5 : (w4.alloc (Obj.cells #[Value.int .i64 k, .slice (some ⟨g4, 0, none⟩) es.length es.length] 26)).heap.size = w4.heap.size + 1 := by simp
    have z_6 := Below.size e_
    replace K := K.kept e_
    replace R := R.below (e_.mono (by omega))
    replace B := B.trans (e_.mono B.size)
    replace r0 := r0.below (e_.mono (by omega))
    replace k0 := k0.kept e_
    replace o4 := own_below o4 e_ (Nat.le_refl _)
    clear e_
    have x5 := Bk.new w4 #[Value.int .i64 k, .slice (some ⟨g4, 0, none⟩) es.length es.length] 26
    have x6 := RdE.of_own o4
    have q_x5 := x5.cell
    go_wp2_with fail
    clear q_x5
    refine (IM.out _ _ _ x6 (HT.out.below B)).mono ?_
    rintro e w6 ⟨A1, c1, rfl, o6, b6⟩
    have z_7 := Below.size b6
    replace K := K.kept b6
    replace R := R.below (b6.mono (by omega))
    replace B := B.trans (b6.mono B.size)
    replace r0 := r0.below (b6.mono (by omega))
    replace k0 := k0.kept b6
    replace o4 := own_below o4 b6 (Nat.le_refl _)
    replace x5 := x5.kept b6
    clear b6
    clear x6
    have hne4 : (Value.slice A1 l.length c1).ownBlock = none ∨ (Value.slice A1 l.length c1).ownBlock ≠ some g4 := .inr fun he => by have := o6.lt g4 he; omega
    have o6_ := o6
    have e_ := (Below.refl w6.heap.size w6).alloc (Nat.le_refl _) (Obj.cells #[Value.int .i64 a, .slice A1 l.length c1] 29)
    have zz_7 : (w6.alloc (Obj.cells #[Value.int .i64 a, .slice A1 l.length c1] 29)).heap.size = w6.heap.size + 1 := by simp
    have z_8 := Below.size e_
    replace K := K.kept e_
    replace R := R.below (e_.mono (by omega))
    replace B := B.trans (e_.mono B.size)
    replace r0 := r0.below (e_.mono (by omega))
    replace k0 := k0.kept e_
    replace o4 := own_below o4 e_ (Nat.le_refl _)
    replace x5 := x5.kept e_
    replace o6 := own_below o6 e_ (Nat.le_refl _)
    clear e_
    have hne6 : some w6.heap.size ≠ (Value.slice A1 l.length c1).ownBlock := own_apart o6_ _ (.inr (Nat.le_refl _))
    clear o6_
    have k1 := Bk.new w6 #[Value.int .i64 a, .slice A1 l.length c1] 29
    have q_k0 := k0.cell
    have q_k1 := k1.cell
    go_wp2_with fail
    refine (eqBytesResult_same a l _ _ _ _ _ hlm (Rd.of_own o6) (r0.more (by omega))).mono ?_
    rintro e w7 ⟨rfl, b7⟩
    clear q_k0 q_k1
    have z_9 := Below.size b7
    replace K := K.kept b7
    replace R := R.below (b7.mono (by omega))
    replace B := B.trans (b7.mono B.size)
    replace r0 := r0.below (b7.mono (by omega))
    replace k0 := k0.kept b7
    replace o4 := own_below o4 b7 (Nat.le_refl _)
    replace x5 := x5.kept b7
    replace o6 := own_below o6 b7 (Nat.le_refl _)
    replace k1 := k1.kept b7
    clear b7
    have q0 := (K.cell 0).trans (rfl : _ = some (Value.int .i64 k))
    have q1 := (K.cell 1).trans (rfl : _ = some (Value.slice A es.length c))
    have q2 := (x5.cell 0).trans (rfl : _ = some (Value.int .i64 k))
    have q3 := (x5.cell 1).trans (rfl : _ = some (Value.slice (some ⟨g4, 0, none⟩) es.length es.length))
    have r4 := RdE.of_own o4
    have R7 := R.lt
    have TF := hide (fun W hW => toFrame_any k es A c W hL hW)
    have EF := hide (fun A A' c c' W hW hW' => eqFrame_same k es A A' c c' W hn hW hW')
    go_wp2_with fail
    go_cut [31] (fun s wx => s = .bool false ∧ Below w7.heap.size w7 wx)
    case first =>
      go_region_held3 (fun w' => w'.cell? ⟨w.heap.size, 0, none⟩ = some (.int .i64 k) ∧ w'.cell? ⟨w.heap.size, 1, none⟩ = some (.slice A es.length c) ∧ w'.cell? ⟨w4.heap.size, 0, none⟩ = some (.int .i64 k) ∧ w'.cell? ⟨w4.heap.size, 1, none⟩ = some (.slice (some ⟨g4, 0, none⟩) es.length es.length) ∧ Below w7.heap.size w7 w')
        (first | assumption | exact ⟨q0, q1, q2, q3, (Below.refl _ _).drew⟩ | (go_split_ands; exact ⟨cell_kept (by assumption) (by assumption), cell_kept (by assumption) (by assumption), cell_kept (by assumption) (by assumption), cell_kept (by assumption) (by assumption), Below.trans (by assumption) (Below.mono (by assumption) (Below.size (by assumption)))⟩))
        (first
          | (go_at_call 20; refine (TF.out _ ?_).mono ?_; (go_split_ands; exact (R7.below (by assumption)).lt); rintro e wa ⟨ga, rfl, oa, ba⟩)
          | (go_at_call 22; refine (EF.out _ _ _ _ _ ?_ ?_).mono ?_; (go_split_ands; exact (r4.below (by assumption)).lt); exact RdE.of_own (by assumption); rintro e wa ⟨rfl, ba⟩))
      go_wp2_with fail
      go_meet
      exact ⟨rfl, by go_split_ands; assumption⟩
    case rest =>
      obtain ⟨rfl, b8⟩ := hcut
      clear q0 q1 q2 q3 r4 R7
      have z_10 := Below.size b8
      replace K := K.kept b8
      replace R := R.below (b8.mono (by omega))
      replace B := B.trans (b8.mono B.size)
      replace r0 := r0.below (b8.mono (by omega))
      replace k0 := k0.kept b8
      replace o4 := own_below o4 b8 (Nat.le_refl _)
      replace x5 := x5.kept b8
      replace o6 := own_below o6 b8 (Nat.le_refl _)
      replace k1 := k1.kept b8
      clear b8
      have q_x5 := x5.cell
      go_wp2_with fail
      have MK := markFrame_any (w3.heap.size + 1) k _ es.length _ 1 _ wc (by omega) (own_mono o4 (by omega))
      refine MK.mono ?_
      clear MK q_x5
      rintro e w9 ⟨rfl, o9, g9⟩
      clear o9
      replace o4 := own_mono (base' := w3.heap.size + 1) o4 (by omega)
      clear x5
      have b_ := grown_below o4 g9 (B := w3.heap.size + 1) (by omega) (Nat.le_refl _)
      have z_11 := Below.size b_
      replace K := K.grown g9 (own_apart o4 _ (by first | exact .inl (by omega) | exact .inr (by omega)))
      replace R := R.below (b_.mono (by omega))
      replace B := B.trans (b_.mono (by omega))
      replace r0 := r0.below (b_.mono (by omega))
      replace k0 := k0.grown g9 (own_apart o4 _ (by first | exact .inl (by omega) | exact .inr (by omega)))
      replace o6 := o6.kept g9 hne4
      replace k1 := k1.grown g9 (by simp only [Value.ownBlock, ne_eq, Option.some.injEq]; omega)
      clear b_ g9 o4
      have q_k0 := k0.cell
      have q_k1 := k1.cell
      go_wp2_with fail
      refine (eqBytesResult_same a l _ _ _ _ _ hlm (Rd.of_own o6) (r0.more (by omega))).mono ?_
      rintro e w10 ⟨rfl, b10⟩
      clear q_k0 q_k1
      have z_12 := Below.size b10
      replace K := K.kept b10
      replace R := R.below (b10.mono (by omega))
      replace B := B.trans (b10.mono B.size)
      replace r0 := r0.below (b10.mono (by omega))
      replace k0 := k0.kept b10
      replace o6 := own_below o6 b10 (Nat.le_refl _)
      replace k1 := k1.kept b10
      clear b10
      have q_k1 := k1.cell
      go_wp2_with fail
      have MK := markBytesResult_any (w4.heap.size + 1) a A1 l.length c1 1 _ w10 (by omega) (own_mono o6 (by omega))
      refine MK.mono ?_
      clear MK q_k1
      rintro e w11 ⟨rfl, o11, g11⟩
      replace o6 := own_mono (base' := w4.heap.size + 1) o6 (by omega)
      have b_ := grown_below o6 g11 (B := w4.heap.size + 1) (by omega) (Nat.le_refl _)
      have z_13 := Below.size b_
      replace K := K.grown g11 (own_apart o6 _ (by first | exact .inl (by omega) | exact .inr (by omega)))
      replace R := R.below (b_.mono (by omega))
      replace B := B.trans (b_.mono (by omega))
      replace r0 := r0.below (b_.mono (by omega))
      replace k0 := k0.grown g11 (own_apart o6 _ (by first | exact .inl (by omega) | exact .inr (by omega)))
      replace k1 := k1.grown g11 hne6
      clear b_ g11 o6
      have r1 := Rd.of_own o11
      clear o11
      have q_k1 := k1.cell
      go_wp2_with fail
      refine (heldBytesResult_marked _ a A1 l.length c1 1 w11 (by omega) (Nat.le_refl _) r1).mono ?_
      rintro e w12 ⟨rfl, b12⟩
      clear q_k1
      have z_14 := Below.size b12
      replace K := K.kept b12
      replace R := R.below (b12.mono (by omega))
      replace B := B.trans (b12.mono B.size)
      replace r0 := r0.below (b12.mono (by omega))
      replace k0 := k0.kept b12
      replace k1 := k1.kept b12
      replace r1 := (r1.below b12).lt
      clear b12
      have q_K := K.cell
      go_wp2_with fail
      refine (toFrame_any k es A c _ hL (R.more (by omega))).mono ?_
      rintro e w13 ⟨g13, rfl, o13, b13⟩
      clear q_K
      have z_15 := Below.size b13
      replace K := K.kept b13
      replace R := R.below (b13.mono (by omega))
      replace B := B.trans (b13.mono B.size)
      replace r0 := r0.below (b13.mono (by omega))
      replace k0 := k0.kept b13
      replace k1 := k1.kept b13
      replace r1 := (r1.below b13).lt
      clear b13
      have x13 := RdE.of_own o13
      clear o13
      go_wp2_with fail
      refine (IM.out _ _ _ x13 (HT.out.below B)).mono ?_
      rintro e w14 ⟨A2, c2, rfl, o14, b14⟩
      have z_16 := Below.size b14
      replace K := K.kept b14
      replace R := R.below (b14.mono (by omega))
      replace B := B.trans (b14.mono B.size)
      replace r0 := r0.below (b14.mono (by omega))
      replace k0 := k0.kept b14
      replace k1 := k1.kept b14
      replace r1 := (r1.below b14).lt
      clear b14
      have r2 := Rd.of_own o14
      clear o14 x13
      have e_ := (Below.refl w14.heap.size w14).alloc (Nat.le_refl _) (Obj.cells #[Value.int .i64 a, .slice A2 l.length c2] 29)
      have zz_16 : (w14.alloc (Obj.cells #[Value.int .i64 a, .slice A2 l.length c2] 29)).heap.size = w14.heap.size + 1 := by simp
      have z_17 := Below.size e_
      replace K := K.kept e_
      replace R := R.below (e_.mono (by omega))
      replace B := B.trans (e_.mono B.size)
      replace r0 := r0.below (e_.mono (by omega))
      replace k0 := k0.kept e_
      replace k1 := k1.kept e_
      replace r1 := (r1.below e_).lt
      replace r2 := (r2.below e_).lt
      clear e_
      have k2 := Bk.new w14 #[Value.int .i64 a, .slice A2 l.length c2] 29
      have q_k0 := k0.cell
      have q_k2 := k2.cell
      go_wp2_with fail
      refine (eqBytesResult_same a l _ _ _ _ _ hlm r2 (r0.more (by omega))).mono ?_
      rintro e w15 ⟨rfl, b15⟩
      clear q_k0 q_k2
      have z_18 := Below.size b15
      replace K := K.kept b15
      replace R := R.below (b15.mono (by omega))
      replace B := B.trans (b15.mono B.size)
      replace r0 := r0.below (b15.mono (by omega))
      replace k0 := k0.kept b15
      replace k1 := k1.kept b15
      replace r1 := (r1.below b15).lt
      replace r2 := (r2.below b15).lt
      replace k2 := k2.kept b15
      clear b15
      have q_k1 := k1.cell
      go_wp2_with fail
      refine (heldBytesResult_marked _ a A1 l.length c1 1 w15 (by omega) (Nat.le_refl _) r1).mono ?_
      rintro e w16 ⟨rfl, b16⟩
      clear q_k1
      have z_19 := Below.size b16
      replace K := K.kept b16
      replace R := R.below (b16.mono (by omega))
      replace B := B.trans (b16.mono B.size)
      replace r0 := r0.below (b16.mono (by omega))
      replace k0 := k0.kept b16
      replace k1 := k1.kept b16
      replace r1 := (r1.below b16).lt
      replace r2 := (r2.below b16).lt
      replace k2 := k2.kept b16
      clear b16
      go_wp2
      go_ret
      exact ⟨rfl, B⟩
  · go_enter Tryd.func4, Tryd.ntmps4
    go_wp2_with fail
    rw [← HW.out]
    refine (szFrame_not k A es.length c 1048576 _ (by omega) (Nat.le_refl _) hn).mono ?_
    rintro e w1 ⟨rfl, b1⟩
    go_wp2
    go_ret
    exact ⟨rfl, B.trans (b1.mono B.size)⟩
end Go.Proofs.YtkeifkdaddmkfaaDoor
