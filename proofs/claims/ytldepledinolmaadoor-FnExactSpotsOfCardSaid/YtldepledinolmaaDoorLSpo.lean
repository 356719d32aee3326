/- The walk of the exact law of SpotsOf. -/
import Derived.Test.YtldepledinolmaaDoorGSpt
import Derived.Test.YtldepledinolmaaDoorGTrM
import Derived.Test.YtldepledinolmaaDoorGLog
namespace Go.Proofs.YtldepledinolmaaDoor
open Go.RowKit

theorem spL_len (t : List (List Ev)) (b : Int) : (spL t b).length ≤ 841 := by
  by_cases h : fcC t b = 0
  · obtain ⟨e0, e1, e2⟩ := fcC_zero h
    rw [spL_ok h]
    obtain ⟨cs, last, hst, h2⟩ := filL_start (b := b.toNat) (by omega) e0
    have h1 := spS_len _ _ _ (filL_B8 (b := b.toNat) (by omega) e0) ⟨cs, last, 0, hst⟩ h2
    have h3 := filL_few (b := b.toNat) (by omega) e0
    omega
  · rw [spL_no h]; simp

set_option maxRecDepth 100000 in
set_option maxHeartbeats 1600000 in
theorem FnExactSpotsOf_walk (t : List (List Ev)) (A : Option Addr) (c : Nat) (z : Int) (w : World)
    (hl : t.length ≤ c) (hc : c ≤ maxLen) (h : RdT w w.heap.size A t) (aN : Addr) (hT : Tab w) (hST : w.cell? ⟨1, 0, none⟩ = some (errV aN)) :
    Calls Tryd.prog 4 #[.slice A t.length c, .int .i64 z] w fun e w' => e = .returned (.bool true) ∧ Below w.heap.size w w' := by
  have hn : t.length ≤ maxLen := by omega
  unfold maxLen at hc
  have HT := hide hT
  have HST := hide hST
  clear hT hST
  by_cases hS : t.length + sumT t ≤ 1048576
  · have hL := LenT.of_sum hS
    have hend : endT 1 t ≤ 1073741824 := by unfold endT; omega
    have ht : t.length ≤ 1048576 := by omega
    obtain ⟨l, hl2⟩ : ∃ l, l = spL t z := ⟨_, rfl⟩
    have hlen : l.length ≤ 841 := by rw [hl2]; exact spL_len t z
    have hlm : l.length ≤ maxLen := by unfold maxLen; omega
    obtain ⟨a, ha⟩ : ∃ a, a = fcC t z := ⟨_, rfl⟩
    have SP := hide (fun A c w => specSpo_any t z A c w hn)
    have IM := hide (fun A c w h hT hN => implSpo_any t z A c aN w hn h hT hN)
    unfold SpoPost at SP IM
    rw [← hl2, ← ha] at SP IM
    have HL := hide hL
    clear hl2 ha hL
    go_enter Tryd.func4, Tryd.ntmps4
    go_wp2_with fail
    refine (szEventSS_fit t A c 1048576 _ hS (Nat.le_refl _) h).mono ?_
    rintro e w' ⟨rfl, rfl⟩
    go_wp2_with fail
    refine (toEventSS_any t A c _ HL.out h).mono ?_
    rintro e w1 ⟨g1, rfl, x1, B⟩
    have R := h.below B
    have zB := B.size
    go_wp2_with fail
    refine (SP.out _ _ _ x1).mono ?_
    rintro e w2 ⟨A0, c0, rfl, o2, b2⟩
    have z_1 := Below.size b2
    replace R := R.below (b2.mono (by omega))
    replace B := B.trans (b2.mono B.size)
    clear b2
    have r0 := Rd.of_own (k := .i64) o2
    clear o2 x1
    have e_ := (Below.refl w2.heap.size w2).alloc (Nat.le_refl _) (Obj.cells #[Value.int .i64 a, .slice A0 l.length c0] 39)
    have zz_1 : (w2.alloc (Obj.cells #[Value.int .i64 a, .slice A0 l.length c0] 39)).heap.size = w2.heap.size + 1 := by simp
    have z_2 := Below.size e_
    replace R := R.below (e_.mono (by omega))
    replace B := B.trans (e_.mono B.size)
    replace r0 := r0.below (e_.mono (by omega))
    clear e_
    have k0 := Bk.new w2 #[Value.int .i64 a, .slice A0 l.length c0] 39
    have qK := k0.cell
    go_wp2_with fail
    clear qK
    refine (toEventSS_own t A c _ HL.out (R.more (by omega))).mono ?_
    rintro e w3 ⟨g3, us3, rfl, o3, b3⟩
    have z_3 := Below.size b3
    replace R := R.below (b3.mono (by omega))
    replace B := B.trans (b3.mono B.size)
    replace r0 := r0.below (b3.mono (by omega))
    replace k0 := k0.kept b3
    clear b3
    replace o3 := o3.mono (b' := w2.heap.size + 1) (by simp)
    have hus := own_bound o3
    have x3 := o3.rd
    have zk := k0.lt
    go_wp2_with fail
    refine (IM.out _ _ _ x3 (HT.out.below B) (cell_kept B HST.out)).mono ?_
    rintro e w4 ⟨A1, c1, rfl, o4, b4⟩
    have z_4 := Below.size b4
    replace R := R.below (b4.mono (by omega))
    replace B := B.trans (b4.mono B.size)
    replace r0 := r0.below (b4.mono (by omega))
    replace k0 := k0.kept b4
    replace o3 := o3.below b4
    clear b4
    clear x3
    have hne1 : some w4.heap.size ≠ (Value.slice A1 l.length c1).ownBlock := own_apart o4 _ (.inr (Nat.le_refl _))
    have e_ := (Below.refl w4.heap.size w4).alloc (Nat.le_refl _) (Obj.cells #[Value.int .i64 a, .slice A1 l.length c1] 39)
    have zz_4 : (w4.alloc (Obj.cells #[Value.int .i64 a, .slice A1 l.length c1] 39)).heap.size = w4.heap.size + 1 := by simp
    have z_5 := Below.size e_
    replace R := R.below (e_.mono (by omega))
    replace B := B.trans (e_.mono B.size)
    replace r0 := r0.below (e_.mono (by omega))
    replace k0 := k0.kept e_
    replace o4 := own_below o4 e_ (Nat.le_refl _)
    replace o3 := o3.below e_
    clear e_
    have k1 := Bk.new w4 #[Value.int .i64 a, .slice A1 l.length c1] 39
    have q_k0 := k0.cell
    have q_k1 := k1.cell
    go_wp2_with fail
    refine (eqIntsResult_same a l _ _ _ _ _ hlm (Rd.of_own (k := .i64) o4) (r0.more (by omega))).mono ?_
    rintro e w5 ⟨rfl, b5⟩
    clear q_k0 q_k1
    have z_6 := Below.size b5
    replace R := R.below (b5.mono (by omega))
    replace B := B.trans (b5.mono B.size)
    replace r0 := r0.below (b5.mono (by omega))
    replace k0 := k0.kept b5
    replace o4 := own_below o4 b5 (Nat.le_refl _)
    replace k1 := k1.kept b5
    replace o3 := o3.below b5
    clear b5
    go_wp2_with fail
    refine (toEventSS_any t A c _ HL.out (R.more (by omega))).mono ?_
    rintro e w6 ⟨g6, rfl, x6, b6⟩
    have z_7 := Below.size b6
    replace R := R.below (b6.mono (by omega))
    replace B := B.trans (b6.mono B.size)
    replace r0 := r0.below (b6.mono (by omega))
    replace k0 := k0.kept b6
    replace o4 := own_below o4 b6 (Nat.le_refl _)
    replace k1 := k1.kept b6
    replace o3 := o3.below b6
    clear b6
    go_wp2_with fail
    refine (eqEventSS_same t _ _ _ _ _ hn o3.rd x6).mono ?_
    rintro e w7 ⟨rfl, b7⟩
    have z_8 := Below.size b7
    replace R := R.below (b7.mono (by omega))
    replace B := B.trans (b7.mono B.size)
    replace r0 := r0.below (b7.mono (by omega))
    replace k0 := k0.kept b7
    replace o4 := own_below o4 b7 (Nat.le_refl _)
    replace k1 := k1.kept b7
    replace o3 := o3.below b7
    clear b7
    clear x6
    go_wp2_with fail
    have MK := markEventSS_any (w2.heap.size + 1) w3.heap.size 1 t us3 _ _ w7 hend ht (by omega) hus o3
    refine MK.mono ?_
    clear MK o3
    rintro e w8 ⟨rfl, o8, s8⟩
    clear o8
    have z_s := s8.size
    replace R := R.below (s8.below.mono (by omega))
    replace r0 := r0.below (s8.below.mono (by omega))
    replace B := B.trans (s8.below.mono (by omega))
    replace k0 := k0.below s8.below (by omega)
    replace k1 := s8.bk _ _ _ k1 (by omega)
    replace o4 := s8.own _ _ _ _ _ _ o4 (fun b hb => (o4.lt b hb).1)
    clear s8 hus
    have q_k0 := k0.cell
    have q_k1 := k1.cell
    go_wp2_with fail
    refine (eqIntsResult_same a l _ _ _ _ _ hlm (Rd.of_own (k := .i64) o4) (r0.more (by omega))).mono ?_
    rintro e w9 ⟨rfl, b9⟩
    clear q_k0 q_k1
    have z_9 := Below.size b9
    replace R := R.below (b9.mono (by omega))
    replace B := B.trans (b9.mono B.size)
    replace r0 := r0.below (b9.mono (by omega))
    replace k0 := k0.kept b9
    replace o4 := own_below o4 b9 (Nat.le_refl _)
    replace k1 := k1.kept b9
    clear b9
    have q_k1 := k1.cell
    go_wp2_with fail
    have MK := markIntsResult_any w3.heap.size a A1 l.length c1 1 _ w9 (by omega) o4
    refine MK.mono ?_
    clear MK q_k1
    rintro e w10 ⟨rfl, o10, g10⟩
    have b_ := grown_below o4 g10 (B := w3.heap.size) (by omega) (Nat.le_refl _)
    have z_10 := Below.size b_
    replace R := R.below (b_.mono (by omega))
    replace B := B.trans (b_.mono (by omega))
    replace r0 := r0.below (b_.mono (by omega))
    replace k0 := k0.grown g10 (own_apart o4 _ (by first | exact .inl (by omega) | exact .inr (by omega)))
    replace k1 := k1.grown g10 hne1
    clear b_ g10 o4
    have r1 := Rd.of_own (k := .i64) o10
    clear o10
    have q_k1 := k1.cell
    go_wp2_with fail
    refine (heldIntsResult_marked _ a A1 l.length c1 1 w10 (by omega) (Nat.le_refl _) r1).mono ?_
    rintro e w11 ⟨rfl, b11⟩
    clear q_k1
    have z_11 := Below.size b11
    replace R := R.below (b11.mono (by omega))
    replace B := B.trans (b11.mono B.size)
    replace r0 := r0.below (b11.mono (by omega))
    replace k0 := k0.kept b11
    replace k1 := k1.kept b11
    replace r1 := (r1.below b11).lt
    clear b11
    go_wp2_with fail
    refine (toEventSS_any t A c _ HL.out (R.more (by omega))).mono ?_
    rintro e w12 ⟨g12, rfl, x12, b12⟩
    have z_12 := Below.size b12
    replace R := R.below (b12.mono (by omega))
    replace B := B.trans (b12.mono B.size)
    replace r0 := r0.below (b12.mono (by omega))
    replace k0 := k0.kept b12
    replace k1 := k1.kept b12
    replace r1 := (r1.below b12).lt
    clear b12
    go_wp2_with fail
    refine (IM.out _ _ _ x12 (HT.out.below B) (cell_kept B HST.out)).mono ?_
    rintro e w13 ⟨A2, c2, rfl, o13, b13⟩
    have z_13 := Below.size b13
    replace R := R.below (b13.mono (by omega))
    replace B := B.trans (b13.mono B.size)
    replace r0 := r0.below (b13.mono (by omega))
    replace k0 := k0.kept b13
    replace k1 := k1.kept b13
    replace r1 := (r1.below b13).lt
    clear b13
    have r2 := Rd.of_own (k := .i64) o13
    clear o13 x12
    have e_ := (Below.refl w13.heap.size w13).alloc (Nat.le_refl _) (Obj.cells #[Value.int .i64 a, .slice A2 l.length c2] 39)
    have zz_13 : (w13.alloc (Obj.cells #[Value.int .i64 a, .slice A2 l.length c2] 39)).heap.size = w13.heap.size + 1 := by simp
    have z_14 := Below.size e_
    replace R := R.below (e_.mono (by omega))
    replace B := B.trans (e_.mono B.size)
    replace r0 := r0.below (e_.mono (by omega))
    replace k0 := k0.kept e_
    replace k1 := k1.kept e_
    replace r1 := (r1.below e_).lt
    replace r2 := (r2.below e_).lt
    clear e_
    have k2 := Bk.new w13 #[Value.int .i64 a, .slice A2 l.length c2] 39
    have q_k0 := k0.cell
    have q_k2 := k2.cell
    go_wp2_with fail
    refine (eqIntsResult_same a l _ _ _ _ _ hlm r2 (r0.more (by omega))).mono ?_
    rintro e w14 ⟨rfl, b14⟩
    clear q_k0 q_k2
    have z_15 := Below.size b14
    replace R := R.below (b14.mono (by omega))
    replace B := B.trans (b14.mono B.size)
    replace r0 := r0.below (b14.mono (by omega))
    replace k0 := k0.kept b14
    replace k1 := k1.kept b14
    replace r1 := (r1.below b14).lt
    replace r2 := (r2.below b14).lt
    replace k2 := k2.kept b14
    clear b14
    have q_k1 := k1.cell
    go_wp2_with fail
    refine (heldIntsResult_marked _ a A1 l.length c1 1 w14 (by omega) (Nat.le_refl _) r1).mono ?_
    rintro e w15 ⟨rfl, b15⟩
    clear q_k1
    have z_16 := Below.size b15
    replace R := R.below (b15.mono (by omega))
    replace B := B.trans (b15.mono B.size)
    replace r0 := r0.below (b15.mono (by omega))
    replace k0 := k0.kept b15
    replace k1 := k1.kept b15
    replace r1 := (r1.below b15).lt
    replace r2 := (r2.below b15).lt
    replace k2 := k2.kept b15
    clear b15
    go_wp2
    go_ret
    exact ⟨rfl, B⟩
  · go_enter Tryd.func4, Tryd.ntmps4
    go_wp2_with fail
    refine (szEventSS_not t A c 1048576 _ (by omega) (Nat.le_refl _) hn h).mono ?_
    rintro e w' ⟨rfl, rfl⟩
    go_wp2
    go_ret
    exact ⟨rfl, Below.refl _ _⟩
end Go.Proofs.YtldepledinolmaaDoor
