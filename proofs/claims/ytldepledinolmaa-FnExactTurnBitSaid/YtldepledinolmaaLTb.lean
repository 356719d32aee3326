/- The walk of the exact law of TurnBit. -/
import Derived.Test.YtldepledinolmaaTbS
import Derived.Test.YtldepledinolmaaTbI
import Derived.Test.YtldepledinolmaaGMk2
namespace Go.Proofs.Ytldepledinolmaa
open Go.RowKit

set_option maxRecDepth 100000 in
set_option maxHeartbeats 1600000 in
theorem FnExactTurnBit_walk (d : List Int) (A : Option Addr) (c : Nat) (p q : Int) (w : World) (hd : d.length ≤ maxLen) (h : Rd .u8 w w.heap.size A d) :
    Calls Try.prog 7 #[.slice A d.length c, .int .i64 p, .int .i64 q] w fun e w' => e = .returned (.bool true) ∧ Below w.heap.size w w' := by
  have hn := hd
  unfold maxLen at hd
  by_cases hL : d.length ≤ 1048576
  · obtain ⟨l, hl2⟩ : ∃ l, l = tbB d p q := ⟨_, rfl⟩
    have hlen : l.length ≤ 4000 := by rw [hl2]; exact tbB_few d p q
    have hlm : l.length ≤ maxLen := by unfold maxLen; omega
    obtain ⟨a, ha⟩ : ∃ a, a = tbC d p q := ⟨_, rfl⟩
    have SP := hide (fun A c w => specTb_any d p q A c w)
    have IM := hide (fun A c w => implTb_any d p q A c w)
    unfold TbPost at SP IM
    rw [← hl2, ← ha] at SP IM
    clear hl2 ha
    go_enter Try.func7, Try.ntmps7
    go_wp2_with fail
    refine (toByteS_any d A c _ hL h).mono ?_
    rintro e w1 ⟨g1, rfl, o1, B1⟩
    have x1 := Rd.of_own o1
    clear o1
    go_wp2_with fail
    refine (SP.out _ _ _ hL x1).mono ?_
    rintro e w2 ⟨A0, c0, rfl, o2, b2⟩
    have B2 := B1.trans (b2.mono B1.size)
    have zw := B2.size
    have r0 := Rd.of_own o2
    clear b2 o2 x1 B1
    go_wp2_with fail
    have k0 := Bk.new w2 #[.int .i64 a, .slice A0 l.length c0] 68
    have B2' := B2.alloc B2.size (.cells #[.int .i64 a, .slice A0 l.length c0] 68)
    have r0' := r0.alloc (Nat.le_refl _) (.cells #[.int .i64 a, .slice A0 l.length c0] 68)
    refine (toByteS_any d A c _ hL (h.below B2').lt).mono ?_
    rintro e w3 ⟨g3, rfl, o3, b3⟩
    have B3 := B2'.trans (b3.mono B2'.size)
    have k0 := k0.kept b3
    have r0 := r0'.below (b3.mono (by simp))
    have o3 := own_alloc' o3
    have z3 := k0.lt
    have x3 := Rd.of_own o3
    have hg3 := o3.lt g3 rfl
    clear b3 B2 B2' r0'
    go_wp2_with fail
    refine (IM.out _ _ _ hL x3).mono ?_
    rintro e w4 ⟨A1, c1, rfl, o4, b4⟩
    have k0 := k0.kept b4
    have r0 := r0.below (b4.mono (by omega))
    have o3 := own_below o3 b4 (Nat.le_refl _)
    have B4 := B3.trans (b4.mono B3.size)
    have z4 := b4.size
    have hne1 : some w4.heap.size ≠ (Value.slice A1 l.length c1).ownBlock := own_apart o4 _ (.inr (Nat.le_refl _))
    have hne3 : (Value.slice A1 l.length c1).ownBlock = none ∨ (Value.slice A1 l.length c1).ownBlock ≠ some g3 := .inr fun he => by have := o4.lt g3 he; omega
    clear b4 B3 x3
    have q0 := k0.cell
    have y4 : w2.heap.size < w4.heap.size := k0.lt
    go_wp2_with fail
    refine (eqBytesResult_same a l _ _ _ _ _ hlm ((Rd.of_own o4).alloc (Nat.le_refl _) _).lt (r0.alloc (by omega) _).lt).mono ?_
    rintro e w5 ⟨rfl, b5⟩
    clear q0
    have k1 := (Bk.new w4 #[.int .i64 a, .slice A1 l.length c1] 68).kept b5
    have k0 := (k0.alloc (.cells #[.int .i64 a, .slice A1 l.length c1] 68)).kept b5
    have o3 := own_below (o3.alloc (.cells #[.int .i64 a, .slice A1 l.length c1] 68)) b5 (Nat.le_refl _)
    have o4 := own_below (o4.alloc (.cells #[.int .i64 a, .slice A1 l.length c1] 68)) b5 (Nat.le_refl _)
    have r0 := r0.below ((below_alloc b5).mono (by omega))
    have B5 := B4.trans ((below_alloc b5).mono B4.size)
    have z5 := k1.lt
    clear b5 B4
    go_wp2_with fail
    refine (toByteS_any d A c _ hL (h.below B5).lt).mono ?_
    rintro e w6 ⟨g6, rfl, o6, b6⟩
    have k0 := k0.kept b6
    have k1 := k1.kept b6
    have o3 := own_below o3 b6 (Nat.le_refl _)
    have o4 := own_below o4 b6 (Nat.le_refl _)
    have r0 := r0.below (b6.mono (by omega))
    have B6 := B5.trans (b6.mono B5.size)
    have z6 := b6.size
    have x6 := Rd.of_own o6
    clear b6 B5 o6
    go_wp2_with fail
    refine (eqByteS_same d _ _ _ _ _ hn (Rd.of_own o3) x6).mono ?_
    rintro e w7 ⟨rfl, b7⟩
    have k0 := k0.kept b7
    have k1 := k1.kept b7
    have o3 := own_below o3 b7 (Nat.le_refl _)
    have o4 := own_below o4 b7 (Nat.le_refl _)
    have r0 := r0.below (b7.mono (by omega))
    have B7 := B6.trans (b7.mono B6.size)
    have z7 := b7.size
    clear b7 B6 x6
    go_wp2_with fail
    have MK := markByteS_any (w2.heap.size + 1) _ d.length _ 1 _ w7 (by omega) o3
    refine MK.mono ?_
    clear MK
    rintro e w8 ⟨rfl, o8, g8⟩
    have b8 := grown_below o3 g8 (B := w2.heap.size + 1) (by omega) (Nat.le_refl _)
    have k0 := k0.grown g8 (own_apart o3 _ (.inl (by omega)))
    have k1 := k1.grown g8 (by simp only [Value.ownBlock, ne_eq, Option.some.injEq]; omega)
    have o4 := o4.kept g8 hne3
    have r0 := r0.below (b8.mono (by omega))
    have B8 := B7.trans (b8.mono (by omega))
    have z8 := b8.size
    clear b8 g8 o8 o3 B7
    have q0 := k0.cell
    have q1 := k1.cell
    go_wp2_with fail
    refine (eqBytesResult_same a l _ _ _ _ _ hlm (Rd.of_own o4) (r0.more (by omega))).mono ?_
    rintro e w9 ⟨rfl, b9⟩
    clear q0 q1
    have k0 := k0.kept b9
    have k1 := k1.kept b9
    have o4 := own_below o4 b9 (Nat.le_refl _)
    have r0 := r0.below (b9.mono (by omega))
    have B9 := B8.trans (b9.mono B8.size)
    have z9 := b9.size
    clear b9 B8
    have q1 := k1.cell
    go_wp2_with fail
    have MK := markBytesResult_any w3.heap.size a A1 l.length c1 1 _ w9 (by omega) o4
    refine MK.mono ?_
    clear MK
    rintro e w10 ⟨rfl, o10, g10⟩
    clear q1
    have b10 := grown_below o4 g10 (B := w3.heap.size) (by omega) (Nat.le_refl _)
    have k0 := k0.grown g10 (own_apart o4 _ (.inl (by omega)))
    have k1 := k1.grown g10 hne1
    have r0 := r0.below (b10.mono (by omega))
    have B10 := B9.trans (b10.mono (by omega))
    have z10 := b10.size
    have r1 := Rd.of_own o10
    clear b10 g10 o4 o10 B9
    have q1 := k1.cell
    go_wp2_with fail
    have HD := heldBytesResult_marked _ a A1 l.length c1 1 w10 (by omega) (Nat.le_refl _) r1
    refine HD.mono ?_
    clear HD
    rintro e w11 ⟨rfl, b11⟩
    clear q1
    have k0 := k0.kept b11
    have k1 := k1.kept b11
    have r0 := r0.below (b11.mono (by omega))
    have r1 := (r1.below b11).lt
    have B11 := B10.trans (b11.mono B10.size)
    have z11 := b11.size
    clear b11 B10
    go_wp2_with fail
    refine (toByteS_any d A c _ hL (h.below B11).lt).mono ?_
    rintro e w12 ⟨g12, rfl, o12, b12⟩
    have k0 := k0.kept b12
    have k1 := k1.kept b12
    have r0 := r0.below (b12.mono (by omega))
    have r1 := (r1.below b12).lt
    have B12 := B11.trans (b12.mono B11.size)
    have z12 := b12.size
    have x12 := Rd.of_own o12
    clear b12 B11 o12
    go_wp2_with fail
    refine (IM.out _ _ _ hL x12).mono ?_
    rintro e w13 ⟨A2, c2, rfl, o13, b13⟩
    have k0 := k0.kept b13
    have k1 := k1.kept b13
    have r0 := r0.below (b13.mono (by omega))
    have r1 := (r1.below b13).lt
    have r2 := Rd.of_own o13
    have B13 := B12.trans (b13.mono B12.size)
    have z13 := b13.size
    clear b13 B12 o13 x12
    have q0 := k0.cell
    have y13 : w2.heap.size < w13.heap.size := k0.lt
    go_wp2_with fail
    refine (eqBytesResult_same a l _ _ _ _ _ hlm (r2.alloc (Nat.le_refl _) _).lt (r0.alloc (by omega) _).lt).mono ?_
    rintro e w14 ⟨rfl, b14⟩
    clear q0
    have k1 := (k1.alloc (.cells #[.int .i64 a, .slice A2 l.length c2] 68)).kept b14
    have r1 := (r1.below (below_alloc b14)).lt
    have B14 := B13.trans ((below_alloc b14).mono B13.size)
    clear b14 B13 r2 r0 k0
    have q1 := k1.cell
    go_wp2_with fail
    have HD := heldBytesResult_marked _ a A1 l.length c1 1 w14 (by omega) (Nat.le_refl _) r1
    refine HD.mono ?_
    clear HD
    rintro e w15 ⟨rfl, b15⟩
    have B15 := B14.trans (b15.mono B14.size)
    go_wp2
    go_ret
    exact ⟨rfl, B15⟩
  · go_enter Try.func7, Try.ntmps7
    go_wp2
    go_ret
    exact ⟨rfl, Below.refl _ _⟩
end Go.Proofs.Ytldepledinolmaa
