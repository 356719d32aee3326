/- The walk of the exact law of IsCaught. -/
import Derived.Test.YtldepledinolmaaGreatDoorGCau
import Derived.Test.YtldepledinolmaaGreatDoorGTrM
namespace Go.Proofs.YtldepledinolmaaGreatDoor
open Go.RowKit

set_option maxRecDepth 100000 in
set_option maxHeartbeats 1600000 in
theorem FnExactIsCaught_walk (t : List (List Ev)) (A : Option Addr) (c : Nat) (z p q : Int) (w : World)
    (hl : t.length ≤ c) (hc : c ≤ maxLen) (h : RdT w w.heap.size A t) (aN aS aE : Addr) (hT : Tab w) (hST : Sent aN aS aE w) :
    Calls Tryz.prog 4 #[.slice A t.length c, .int .i64 z, .int .i64 p, .int .i64 q] w fun e w' => e = .returned (.bool true) ∧ Below w.heap.size w w' := by
  have hn : t.length ≤ maxLen := by omega
  unfold maxLen at hc
  have HT := hide hT
  have HST := hide hST
  clear hT hST
  by_cases hS : t.length + sumT t ≤ 1048576
  · have hL := LenT.of_sum hS
    obtain ⟨F, hF⟩ : ∃ F : Bool, F = cauB t z p q := ⟨_, rfl⟩
    have SP := hide (fun A c w => specCau_any t z p q A c w hn)
    have IM := hide (fun A c w h hT hS => implCau_any t z p q A c aN aS aE w hn h hT hS)
    rw [← hF] at SP IM
    have HL := hide hL
    clear hF hL
    go_enter Tryz.func4, Tryz.ntmps4
    go_wp2_with fail
    refine (szEventSS_fit t A c 1048576 _ hS (Nat.le_refl _) h).mono ?_
    rintro e w' ⟨rfl, rfl⟩
    go_wp2_with fail
    refine (toEventSS_any t A c _ HL.out h).mono ?_
    rintro e w1 ⟨g1, rfl, x1, B⟩
    have R := h.below B
    have zB := B.size
    go_wp2_with fail
    refine (SP.out _ _ _ x1).mono ?_
    rintro e w2 ⟨rfl, b2⟩
    have z_1 := Below.size b2
    replace R := R.below (b2.mono (by omega))
    replace B := B.trans (b2.mono B.size)
    clear b2
    clear x1
    go_wp2_with fail
    refine (toEventSS_any t A c _ HL.out (R.more (by omega))).mono ?_
    rintro e w3 ⟨g3, rfl, x3, b3⟩
    have z_2 := Below.size b3
    replace R := R.below (b3.mono (by omega))
    replace B := B.trans (b3.mono B.size)
    clear b3
    go_wp2_with fail
    refine (IM.out _ _ _ x3 (HT.out.below B) (HST.out.below B)).mono ?_
    rintro e w4 ⟨rfl, b4⟩
    have z_3 := Below.size b4
    replace R := R.below (b4.mono (by omega))
    replace B := B.trans (b4.mono B.size)
    replace x3 := (x3.below b4).lt
    clear b4
    have hbb : (F != F) = false := by simp
    go_wp2_with fail
    refine (toEventSS_any t A c _ HL.out (R.more (by omega))).mono ?_
    rintro e w6 ⟨g6, rfl, x6, b6⟩
    have z_4 := Below.size b6
    replace R := R.below (b6.mono (by omega))
    replace B := B.trans (b6.mono B.size)
    replace x3 := (x3.below b6).lt
    clear b6
    go_wp2_with fail
    refine (eqEventSS_same t _ _ _ _ _ hn x3 x6).mono ?_
    rintro e w7 ⟨rfl, b7⟩
    have z_5 := Below.size b7
    replace R := R.below (b7.mono (by omega))
    replace B := B.trans (b7.mono B.size)
    replace x3 := (x3.below b7).lt
    clear b7
    go_wp2
    go_ret
    exact ⟨rfl, B⟩
  · go_enter Tryz.func4, Tryz.ntmps4
    go_wp2_with fail
    refine (szEventSS_not t A c 1048576 _ (by omega) (Nat.le_refl _) hn h).mono ?_
    rintro e w' ⟨rfl, rfl⟩
    go_wp2
    go_ret
    exact ⟨rfl, Below.refl _ _⟩
end Go.Proofs.YtldepledinolmaaGreatDoor
