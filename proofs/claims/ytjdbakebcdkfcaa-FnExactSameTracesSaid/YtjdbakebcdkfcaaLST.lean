/- The walk of the exact law of FnExactSameTraces. -/
import Derived.Test.YtjdbakebcdkfcaaTrS
import Derived.Test.YtjdbakebcdkfcaaST
namespace Go.Proofs.Ytjdbakebcdkfcaa
open Go.RowKit

set_option maxHeartbeats 800000 in
theorem FnExactSameTraces_walk (t u : List (List Ev)) (A A' : Option Addr) (c c' : Nat) (w : World) (hl : t.length ≤ c) (hc : c ≤ maxLen) (h : RdT w w.heap.size A t) (hl' : u.length ≤ c') (hc' : c' ≤ maxLen) (h' : RdT w w.heap.size A' u) :
    Calls Try.prog 10 #[.slice A t.length c, .slice A' u.length c'] w fun e w' => e = .returned (.bool true) ∧ Below w.heap.size w w' := by
  have hn : t.length ≤ maxLen := by omega
  have hn' : u.length ≤ maxLen := by omega
  unfold maxLen at hc hc'
  by_cases hS : t.length + sumT t ≤ 1048576
  · by_cases hS2 : u.length + sumT u ≤ 1048576 - t.length - sumT t
    · obtain ⟨F, hF⟩ : ∃ F, F = sameT t u := ⟨_, rfl⟩
      have SP := hide (fun A A' c c' w => specST_any t u A A' c c' w hn)
      have IM := hide (fun A A' c c' w => implST_any t u A A' c c' w hn)
      rw [← hF] at SP IM
      clear hF
      have HL := hide (LenT.of_sum hS)
      have HL' := hide (LenT.of_sum (m := 1048576) (t := u) (by omega))
      go_enter Try.func10, Try.ntmps10
      go_wp2_with fail
      refine (szEventSS_fit t A c (1048576) _ hS (by omega) h).mono ?_
      rintro e w' ⟨rfl, rfl⟩
      go_wp2_with fail
      refine (szEventSS_fit u A' c' (1048576 - t.length - sumT t) _ hS2 (by omega) h').mono ?_
      rintro e w' ⟨rfl, rfl⟩
      go_wp2_with fail
      refine (toEventSS_any t A c _ HL.out h).mono ?_
      rintro e w1 ⟨g1, rfl, k1, b1⟩
      have B1 := b1
      go_wp2_with fail
      refine (toEventSS_any u A' c' _ HL'.out (h'.below B1).lt).mono ?_
      rintro e w2 ⟨g2, rfl, k2, b2⟩
      have B2 := B1.trans (b2.mono B1.size)
      have k1 := (k1.below b2).lt
      go_wp2_with fail
      refine (SP.out _ _ _ _ _ k1 k2).mono ?_
      rintro e w3 ⟨rfl, b3⟩
      have B3 := B2.trans (b3.mono B2.size)
      clear k1 k2 b1 b2 b3 B1 B2
      go_wp2_with fail
      refine (toEventSS_any t A c _ HL.out (h.below B3).lt).mono ?_
      rintro e w4 ⟨g4, rfl, k4, b4⟩
      have B4 := B3.trans (b4.mono B3.size)
      go_wp2_with fail
      refine (toEventSS_any u A' c' _ HL'.out (h'.below B4).lt).mono ?_
      rintro e w5 ⟨g5, rfl, k5, b5⟩
      have B5 := B4.trans (b5.mono B4.size)
      have k4 := (k4.below b5).lt
      clear b4 b5 B3 B4
      go_wp2_with fail
      refine (IM.out _ _ _ _ _ k4 k5).mono ?_
      rintro e w6 ⟨rfl, b6⟩
      have B6 := B5.trans (b6.mono B5.size)
      have k4 := (k4.below b6).lt
      have k5 := (k5.below b6).lt
      clear b6 B5
      go_wp2_with fail
      refine (toEventSS_any t A c _ HL.out (h.below B6).lt).mono ?_
      rintro e w7 ⟨g7, rfl, k7, b7⟩
      have B7 := B6.trans (b7.mono B6.size)
      have k4 := (k4.below b7).lt
      have k5 := (k5.below b7).lt
      clear b7 B6
      go_wp2_with fail
      refine (eqEventSS_same t _ _ _ _ _ hn k4 k7).mono ?_
      rintro e w8 ⟨rfl, b8⟩
      have B8 := B7.trans (b8.mono B7.size)
      have k5 := (k5.below b8).lt
      clear b8 B7 k4 k7
      go_wp2_with fail
      refine (toEventSS_any u A' c' _ HL'.out (h'.below B8).lt).mono ?_
      rintro e w9 ⟨g9, rfl, k9, b9⟩
      have B9 := B8.trans (b9.mono B8.size)
      have k5 := (k5.below b9).lt
      clear b9 B8
      go_wp2_with fail
      refine (eqEventSS_same u _ _ _ _ _ hn' k5 k9).mono ?_
      rintro e w10 ⟨rfl, b10⟩
      have B10 := B9.trans (b10.mono B9.size)
      go_wp2
      go_ret
      exact ⟨rfl, B10⟩
    · go_enter Try.func10, Try.ntmps10
      go_wp2_with fail
      refine (szEventSS_fit t A c (1048576) _ hS (by omega) h).mono ?_
      rintro e w' ⟨rfl, rfl⟩
      go_wp2_with fail
      refine (szEventSS_not u A' c' (1048576 - t.length - sumT t) _ (by omega) (by omega) hn' h').mono ?_
      rintro e w' ⟨rfl, rfl⟩
      go_wp2
      go_ret
      exact ⟨rfl, Below.refl _ _⟩
  · go_enter Try.func10, Try.ntmps10
    go_wp2_with fail
    refine (szEventSS_not t A c (1048576) _ (by omega) (by omega) hn h).mono ?_
    rintro e w' ⟨rfl, rfl⟩
    go_wp2
    go_ret
    exact ⟨rfl, Below.refl _ _⟩
end Go.Proofs.Ytjdbakebcdkfcaa
