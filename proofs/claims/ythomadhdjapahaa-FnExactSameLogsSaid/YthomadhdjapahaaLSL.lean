/- The walk of the exact law of FnExactSameLogs. -/
import Derived.Test.YthomadhdjapahaaStpS
import Derived.Test.YthomadhdjapahaaStpEq
namespace Go.Proofs.Ythomadhdjapahaa
open Go.RowKit

set_option maxHeartbeats 800000 in
theorem FnExactSameLogs_walk (es fs : List Stp) (A A' : Option Addr) (c c' : Nat) (w : World) (hl : es.length ≤ c) (hc : c ≤ maxLen) (h : RdP w w.heap.size A es) (hl' : fs.length ≤ c') (hc' : c' ≤ maxLen) (h' : RdP w w.heap.size A' fs) :
    Calls Try.prog 8 #[.slice A es.length c, .slice A' fs.length c'] w fun e w' => e = .returned (.bool true) ∧ Below w.heap.size w w' := by
  have hn : es.length ≤ maxLen := by omega
  have hn' : fs.length ≤ maxLen := by omega
  unfold maxLen at hc hc'
  by_cases hS : es.length ≤ 1048576
  · by_cases hS2 : fs.length ≤ 1048576 - es.length
    · obtain ⟨F, hF⟩ : ∃ F, F = sameP es fs := ⟨_, rfl⟩
      have SP := hide (fun A A' c c' w => specSL_any es fs A A' c c' w hn)
      have IM := hide (fun A A' c c' w => implSL_any es fs A A' c c' w hn)
      rw [← hF] at SP IM
      clear hF
      go_enter Try.func8, Try.ntmps8
      go_wp2_with fail
      refine (szStepS_fit A es.length c (1048576) _ hS (by omega)).mono ?_
      rintro e w' ⟨rfl, rfl⟩
      go_wp2_with fail
      refine (szStepS_fit A' fs.length c' (1048576 - es.length) _ hS2 (by omega)).mono ?_
      rintro e w' ⟨rfl, rfl⟩
      go_wp2_with fail
      refine (toStepS_any es A c _ (by omega) h).mono ?_
      rintro e w1 ⟨g1, rfl, o1, b1⟩
      have k1 := RdP.of_own o1
      clear o1
      have B1 := b1
      go_wp2_with fail
      refine (toStepS_any fs A' c' _ (by omega) (h'.below B1).lt).mono ?_
      rintro e w2 ⟨g2, rfl, o2, b2⟩
      have k2 := RdP.of_own o2
      clear o2
      have B2 := B1.trans (b2.mono B1.size)
      have k1 := (k1.below b2).lt
      go_wp2_with fail
      refine (SP.out _ _ _ _ _ k1 k2).mono ?_
      rintro e w3 ⟨rfl, b3⟩
      have B3 := B2.trans (b3.mono B2.size)
      clear k1 k2 b1 b2 b3 B1 B2
      go_wp2_with fail
      refine (toStepS_any es A c _ (by omega) (h.below B3).lt).mono ?_
      rintro e w4 ⟨g4, rfl, o4, b4⟩
      have k4 := RdP.of_own o4
      clear o4
      have B4 := B3.trans (b4.mono B3.size)
      go_wp2_with fail
      refine (toStepS_any fs A' c' _ (by omega) (h'.below B4).lt).mono ?_
      rintro e w5 ⟨g5, rfl, o5, b5⟩
      have k5 := RdP.of_own o5
      clear o5
      have B5 := B4.trans (b5.mono B4.size)
      have k4 := (k4.below b5).lt
      clear b4 b5 B3 B4
      go_wp2_with fail
      refine (IM.out _ _ _ _ _ k4 k5).mono ?_
      rintro e w6 ⟨rfl, b6⟩
      have B6 := B5.trans (b6.mono B5.size)
      have k4 := (k4.below b6).lt
      have k5 := (k5.below b6).lt
      clear b6 B5
      go_wp2_with fail
      refine (toStepS_any es A c _ (by omega) (h.below B6).lt).mono ?_
      rintro e w7 ⟨g7, rfl, o7, b7⟩
      have k7 := RdP.of_own o7
      clear o7
      have B7 := B6.trans (b7.mono B6.size)
      have k4 := (k4.below b7).lt
      have k5 := (k5.below b7).lt
      clear b7 B6
      go_wp2_with fail
      refine (eqStepS_same es _ _ _ _ _ hn k4 k7).mono ?_
      rintro e w8 ⟨rfl, b8⟩
      have B8 := B7.trans (b8.mono B7.size)
      have k5 := (k5.below b8).lt
      clear b8 B7 k4 k7
      go_wp2_with fail
      refine (toStepS_any fs A' c' _ (by omega) (h'.below B8).lt).mono ?_
      rintro e w9 ⟨g9, rfl, o9, b9⟩
      have k9 := RdP.of_own o9
      clear o9
      have B9 := B8.trans (b9.mono B8.size)
      have k5 := (k5.below b9).lt
      clear b9 B8
      go_wp2_with fail
      refine (eqStepS_same fs _ _ _ _ _ hn' k5 k9).mono ?_
      rintro e w10 ⟨rfl, b10⟩
      have B10 := B9.trans (b10.mono B9.size)
      go_wp2
      go_ret
      exact ⟨rfl, B10⟩
    · go_enter Try.func8, Try.ntmps8
      go_wp2_with fail
      refine (szStepS_fit A es.length c (1048576) _ hS (by omega)).mono ?_
      rintro e w' ⟨rfl, rfl⟩
      go_wp2_with fail
      refine (szStepS_not A' fs.length c' (1048576 - es.length) _ (by omega) (by omega) hn').mono ?_
      rintro e w' ⟨rfl, rfl⟩
      go_wp2
      go_ret
      exact ⟨rfl, Below.refl _ _⟩
  · go_enter Try.func8, Try.ntmps8
    go_wp2_with fail
    refine (szStepS_not A es.length c (1048576) _ (by omega) (by omega) hn).mono ?_
    rintro e w' ⟨rfl, rfl⟩
    go_wp2
    go_ret
    exact ⟨rfl, Below.refl _ _⟩
end Go.Proofs.Ythomadhdjapahaa
