/- The walk of the exact law of StepsFault. -/
import Derived.Test.YtjdbakebcdkfcaaEvS
import Derived.Test.YtjdbakebcdkfcaaStF
namespace Go.Proofs.Ytjdbakebcdkfcaa
open Go.RowKit

set_option maxHeartbeats 400000 in
theorem FnExactStepsFault_walk (es : List Ev) (A : Option Addr) (c : Nat) (w : World) (hl : es.length ≤ c) (hc : c ≤ maxLen) (h : RdE w w.heap.size A es) :
    Calls Try.prog 5 #[.slice A es.length c] w fun e w' => e = .returned (.bool true) ∧ Below w.heap.size w w' := by
  have hn : es.length ≤ maxLen := by omega
  unfold maxLen at hc
  by_cases hL : es.length ≤ 1048576
  · obtain ⟨F, hF⟩ : ∃ F, F = stF es := ⟨_, rfl⟩
    have SP := hide (fun A c w => specStF_any es A c w hn)
    have IM := hide (fun A c w => implStF_any es A c w hn)
    rw [← hF] at SP IM
    clear hF
    go_enter Try.func5, Try.ntmps5
    go_wp2_with fail
    refine (szEventS_fit A es.length c 1048576 _ hL (Nat.le_refl _)).mono ?_
    rintro e w' ⟨rfl, rfl⟩
    go_wp2_with fail
    refine (toEventS_any es A c _ hL h).mono ?_
    rintro e w1 ⟨g1, rfl, o1, B1⟩
    go_wp2_with fail
    refine (SP.out _ _ _ (RdE.of_own o1)).mono ?_
    rintro e w2 ⟨rfl, b2⟩
    have B2 := B1.trans (b2.mono B1.size)
    clear b2 o1 B1
    go_wp2_with fail
    refine (toEventS_any es A c _ hL (h.below B2).lt).mono ?_
    rintro e w3 ⟨g3, rfl, o3, b3⟩
    have B3 := B2.trans (b3.mono B2.size)
    have r3 := RdE.of_own o3
    clear b3 o3 B2
    go_wp2_with fail
    refine (IM.out _ _ _ r3).mono ?_
    rintro e w4 ⟨rfl, b4⟩
    have B4 := B3.trans (b4.mono B3.size)
    have r4 := (r3.below b4).lt
    clear b4 r3 B3
    go_wp2_with fail
    refine (toEventS_any es A c _ hL (h.below B4).lt).mono ?_
    rintro e w6 ⟨g6, rfl, o6, b6⟩
    have B6 := B4.trans (b6.mono B4.size)
    have r6 := (r4.below b6).lt
    have s6 := RdE.of_own o6
    clear b6 r4 o6 B4
    go_wp2_with fail
    refine (eqEventS_same es _ _ _ _ _ hn r6 s6).mono ?_
    rintro e w7 ⟨rfl, b7⟩
    have B7 := B6.trans (b7.mono B6.size)
    go_wp2
    go_ret
    exact ⟨rfl, B7⟩
  · go_enter Try.func5, Try.ntmps5
    go_wp2_with fail
    refine (szEventS_not A es.length c 1048576 _ (by omega) (Nat.le_refl _) hn).mono ?_
    rintro e w' ⟨rfl, rfl⟩
    go_wp2
    go_ret
    exact ⟨rfl, Below.refl _ _⟩
end Go.Proofs.Ytjdbakebcdkfcaa
