/- The walk of the exact law of IsFlat. -/
import Derived.Test.YtldepledinolmaaFlatI
import Derived.Test.YtldepledinolmaaFlatS
namespace Go.Proofs.Ytldepledinolmaa
open Go.RowKit

set_option maxRecDepth 100000 in
set_option maxHeartbeats 800000 in
theorem FnExactIsFlat_walk (ss : List Stp) (A : Option Addr) (c : Nat) (n : Int) (w : World) (hl : ss.length ≤ c) (hc : c ≤ maxLen) (h : RdP w w.heap.size A ss) :
    Calls Try.prog 6 #[.slice A ss.length c, .int .i64 n] w fun e w' => e = .returned (.bool true) ∧ Below w.heap.size w w' := by
  have hn : ss.length ≤ maxLen := by omega
  unfold maxLen at hc
  by_cases hS : ss.length ≤ 1048576
  · obtain ⟨F, hF⟩ : ∃ F, F = flatB ss n := ⟨_, rfl⟩
    have SP := hide (fun A c w => specFlat_any ss n A c w hn)
    have IM := hide (fun A c w => implFlat_any ss n A c w hn)
    rw [← hF] at SP IM
    have hbb : (F != F) = false := by simp
    clear hF
    go_enter Try.func6, Try.ntmps6
    go_wp2_with fail
    refine (szStepS_fit A ss.length c 1048576 _ hS (Nat.le_refl _)).mono ?_
    rintro e w' ⟨rfl, rfl⟩
    go_wp2_with fail
    refine (toStepS_any ss A c _ hS h).mono ?_
    rintro e w1 ⟨g1, rfl, o1, b1⟩
    have k1 := RdP.of_own o1
    have B1 := b1
    clear o1 b1
    go_wp2_with fail
    refine (SP.out _ _ _ k1).mono ?_
    rintro e w2 ⟨rfl, b2⟩
    have B2 := B1.trans (b2.mono B1.size)
    clear k1 b2 B1
    go_wp2_with fail
    refine (toStepS_any ss A c _ hS (h.below B2).lt).mono ?_
    rintro e w3 ⟨g3, rfl, o3, b3⟩
    have k3 := RdP.of_own o3
    have B3 := B2.trans (b3.mono B2.size)
    clear o3 b3 B2
    go_wp2_with fail
    refine (IM.out _ _ _ k3).mono ?_
    rintro e w4 ⟨rfl, b4⟩
    have B4 := B3.trans (b4.mono B3.size)
    have k4 := (k3.below b4).lt
    clear k3 b4 B3
    go_wp2_with fail
    refine (toStepS_any ss A c _ hS (h.below B4).lt).mono ?_
    rintro e w5 ⟨g5, rfl, o5, b5⟩
    have k5 := RdP.of_own o5
    have k4 := (k4.below b5).lt
    have B5 := B4.trans (b5.mono B4.size)
    clear o5 b5 B4
    go_wp2_with fail
    refine (eqStepS_same ss _ _ _ _ _ hn k4 k5).mono ?_
    rintro e w6 ⟨rfl, b6⟩
    have B6 := B5.trans (b6.mono B5.size)
    clear k4 k5 b6 B5
    go_wp2
    go_ret
    exact ⟨rfl, B6⟩
  · go_enter Try.func6, Try.ntmps6
    go_wp2_with fail
    refine (szStepS_not A ss.length c 1048576 _ (by omega) (Nat.le_refl _) hn).mono ?_
    rintro e w' ⟨rfl, rfl⟩
    go_wp2
    go_ret
    exact ⟨rfl, Below.refl _ _⟩
end Go.Proofs.Ytldepledinolmaa
