/- The walk of the exact law of ProgramsFault. -/
import Derived.Test.YtifijhfeeammkaaOpI
import Derived.Test.YtifijhfeeammkaaOpT
namespace Go.Proofs.Ytifijhfeeammkaa
open Go.RowKit

set_option maxHeartbeats 400000 in
theorem FnExactProgramsFault_walk (t : List (List Ev)) (A : Option Addr) (c : Nat) (w : World) (hl : t.length ≤ c) (hc : c ≤ maxLen) (h : RdT w w.heap.size A t) :
    Calls Try.prog 6 #[.slice A t.length c] w fun e w' => e = .returned (.bool true) ∧ Below w.heap.size w w' := by
  have hn : t.length ≤ maxLen := by omega
  unfold maxLen at hc
  by_cases hS : t.length + sumT t ≤ 1048576
  · have hL := LenT.of_sum hS
    obtain ⟨F, hF⟩ : ∃ F, F = pgF t := ⟨_, rfl⟩
    have SP := hide (fun A c w => specPgF_any t A c w hn)
    have IM := hide (fun A c w => implPgF_any t A c w hn)
    rw [← hF] at SP IM
    have HL := hide hL
    clear hF hL
    go_enter Try.func6, Try.ntmps6
    go_wp2_with fail
    refine (szOpSS_fit t A c 1048576 _ hS (Nat.le_refl _) h).mono ?_
    rintro e w' ⟨rfl, rfl⟩
    go_wp2_with fail
    refine (toOpSS_any t A c _ HL.out h).mono ?_
    rintro e w1 ⟨g1, rfl, r1, B1⟩
    go_wp2_with fail
    refine (SP.out _ _ _ r1).mono ?_
    rintro e w2 ⟨rfl, b2⟩
    have B2 := B1.trans (b2.mono B1.size)
    clear b2 r1 B1
    go_wp2_with fail
    refine (toOpSS_any t A c _ HL.out (h.below B2).lt).mono ?_
    rintro e w3 ⟨g3, rfl, r3, b3⟩
    have B3 := B2.trans (b3.mono B2.size)
    clear b3 B2
    go_wp2_with fail
    refine (IM.out _ _ _ r3).mono ?_
    rintro e w4 ⟨rfl, b4⟩
    have B4 := B3.trans (b4.mono B3.size)
    have r4 := (r3.below b4).lt
    clear b4 r3 B3
    go_wp2_with fail
    refine (toOpSS_any t A c _ HL.out (h.below B4).lt).mono ?_
    rintro e w6 ⟨g6, rfl, s6, b6⟩
    have B6 := B4.trans (b6.mono B4.size)
    have r6 := (r4.below b6).lt
    clear b6 r4 B4
    go_wp2_with fail
    refine (eqOpSS_same t _ _ _ _ _ hn r6 s6).mono ?_
    rintro e w7 ⟨rfl, b7⟩
    have B7 := B6.trans (b7.mono B6.size)
    go_wp2
    go_ret
    exact ⟨rfl, B7⟩
  · go_enter Try.func6, Try.ntmps6
    go_wp2_with fail
    refine (szOpSS_not t A c 1048576 _ (by omega) (Nat.le_refl _) hn h).mono ?_
    rintro e w' ⟨rfl, rfl⟩
    go_wp2
    go_ret
    exact ⟨rfl, Below.refl _ _⟩
end Go.Proofs.Ytifijhfeeammkaa
