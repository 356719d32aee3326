/- The walk of the exact law of OrderFault. -/
import Derived.Test.YtdmdljimbmhecaaOrFM
import Derived.Test.YtdmdljimbmhecaaWlsU
import Derived.Test.YtdmdljimbmhecaaGTrS
namespace Go.Proofs.Ytdmdljimbmhecaa
open Go.RowKit

set_option maxRecDepth 100000 in
set_option maxHeartbeats 1600000 in
theorem FnExactOrderFault_walk (t : List (List Ev)) (A : Option Addr) (c : Nat) (os : List Wls) (A' : Option Addr) (c' : Nat) (w : World) (hc0 : t.length ≤ maxLen) (h : RdT w w.heap.size A t) (hc1 : os.length ≤ maxLen) (h' : RdW w w.heap.size A' os) :
    Calls Try.prog 5 #[.slice A t.length c, .slice A' os.length c'] w fun e w' => e = .returned (.bool true) ∧ Below w.heap.size w w' := by
  by_cases hS0 : t.length + sumT t ≤ 1048576
  · skip
    by_cases hS1 : os.length + sumO os ≤ 1048576 - t.length - sumT t
    · skip
      have HL0 := hide ((LenT.of_sum (t := t) (m := 1048576) (by omega)))
      have TO0 := hide (fun W (hW : RdT W W.heap.size A t) => toEventSS_any t A c W HL0.out hW)
      have TO1 := hide (fun W (hW : RdW W W.heap.size A' os) => toWriteListS_own os A' c' W (by omega) hW)
      obtain ⟨F, hF⟩ : ∃ F, F = odF t os := ⟨_, rfl⟩
      have SP := hide (fun A A' c c' w => specOrF_any t os A A' c c' w hc0 hc1)
      have IM := hide (fun A A' c c' w => implOrF_any t os A A' c c' w hc0 hc1)
      rw [← hF] at SP IM
      clear hF
      have R0 := h
      have R1 := h'
      have B := Below.refl w.heap.size w
      go_enter Try.func5, Try.ntmps5
      go_wp2_with fail
      refine (szEventSS_fit t A c (1048576) _ hS0 (by omega) R0).mono ?_
      rintro e v1 ⟨rfl, rfl⟩
      go_wp2_with fail
      refine (szWriteListS_fit os A' c' (1048576 - t.length - sumT t) _ hS1 (by omega) (R1.more (by omega))).mono ?_
      rintro e v2 ⟨rfl, b_v2⟩
      have z_1 := Below.size b_v2
      replace R0 := R0.below (b_v2.mono (by omega))
      replace R1 := R1.below (b_v2.mono (by omega))
      replace B := B.trans (b_v2.mono B.size)
      clear b_v2
      go_wp2_with fail
      refine (TO0.out _ (R0.more (by omega))).mono ?_
      rintro e w1 ⟨g1, rfl, x1, b_1⟩
      have z_2 := Below.size b_1
      replace R0 := R0.below (b_1.mono (by omega))
      replace R1 := R1.below (b_1.mono (by omega))
      replace B := B.trans (b_1.mono B.size)
      clear b_1
      go_wp2_with fail
      refine (TO1.out _ (R1.more (by omega))).mono ?_
      rintro e w2 ⟨g2, us2, rfl, o2, b_2⟩
      have z_3 := Below.size b_2
      replace R0 := R0.below (b_2.mono (by omega))
      replace R1 := R1.below (b_2.mono (by omega))
      replace B := B.trans (b_2.mono B.size)
      replace x1 := (x1.below b_2).lt
      clear b_2
      have x2 := o2.rd
      clear o2
      go_wp2_with fail
      refine (SP.out _ _ _ _ _ x1 x2).mono ?_
      rintro e w3 ⟨rfl, b_3⟩
      have z_4 := Below.size b_3
      replace R0 := R0.below (b_3.mono (by omega))
      replace R1 := R1.below (b_3.mono (by omega))
      replace B := B.trans (b_3.mono B.size)
      replace x1 := (x1.below b_3).lt
      replace x2 := (x2.below b_3).lt
      clear b_3
      clear x1 x2
      go_wp2_with fail
      refine (TO0.out _ (R0.more (by omega))).mono ?_
      rintro e w4 ⟨g4, rfl, x4, b_4⟩
      have z_5 := Below.size b_4
      replace R0 := R0.below (b_4.mono (by omega))
      replace R1 := R1.below (b_4.mono (by omega))
      replace B := B.trans (b_4.mono B.size)
      clear b_4
      go_wp2_with fail
      refine (TO1.out _ (R1.more (by omega))).mono ?_
      rintro e w5 ⟨g5, us5, rfl, o5, b_5⟩
      have z_6 := Below.size b_5
      replace R0 := R0.below (b_5.mono (by omega))
      replace R1 := R1.below (b_5.mono (by omega))
      replace B := B.trans (b_5.mono B.size)
      replace x4 := (x4.below b_5).lt
      clear b_5
      have x5 := o5.rd
      clear o5
      go_wp2_with fail
      refine (IM.out _ _ _ _ _ x4 x5).mono ?_
      rintro e w6 ⟨rfl, b_6⟩
      have z_7 := Below.size b_6
      replace R0 := R0.below (b_6.mono (by omega))
      replace R1 := R1.below (b_6.mono (by omega))
      replace B := B.trans (b_6.mono B.size)
      replace x4 := (x4.below b_6).lt
      replace x5 := (x5.below b_6).lt
      clear b_6
      go_wp2_with fail
      refine (TO0.out _ (R0.more (by omega))).mono ?_
      rintro e w7 ⟨g7, rfl, x7, b_7⟩
      have z_8 := Below.size b_7
      replace R0 := R0.below (b_7.mono (by omega))
      replace R1 := R1.below (b_7.mono (by omega))
      replace B := B.trans (b_7.mono B.size)
      replace x4 := (x4.below b_7).lt
      replace x5 := (x5.below b_7).lt
      clear b_7
      go_wp2_with fail
      refine (eqEventSS_same t _ _ _ _ _ hc0 x4 x7).mono ?_
      rintro e w8 ⟨rfl, b_8⟩
      have z_9 := Below.size b_8
      replace R0 := R0.below (b_8.mono (by omega))
      replace R1 := R1.below (b_8.mono (by omega))
      replace B := B.trans (b_8.mono B.size)
      replace x4 := (x4.below b_8).lt
      replace x5 := (x5.below b_8).lt
      replace x7 := (x7.below b_8).lt
      clear b_8
      clear x4 x7
      go_wp2_with fail
      refine (TO1.out _ (R1.more (by omega))).mono ?_
      rintro e w9 ⟨g9, us9, rfl, o9, b_9⟩
      have z_10 := Below.size b_9
      replace R0 := R0.below (b_9.mono (by omega))
      replace R1 := R1.below (b_9.mono (by omega))
      replace B := B.trans (b_9.mono B.size)
      replace x5 := (x5.below b_9).lt
      clear b_9
      have x9 := o9.rd
      clear o9
      go_wp2_with fail
      refine (eqWriteListS_same os _ _ _ _ _ hc1 x5 x9).mono ?_
      rintro e w10 ⟨rfl, b_10⟩
      have z_11 := Below.size b_10
      replace R0 := R0.below (b_10.mono (by omega))
      replace R1 := R1.below (b_10.mono (by omega))
      replace B := B.trans (b_10.mono B.size)
      replace x5 := (x5.below b_10).lt
      replace x9 := (x9.below b_10).lt
      clear b_10
      clear x5 x9
      go_wp2
      go_ret
      exact ⟨rfl, B⟩
    · skip
      have R0 := h
      have R1 := h'
      have B := Below.refl w.heap.size w
      go_enter Try.func5, Try.ntmps5
      go_wp2_with fail
      refine (szEventSS_fit t A c (1048576) _ hS0 (by omega) R0).mono ?_
      rintro e v1 ⟨rfl, rfl⟩
      go_wp2_with fail
      refine (szWriteListS_not os A' c' (1048576 - t.length - sumT t) _ (by omega) (by omega) hc1 (R1.more (by omega))).mono ?_
      rintro e v2 ⟨rfl, b_v2⟩
      have z_1 := Below.size b_v2
      replace R0 := R0.below (b_v2.mono (by omega))
      replace R1 := R1.below (b_v2.mono (by omega))
      replace B := B.trans (b_v2.mono B.size)
      clear b_v2
      go_wp2
      go_ret
      exact ⟨rfl, B⟩
  · skip
    have R0 := h
    have R1 := h'
    have B := Below.refl w.heap.size w
    go_enter Try.func5, Try.ntmps5
    go_wp2_with fail
    refine (szEventSS_not t A c (1048576) _ (by omega) (by omega) hc0 R0).mono ?_
    rintro e v1 ⟨rfl, rfl⟩
    go_wp2
    go_ret
    exact ⟨rfl, B⟩
end Go.Proofs.Ytdmdljimbmhecaa
