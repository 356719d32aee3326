/- The walk of the exact law of IsWitness. -/
import Derived.Test.YtdmdljimbmhecaaGJdg
import Derived.Test.YtdmdljimbmhecaaWlsU
import Derived.Test.YtdmdljimbmhecaaGTrS
import Derived.Test.YtdmdljimbmhecaaIntS
namespace Go.Proofs.Ytdmdljimbmhecaa
open Go.RowKit

set_option maxRecDepth 100000 in
set_option maxHeartbeats 1600000 in
theorem FnExactIsWitness_walk (t : List (List Ev)) (A : Option Addr) (c : Nat) (os : List Wls) (A' : Option Addr) (c' : Nat) (l : List Int) (A'' : Option Addr) (c'' : Nat) (w : World) (hc0 : t.length ≤ maxLen) (h : RdT w w.heap.size A t) (hc1 : os.length ≤ maxLen) (h' : RdW w w.heap.size A' os) (hc2 : l.length ≤ maxLen) (h'' : Rd .i64 w w.heap.size A'' l) :
    Calls Try.prog 8 #[.slice A t.length c, .slice A' os.length c', .slice A'' l.length c''] w fun e w' => e = .returned (.bool true) ∧ Below w.heap.size w w' := by
  have hcx2 := hc2
  by_cases hI : l.length ≤ 1048576
  · skip
    by_cases hS0 : t.length + sumT t ≤ 1048576
    · skip
      by_cases hS1 : os.length + sumO os ≤ 1048576 - t.length - sumT t
      · skip
        have HL0 := hide ((LenT.of_sum (t := t) (m := 1048576) (by omega)))
        have TO0 := hide (fun W (hW : RdT W W.heap.size A t) => toEventSS_any t A c W HL0.out hW)
        have TO1 := hide (fun W (hW : RdW W W.heap.size A' os) => toWriteListS_own os A' c' W (by omega) hW)
        have TO2 := hide (fun W (hW : Rd .i64 W W.heap.size A'' l) => toInt64S_any l A'' c'' W hI hW)
        obtain ⟨F, hF⟩ : ∃ F, F = witB t os l := ⟨_, rfl⟩
        have SP := hide (fun A A' A'' c c' c'' w => specWit_any t os l A A' A'' c c' c'' w hc0 hc1 hc2)
        have IM := hide (fun A A' A'' c c' c'' w => implWit_any t os l A A' A'' c c' c'' w hc0 hc1 hc2)
        rw [← hF] at SP IM
        clear hF
        have R0 := h
        have R1 := h'
        have R2 := h''
        have B := Below.refl w.heap.size w
        go_enter Try.func8, Try.ntmps8
        go_wp2_with fail
        refine (szEventSS_fit t A c (1048576) _ hS0 (by omega) R0).mono ?_
        rintro e v1 ⟨rfl, rfl⟩
        go_wp2_with fail
        refine (szWriteListS_fit os A' c' (1048576 - t.length - sumT t) _ hS1 (by omega) (R1.more (by omega))).mono ?_
        rintro e v2 ⟨rfl, b_v2⟩
        have z_1 := Below.size b_v2
        replace R0 := R0.below (b_v2.mono (by omega))
        replace R1 := R1.below (b_v2.mono (by omega))
        replace R2 := R2.below (b_v2.mono (by omega))
        replace B := B.trans (b_v2.mono B.size)
        clear b_v2
        go_wp2_with fail
        refine (TO0.out _ (R0.more (by omega))).mono ?_
        rintro e w1 ⟨g1, rfl, x1, b_1⟩
        have z_2 := Below.size b_1
        replace R0 := R0.below (b_1.mono (by omega))
        replace R1 := R1.below (b_1.mono (by omega))
        replace R2 := R2.below (b_1.mono (by omega))
        replace B := B.trans (b_1.mono B.size)
        clear b_1
        go_wp2_with fail
        refine (TO1.out _ (R1.more (by omega))).mono ?_
        rintro e w2 ⟨g2, us2, rfl, o2, b_2⟩
        have z_3 := Below.size b_2
        replace R0 := R0.below (b_2.mono (by omega))
        replace R1 := R1.below (b_2.mono (by omega))
        replace R2 := R2.below (b_2.mono (by omega))
        replace B := B.trans (b_2.mono B.size)
        replace x1 := (x1.below b_2).lt
        clear b_2
        have x2 := o2.rd
        clear o2
        go_wp2_with fail
        refine (TO2.out _ (R2.more (by omega))).mono ?_
        rintro e w3 ⟨g3, rfl, o3, b_3⟩
        have z_4 := Below.size b_3
        replace R0 := R0.below (b_3.mono (by omega))
        replace R1 := R1.below (b_3.mono (by omega))
        replace R2 := R2.below (b_3.mono (by omega))
        replace B := B.trans (b_3.mono B.size)
        replace x1 := (x1.below b_3).lt
        replace x2 := (x2.below b_3).lt
        clear b_3
        have x3 := Rd.of_own o3
        clear o3
        go_wp2_with fail
        refine (SP.out _ _ _ _ _ _ _ x1 x2 x3).mono ?_
        rintro e w4 ⟨rfl, b_4⟩
        have z_5 := Below.size b_4
        replace R0 := R0.below (b_4.mono (by omega))
        replace R1 := R1.below (b_4.mono (by omega))
        replace R2 := R2.below (b_4.mono (by omega))
        replace B := B.trans (b_4.mono B.size)
        replace x1 := (x1.below b_4).lt
        replace x2 := (x2.below b_4).lt
        replace x3 := (x3.below b_4).lt
        clear b_4
        clear x1 x2 x3
        go_wp2_with fail
        refine (TO0.out _ (R0.more (by omega))).mono ?_
        rintro e w5 ⟨g5, rfl, x5, b_5⟩
        have z_6 := Below.size b_5
        replace R0 := R0.below (b_5.mono (by omega))
        replace R1 := R1.below (b_5.mono (by omega))
        replace R2 := R2.below (b_5.mono (by omega))
        replace B := B.trans (b_5.mono B.size)
        clear b_5
        go_wp2_with fail
        refine (TO1.out _ (R1.more (by omega))).mono ?_
        rintro e w6 ⟨g6, us6, rfl, o6, b_6⟩
        have z_7 := Below.size b_6
        replace R0 := R0.below (b_6.mono (by omega))
        replace R1 := R1.below (b_6.mono (by omega))
        replace R2 := R2.below (b_6.mono (by omega))
        replace B := B.trans (b_6.mono B.size)
        replace x5 := (x5.below b_6).lt
        clear b_6
        have x6 := o6.rd
        clear o6
        go_wp2_with fail
        refine (TO2.out _ (R2.more (by omega))).mono ?_
        rintro e w7 ⟨g7, rfl, o7, b_7⟩
        have z_8 := Below.size b_7
        replace R0 := R0.below (b_7.mono (by omega))
        replace R1 := R1.below (b_7.mono (by omega))
        replace R2 := R2.below (b_7.mono (by omega))
        replace B := B.trans (b_7.mono B.size)
        replace x5 := (x5.below b_7).lt
        replace x6 := (x6.below b_7).lt
        clear b_7
        have x7 := Rd.of_own o7
        clear o7
        go_wp2_with fail
        refine (IM.out _ _ _ _ _ _ _ x5 x6 x7).mono ?_
        rintro e w8 ⟨rfl, b_8⟩
        have z_9 := Below.size b_8
        replace R0 := R0.below (b_8.mono (by omega))
        replace R1 := R1.below (b_8.mono (by omega))
        replace R2 := R2.below (b_8.mono (by omega))
        replace B := B.trans (b_8.mono B.size)
        replace x5 := (x5.below b_8).lt
        replace x6 := (x6.below b_8).lt
        replace x7 := (x7.below b_8).lt
        clear b_8
        have hbb : (F != F) = false := by simp
        go_wp2_with fail
        refine (TO0.out _ (R0.more (by omega))).mono ?_
        rintro e w9 ⟨g9, rfl, x9, b_9⟩
        have z_10 := Below.size b_9
        replace R0 := R0.below (b_9.mono (by omega))
        replace R1 := R1.below (b_9.mono (by omega))
        replace R2 := R2.below (b_9.mono (by omega))
        replace B := B.trans (b_9.mono B.size)
        replace x5 := (x5.below b_9).lt
        replace x6 := (x6.below b_9).lt
        replace x7 := (x7.below b_9).lt
        clear b_9
        go_wp2_with fail
        refine (eqEventSS_same t _ _ _ _ _ hc0 x5 x9).mono ?_
        rintro e w10 ⟨rfl, b_10⟩
        have z_11 := Below.size b_10
        replace R0 := R0.below (b_10.mono (by omega))
        replace R1 := R1.below (b_10.mono (by omega))
        replace R2 := R2.below (b_10.mono (by omega))
        replace B := B.trans (b_10.mono B.size)
        replace x5 := (x5.below b_10).lt
        replace x6 := (x6.below b_10).lt
        replace x7 := (x7.below b_10).lt
        replace x9 := (x9.below b_10).lt
        clear b_10
        clear x5 x9
        go_wp2_with fail
        refine (TO1.out _ (R1.more (by omega))).mono ?_
        rintro e w11 ⟨g11, us11, rfl, o11, b_11⟩
        have z_12 := Below.size b_11
        replace R0 := R0.below (b_11.mono (by omega))
        replace R1 := R1.below (b_11.mono (by omega))
        replace R2 := R2.below (b_11.mono (by omega))
        replace B := B.trans (b_11.mono B.size)
        replace x6 := (x6.below b_11).lt
        replace x7 := (x7.below b_11).lt
        clear b_11
        have x11 := o11.rd
        clear o11
        go_wp2_with fail
        refine (eqWriteListS_same os _ _ _ _ _ hc1 x6 x11).mono ?_
        rintro e w12 ⟨rfl, b_12⟩
        have z_13 := Below.size b_12
        replace R0 := R0.below (b_12.mono (by omega))
        replace R1 := R1.below (b_12.mono (by omega))
        replace R2 := R2.below (b_12.mono (by omega))
        replace B := B.trans (b_12.mono B.size)
        replace x6 := (x6.below b_12).lt
        replace x7 := (x7.below b_12).lt
        replace x11 := (x11.below b_12).lt
        clear b_12
        clear x6 x11
        go_wp2_with fail
        refine (TO2.out _ (R2.more (by omega))).mono ?_
        rintro e w13 ⟨g13, rfl, o13, b_13⟩
        have z_14 := Below.size b_13
        replace R0 := R0.below (b_13.mono (by omega))
        replace R1 := R1.below (b_13.mono (by omega))
        replace R2 := R2.below (b_13.mono (by omega))
        replace B := B.trans (b_13.mono B.size)
        replace x7 := (x7.below b_13).lt
        clear b_13
        have x13 := Rd.of_own o13
        clear o13
        go_wp2_with fail
        refine (eqInt64S_same l _ _ _ _ _ hc2 x7 x13).mono ?_
        rintro e w14 ⟨rfl, b_14⟩
        have z_15 := Below.size b_14
        replace R0 := R0.below (b_14.mono (by omega))
        replace R1 := R1.below (b_14.mono (by omega))
        replace R2 := R2.below (b_14.mono (by omega))
        replace B := B.trans (b_14.mono B.size)
        replace x7 := (x7.below b_14).lt
        replace x13 := (x13.below b_14).lt
        clear b_14
        clear x7 x13
        go_wp2
        go_ret
        exact ⟨rfl, B⟩
      · skip
        have R0 := h
        have R1 := h'
        have R2 := h''
        have B := Below.refl w.heap.size w
        go_enter Try.func8, Try.ntmps8
        go_wp2_with fail
        refine (szEventSS_fit t A c (1048576) _ hS0 (by omega) R0).mono ?_
        rintro e v1 ⟨rfl, rfl⟩
        go_wp2_with fail
        refine (szWriteListS_not os A' c' (1048576 - t.length - sumT t) _ (by omega) (by omega) hc1 (R1.more (by omega))).mono ?_
        rintro e v2 ⟨rfl, b_v2⟩
        have z_1 := Below.size b_v2
        replace R0 := R0.below (b_v2.mono (by omega))
        replace R1 := R1.below (b_v2.mono (by omega))
        replace R2 := R2.below (b_v2.mono (by omega))
        replace B := B.trans (b_v2.mono B.size)
        clear b_v2
        go_wp2
        go_ret
        exact ⟨rfl, B⟩
    · skip
      have R0 := h
      have R1 := h'
      have R2 := h''
      have B := Below.refl w.heap.size w
      go_enter Try.func8, Try.ntmps8
      go_wp2_with fail
      refine (szEventSS_not t A c (1048576) _ (by omega) (by omega) hc0 R0).mono ?_
      rintro e v1 ⟨rfl, rfl⟩
      go_wp2
      go_ret
      exact ⟨rfl, B⟩
  · skip
    have hcx := hc2
    unfold maxLen at hcx
    go_enter Try.func8, Try.ntmps8
    go_wp2
    go_ret
    exact ⟨rfl, Below.refl _ _⟩
end Go.Proofs.Ytdmdljimbmhecaa
