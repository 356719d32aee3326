/- The walk of the exact law of SameFrames. -/
import Derived.Test.YtkeifkdaddmkfaaFrS
import Derived.Deep.RegionHeld3
import Derived.Deep.DeepCutAuto
namespace Go.Proofs.Ytkeifkdaddmkfaa
open Go.RowKit

set_option maxRecDepth 100000 in
set_option maxHeartbeats 1600000 in
theorem FnExactSameFrames_walk (k k' : Int) (es fs : List Ev) (A A' : Option Addr) (c c' : Nat) (w : World) (hl : es.length ≤ c) (hc : c ≤ maxLen) (h : RdE w w.heap.size A es) (hl' : fs.length ≤ c') (hc' : c' ≤ maxLen) (h' : RdE w w.heap.size A' fs) :
    Calls Try.prog 4 #[frV k A es.length c, frV k' A' fs.length c'] w fun e w' => e = .returned (.bool true) ∧ Below w.heap.size w w' := by
  have hn : es.length ≤ maxLen := by omega
  have hn' : fs.length ≤ maxLen := by omega
  unfold maxLen at hc hc'
  obtain ⟨W, hW⟩ : ∃ W, W = (w.alloc (Obj.cells #[Value.int .i64 k, .slice A es.length c] 24)).alloc (Obj.cells #[Value.int .i64 k', .slice A' fs.length c'] 24) := ⟨_, rfl⟩
  have HW := hide hW
  obtain ⟨K0, J0, hz, B0⟩ := two_new _ _ _ _ _ W hW
  clear hW
  have hR := (h.below B0).lt
  have hS := (h'.below B0).lt
  by_cases hL : es.length ≤ 1048576
  · by_cases hL2 : fs.length ≤ 1048576 - es.length
    · obtain ⟨F, hF⟩ : ∃ F, F = sameF k k' es fs := ⟨_, rfl⟩
      have SP := hide (fun A A' c c' w => specFrS_any k k' es fs A A' c c' w hn)
      have IM := hide (fun A A' c c' w => implFrS_any k k' es fs A A' c c' w hn)
      rw [← hF] at SP IM
      clear hF h h'
      go_enter Try.func4, Try.ntmps4
      go_wp2_with fail
      rw [← HW.out]
      refine (szFrame_fit k A es.length c 1048576 _ hL (Nat.le_refl _)).mono ?_
      rintro e w1 ⟨rfl, b1⟩
      have K1 := K0.kept b1
      have J1 := J0.kept b1
      have r1 := (hR.below b1).lt
      have s1 := (hS.below b1).lt
      have B1 := B0.trans (b1.mono B0.size)
      clear b1 B0 K0 J0 hR hS
      have q2 := (J1.cell 0).trans (rfl : _ = some (Value.int .i64 k'))
      have q3 := (J1.cell 1).trans (rfl : _ = some (Value.slice A' fs.length c'))
      go_wp2_with fail
      refine (szFrame_fit k' A' fs.length c' (1048576 - es.length) _ hL2 (by omega)).mono ?_
      rintro e w2 ⟨rfl, b2⟩
      have K2 := K1.kept b2
      have J2 := J1.kept b2
      have r2 := (r1.below b2).lt
      have s2 := (s1.below b2).lt
      have B2 := B1.trans (b2.mono B1.size)
      clear b2 B1 K1 J1 r1 s1 q2 q3
      have q0 := (K2.cell 0).trans (rfl : _ = some (Value.int .i64 k))
      have q1 := (K2.cell 1).trans (rfl : _ = some (Value.slice A es.length c))
      have q2 := (J2.cell 0).trans (rfl : _ = some (Value.int .i64 k'))
      have q3 := (J2.cell 1).trans (rfl : _ = some (Value.slice A' fs.length c'))
      have TF := hide (fun W hW => toFrame_any k es A c W hL hW)
      have TG := hide (fun W hW => toFrame_any k' fs A' c' W (by omega) hW)
      go_wp2_with fail
      go_cut [6] (fun s wx => s = .bool F ∧ Below w2.heap.size w2 wx)
      case first =>
        go_region_held3 (fun w' => w'.cell? ⟨w.heap.size, 0, none⟩ = some (.int .i64 k) ∧ w'.cell? ⟨w.heap.size, 1, none⟩ = some (.slice A es.length c) ∧ w'.cell? ⟨w.heap.size + 1, 0, none⟩ = some (.int .i64 k') ∧ w'.cell? ⟨w.heap.size + 1, 1, none⟩ = some (.slice A' fs.length c') ∧ Below w2.heap.size w2 w')
          (first | assumption | exact ⟨q0, q1, q2, q3, (Below.refl _ _).drew⟩ | (go_split_ands; exact ⟨cell_kept (by assumption) (by assumption), cell_kept (by assumption) (by assumption), cell_kept (by assumption) (by assumption), cell_kept (by assumption) (by assumption), Below.trans (by assumption) (Below.mono (by assumption) (Below.size (by assumption)))⟩))
          (first
            | (go_at_call 7; (with_reducible refine (TF.out _ ?_).mono ?_); (go_split_ands; exact (r2.below (by assumption)).lt); rintro e wa ⟨ga, rfl, oa, ba⟩)
            | (go_at_call 7; (with_reducible refine (TG.out _ ?_).mono ?_); (go_split_ands; exact (s2.below (by assumption)).lt); rintro e wb ⟨gb, rfl, ob, bb⟩)
            | (go_at_call 10; refine (SP.out _ _ _ _ _ ?_ ?_).mono ?_; (first | exact RdE.of_own oa | exact ((RdE.of_own oa).below bb).lt); (first | exact RdE.of_own ob | exact ((RdE.of_own ob).below ba).lt); rintro e wc ⟨rfl, bc⟩))
        all_goals
          go_wp2_with fail
          go_meet
          exact ⟨rfl, by go_split_ands; assumption⟩
      case rest =>
        obtain ⟨rfl, C1⟩ := hcut
        have K3 := K2.kept C1
        have J3 := J2.kept C1
        have r3 := (r2.below C1).lt
        have s3 := (s2.below C1).lt
        have B3 := B2.trans (C1.mono B2.size)
        clear C1 B2 K2 J2 r2 s2 q0 q1 q2 q3
        have q0 := (K3.cell 0).trans (rfl : _ = some (Value.int .i64 k))
        have q1 := (K3.cell 1).trans (rfl : _ = some (Value.slice A es.length c))
        go_wp2_with fail
        refine (TF.out _ r3).mono ?_
        rintro e w4 ⟨g4, rfl, o4, b4⟩
        have k4 := RdE.of_own o4
        have K4 := K3.kept b4
        have J4 := J3.kept b4
        have r4 := (r3.below b4).lt
        have s4 := (s3.below b4).lt
        have B4 := B3.trans (b4.mono B3.size)
        clear b4 B3 K3 J3 r3 s3 o4 q0 q1
        have x5 := Bk.new w4 #[Value.int .i64 k, .slice (some ⟨g4, 0, none⟩) es.length es.length] 29
        have e5 := (Below.refl w4.heap.size w4).alloc (Nat.le_refl _) (Obj.cells #[Value.int .i64 k, .slice (some ⟨g4, 0, none⟩) es.length es.length] 29)
        have q2 := (J4.cell 0).trans (rfl : _ = some (Value.int .i64 k'))
        have q3 := (J4.cell 1).trans (rfl : _ = some (Value.slice A' fs.length c'))
        have q2 := (cell_kept e5 q2)
        have q3 := (cell_kept e5 q3)
        go_wp2_with fail
        refine (TG.out _ (s4.below e5).lt).mono ?_
        rintro e w6 ⟨g6, rfl, o6, b6⟩
        have j6 := RdE.of_own o6
        have e6 := e5.trans (b6.mono e5.size)
        have x6 := x5.kept b6
        have k6 := (k4.below e6).lt
        have K6 := K4.kept e6
        have J6 := J4.kept e6
        have r6 := (r4.below e6).lt
        have s6 := (s4.below e6).lt
        have B6 := B4.trans (e6.mono B4.size)
        clear e5 e6 b6 x5 k4 K4 J4 r4 s4 B4 q2 q3 o6
        have x7 := Bk.new w6 #[Value.int .i64 k', .slice (some ⟨g6, 0, none⟩) fs.length fs.length] 29
        have e7 := (Below.refl w6.heap.size w6).alloc (Nat.le_refl _) (Obj.cells #[Value.int .i64 k', .slice (some ⟨g6, 0, none⟩) fs.length fs.length] 29)
        have y6 := x6.kept e7
        have q4 := (y6.cell 0).trans (rfl : _ = some (Value.int .i64 k))
        have q5 := (y6.cell 1).trans (rfl : _ = some (Value.slice (some ⟨g4, 0, none⟩) es.length es.length))
        go_wp2_with fail
        refine (IM.out _ _ _ _ _ (k6.below e7).lt (j6.below e7).lt).mono ?_
        rintro e w8 ⟨rfl, b8⟩
        have e8 := e7.trans (b8.mono e7.size)
        have x8 := x6.kept e8
        have z8 := x7.kept b8
        have k8 := (k6.below e8).lt
        have j8 := (j6.below e8).lt
        have K8 := K6.kept e8
        have J8 := J6.kept e8
        have r8 := (r6.below e8).lt
        have s8 := (s6.below e8).lt
        have B8 := B6.trans (e8.mono B6.size)
        clear e7 e8 b8 x6 x7 y6 k6 j6 K6 J6 r6 s6 B6 q4 q5
        have hbb : (F != F) = false := by simp
        have EF := hide (fun A A' c c' W hW hW' => eqFrame_same k es A A' c c' W hn hW hW')
        have EG := hide (fun A A' c c' W hW hW' => eqFrame_same k' fs A A' c c' W hn' hW hW')
        have q0 := (K8.cell 0).trans (rfl : _ = some (Value.int .i64 k))
        have q1 := (K8.cell 1).trans (rfl : _ = some (Value.slice A es.length c))
        have q2 := (x8.cell 0).trans (rfl : _ = some (Value.int .i64 k))
        have q3 := (x8.cell 1).trans (rfl : _ = some (Value.slice (some ⟨g4, 0, none⟩) es.length es.length))
        go_wp2_with fail
        go_cut [39] (fun s wx => s = .bool false ∧ Below w8.heap.size w8 wx)
        case first =>
          go_region_held3 (fun w' => w'.cell? ⟨w.heap.size, 0, none⟩ = some (.int .i64 k) ∧ w'.cell? ⟨w.heap.size, 1, none⟩ = some (.slice A es.length c) ∧ w'.cell? ⟨w4.heap.size, 0, none⟩ = some (.int .i64 k) ∧ w'.cell? ⟨w4.heap.size, 1, none⟩ = some (.slice (some ⟨g4, 0, none⟩) es.length es.length) ∧ Below w8.heap.size w8 w')
            (first | assumption | exact ⟨q0, q1, q2, q3, (Below.refl _ _).drew⟩ | (go_split_ands; exact ⟨cell_kept (by assumption) (by assumption), cell_kept (by assumption) (by assumption), cell_kept (by assumption) (by assumption), cell_kept (by assumption) (by assumption), Below.trans (by assumption) (Below.mono (by assumption) (Below.size (by assumption)))⟩))
            (first
              | (go_at_call 7; refine (TF.out _ ?_).mono ?_; (go_split_ands; exact (r8.below (by assumption)).lt); rintro e wa ⟨ga, rfl, oa, ba⟩)
              | (go_at_call 9; refine (EF.out _ _ _ _ _ ?_ ?_).mono ?_; (go_split_ands; exact (k8.below (by assumption)).lt); exact RdE.of_own (by assumption); rintro e wa ⟨rfl, ba⟩))
          go_wp2_with fail
          go_meet
          exact ⟨rfl, by go_split_ands; assumption⟩
        case rest =>
          obtain ⟨rfl, C1⟩ := hcut
          have J9 := J8.kept C1
          have z9 := z8.kept C1
          have j9 := (j8.below C1).lt
          have s9 := (s8.below C1).lt
          have B9 := B8.trans (C1.mono B8.size)
          clear C1 B8 J8 z8 j8 s8 K8 x8 k8 r8 q0 q1 q2 q3
          have q0 := (J9.cell 0).trans (rfl : _ = some (Value.int .i64 k'))
          have q1 := (J9.cell 1).trans (rfl : _ = some (Value.slice A' fs.length c'))
          have q2 := (z9.cell 0).trans (rfl : _ = some (Value.int .i64 k'))
          have q3 := (z9.cell 1).trans (rfl : _ = some (Value.slice (some ⟨g6, 0, none⟩) fs.length fs.length))
          go_wp2_with fail
          go_cut [44] (fun s wy => s = .bool false ∧ Below wc.heap.size wc wy)
          case first =>
            go_region_held3 (fun w' => w'.cell? ⟨w.heap.size + 1, 0, none⟩ = some (.int .i64 k') ∧ w'.cell? ⟨w.heap.size + 1, 1, none⟩ = some (.slice A' fs.length c') ∧ w'.cell? ⟨w6.heap.size, 0, none⟩ = some (.int .i64 k') ∧ w'.cell? ⟨w6.heap.size, 1, none⟩ = some (.slice (some ⟨g6, 0, none⟩) fs.length fs.length) ∧ Below wc.heap.size wc w')
              (first | assumption | exact ⟨q0, q1, q2, q3, (Below.refl _ _).drew⟩ | (go_split_ands; exact ⟨cell_kept (by assumption) (by assumption), cell_kept (by assumption) (by assumption), cell_kept (by assumption) (by assumption), cell_kept (by assumption) (by assumption), Below.trans (by assumption) (Below.mono (by assumption) (Below.size (by assumption)))⟩))
              (first
                | (go_at_call 7; refine (TG.out _ ?_).mono ?_; (go_split_ands; exact (s9.below (by assumption)).lt); rintro e wa ⟨ga, rfl, oa, ba⟩)
                | (go_at_call 9; refine (EG.out _ _ _ _ _ ?_ ?_).mono ?_; (go_split_ands; exact (j9.below (by assumption)).lt); exact RdE.of_own (by assumption); rintro e wa ⟨rfl, ba⟩))
            go_wp2_with fail
            go_meet
            exact ⟨rfl, by go_split_ands; assumption⟩
          case rest =>
            obtain ⟨rfl, C2⟩ := hcut
            go_wp2
            go_ret
            exact ⟨rfl, B9.trans (C2.mono B9.size)⟩
    · go_enter Try.func4, Try.ntmps4
      go_wp2_with fail
      rw [← HW.out]
      refine (szFrame_fit k A es.length c 1048576 _ hL (Nat.le_refl _)).mono ?_
      rintro e w1 ⟨rfl, b1⟩
      have J1 := J0.kept b1
      have B1 := B0.trans (b1.mono B0.size)
      have q2 := (J1.cell 0).trans (rfl : _ = some (Value.int .i64 k'))
      have q3 := (J1.cell 1).trans (rfl : _ = some (Value.slice A' fs.length c'))
      go_wp2_with fail
      refine (szFrame_not k' A' fs.length c' (1048576 - es.length) _ (by omega) (by omega) hn').mono ?_
      rintro e w2 ⟨rfl, b2⟩
      go_wp2
      go_ret
      exact ⟨rfl, B1.trans (b2.mono B1.size)⟩
  · go_enter Try.func4, Try.ntmps4
    go_wp2_with fail
    rw [← HW.out]
    refine (szFrame_not k A es.length c 1048576 _ (by omega) (Nat.le_refl _) hn).mono ?_
    rintro e w1 ⟨rfl, b1⟩
    go_wp2
    go_ret
    exact ⟨rfl, B0.trans (b1.mono B0.size)⟩
end Go.Proofs.Ytkeifkdaddmkfaa
