/- The walk of the exact law of FrameFault. -/
import Derived.Test.YtkeifkdaddmkfaaFrF
import Derived.Deep.RegionHeld3
import Derived.Deep.DeepCutAuto
namespace Go.Proofs.Ytkeifkdaddmkfaa
open Go.RowKit

set_option maxRecDepth 100000 in
set_option maxHeartbeats 1600000 in
theorem FnExactFrameFault_walk (k : Int) (es : List Ev) (A : Option Addr) (c : Nat) (w : World) (hl : es.length ≤ c) (hc : c ≤ maxLen) (h : RdE w w.heap.size A es) :
    Calls Try.prog 3 #[frV k A es.length c] w fun e w' => e = .returned (.bool true) ∧ Below w.heap.size w w' := by
  have hn : es.length ≤ maxLen := by omega
  unfold maxLen at hc
  obtain ⟨W, hW⟩ : ∃ W, W = w.alloc (Obj.cells #[Value.int .i64 k, .slice A es.length c] 24) := ⟨_, rfl⟩
  have HW := hide hW
  have K0 : Bk W w.heap.size #[Value.int .i64 k, .slice A es.length c] 24 := by rw [hW]; exact Bk.new _ _ _
  have B0 : Below w.heap.size w W := by rw [hW]; exact (Below.refl _ _).alloc (Nat.le_refl _) _
  clear hW
  have hR := (h.below B0).lt
  by_cases hL : es.length ≤ 1048576
  · obtain ⟨F, hF⟩ : ∃ F, F = frF k es := ⟨_, rfl⟩
    have SP := hide (fun A c w => specFrF_any k es A c w hn)
    have IM := hide (fun A c w => implFrF_any k es A c w hn)
    rw [← hF] at SP IM
    clear hF h
    go_enter Try.func3, Try.ntmps3
    go_wp2_with fail
    rw [← HW.out]
    refine (szFrame_fit k A es.length c 1048576 _ hL (Nat.le_refl _)).mono ?_
    rintro e w1 ⟨rfl, b1⟩
    have K1 := K0.kept b1
    have r1 := (hR.below b1).lt
    have B1 := B0.trans (b1.mono B0.size)
    clear b1 B0 K0 hR
    have q0 := (K1.cell 0).trans (rfl : _ = some (Value.int .i64 k))
    have q1 := (K1.cell 1).trans (rfl : _ = some (Value.slice A es.length c))
    go_wp2_with fail
    refine (toFrame_any k es A c _ hL r1).mono ?_
    rintro e w2 ⟨g2, rfl, o2, b2⟩
    have K2 := K1.kept b2
    have r2 := (r1.below b2).lt
    have B2 := B1.trans (b2.mono B1.size)
    clear b2 B1 K1 r1 q0 q1
    go_wp2_with fail
    refine (SP.out _ _ _ (RdE.of_own o2)).mono ?_
    rintro e w3 ⟨rfl, b3⟩
    have K3 := K2.kept b3
    have r3 := (r2.below b3).lt
    have B3 := B2.trans (b3.mono B2.size)
    clear b3 B2 K2 r2 o2
    have q0 := (K3.cell 0).trans (rfl : _ = some (Value.int .i64 k))
    have q1 := (K3.cell 1).trans (rfl : _ = some (Value.slice A es.length c))
    go_wp2_with fail
    refine (toFrame_any k es A c _ hL r3).mono ?_
    rintro e w4 ⟨g4, rfl, o4, b4⟩
    have k4 := RdE.of_own o4
    have K4 := K3.kept b4
    have r4 := (r3.below b4).lt
    have B4 := B3.trans (b4.mono B3.size)
    clear b4 B3 K3 r3 o4 q0 q1
    have x5 := Bk.new w4 #[Value.int .i64 k, .slice (some ⟨g4, 0, none⟩) es.length es.length] 29
    go_wp2_with fail
    have e5 := (Below.refl w4.heap.size w4).alloc (Nat.le_refl _) (Obj.cells #[Value.int .i64 k, .slice (some ⟨g4, 0, none⟩) es.length es.length] 29)
    refine (IM.out _ _ _ (k4.below e5).lt).mono ?_
    rintro e w6 ⟨rfl, b6⟩
    have e6 := e5.trans (b6.mono e5.size)
    have x6 := x5.kept b6
    have k6 := (k4.below e6).lt
    have K6 := K4.kept e6
    have r6 := (r4.below e6).lt
    have B6 := B4.trans (e6.mono B4.size)
    clear e5 e6 b6 x5 k4 K4 r4 B4
    go_wp2_with fail
    have q0 := (K6.cell 0).trans (rfl : _ = some (Value.int .i64 k))
    have q1 := (K6.cell 1).trans (rfl : _ = some (Value.slice A es.length c))
    have q2 := (x6.cell 0).trans (rfl : _ = some (Value.int .i64 k))
    have q3 := (x6.cell 1).trans (rfl : _ = some (Value.slice (some ⟨g4, 0, none⟩) es.length es.length))
    have TF := hide (fun W hW => toFrame_any k es A c W hL hW)
    have EF := hide (fun A A' c c' W hW hW' => eqFrame_same k es A A' c c' W hn hW hW')
    go_cut [26] (fun s wx => s = .bool false ∧ Below w.heap.size w wx)
    case first =>
      go_region_held3 (fun w' => w'.cell? ⟨w.heap.size, 0, none⟩ = some (.int .i64 k) ∧ w'.cell? ⟨w.heap.size, 1, none⟩ = some (.slice A es.length c) ∧ w'.cell? ⟨w4.heap.size, 0, none⟩ = some (.int .i64 k) ∧ w'.cell? ⟨w4.heap.size, 1, none⟩ = some (.slice (some ⟨g4, 0, none⟩) es.length es.length) ∧ Below w6.heap.size w6 w')
        (first | assumption | exact ⟨q0, q1, q2, q3, (Below.refl _ _).drew⟩ | (go_split_ands; exact ⟨cell_kept (by assumption) (by assumption), cell_kept (by assumption) (by assumption), cell_kept (by assumption) (by assumption), cell_kept (by assumption) (by assumption), Below.trans (by assumption) (Below.mono (by assumption) (Below.size (by assumption)))⟩))
        (first
          | (go_at_call 7; refine (TF.out _ ?_).mono ?_; (go_split_ands; exact (r6.below (by assumption)).lt); rintro e wa ⟨ga, rfl, oa, ba⟩)
          | (go_at_call 9; refine (EF.out _ _ _ _ _ ?_ ?_).mono ?_; (go_split_ands; exact (k6.below (by assumption)).lt); exact RdE.of_own (by assumption); rintro e wa ⟨rfl, ba⟩))
      go_wp2_with fail
      go_meet
      exact ⟨rfl, by go_split_ands; exact B6.trans (Below.mono (by assumption) B6.size)⟩
    case rest =>
      obtain ⟨rfl, C1⟩ := hcut
      go_wp2
      go_ret
      exact ⟨rfl, C1⟩
  · go_enter Try.func3, Try.ntmps3
    go_wp2_with fail
    rw [← HW.out]
    refine (szFrame_not k A es.length c 1048576 _ (by omega) (Nat.le_refl _) hn).mono ?_
    rintro e w1 ⟨rfl, b1⟩
    go_wp2
    go_ret
    exact ⟨rfl, B0.trans (b1.mono B0.size)⟩
end Go.Proofs.Ytkeifkdaddmkfaa
