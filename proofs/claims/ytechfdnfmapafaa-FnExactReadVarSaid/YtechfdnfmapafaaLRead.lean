/- The model's ReadVar, the comparison of two answers, and the walk of the exact law of ReadVar. -/
import Derived.Test.YtechfdnfmapafaaRead2
namespace Go.Proofs.Ytechfdnfmapafaa
open Go.RowKit

theorem specRead_any (l : List Int) (A : Option Addr) (c : Nat) (w : World) (hm : l.length ≤ 1048576) (hcap : l.length ≤ c) (hR : Rd .u8 w w.heap.size A l) (b8 : B8 l) :
    Calls Try.prog 13 #[.slice A l.length c] w fun e w' => e = .returned (.agg #[.int .i64 (rdC l), .int .i64 (rdV l), .int .i64 (rdZ l)]) ∧ Below w.heap.size w w' := by
  obtain ⟨W, hW⟩ : ∃ W, W = w.alloc (Obj.cells #[Value.int .i64 0, .int .i64 0, .int .i64 0] 30) := ⟨_, rfl⟩
  have HW := hide hW
  have hR' : Rd .u8 W W.heap.size A l := by subst hW; exact (hR.alloc (Nat.le_refl _) _).lt
  clear hW
  by_cases hg : rdGood l
  · have hz : (rdZ l == 0) = false := by rw [(rd_good hg).2.2]; simp; omega
    have hC : rdC l = 0 := (rd_good hg).1
    rw [hC]
    clear hg hC
    go_enter Try.func13, Try.ntmps13
    go_wp2_with fail
    rw [← HW.out]
    refine (l1Read_any l A c W hm hcap hR' b8).mono ?_
    rintro e w1 ⟨rfl, hb⟩
    have q0 := W_cell HW.out hb 0
    have q1 := W_cell HW.out hb 1
    have q2 := W_cell HW.out hb 2
    have f0 := W_frozen HW.out hb 0
    have f1 := W_frozen HW.out hb 1
    have f2 := W_frozen HW.out hb 2
    simp at q0 q1 q2
    go_wp2
    refine bodyPost_ret (v := .agg #[.int .i64 0, .int .i64 (rdV l), .int .i64 (rdZ l)]) (by simp [results, Try.results13, go_sem, q0, q1, q2]) rfl ?_
    exact ⟨rfl, (((W_below HW.out hb).setCell (Nat.le_refl _) _).setCell (Nat.le_refl _) _).setCell (Nat.le_refl _) _⟩
  · have R := rd_bad hg
    have hz : (rdZ l == 0) = true := by rw [R.2.2]; rfl
    rw [R.1, R.2.1]
    have HZ := hide R.2.2
    clear hg R
    go_enter Try.func13, Try.ntmps13
    go_wp2_with fail
    rw [← HW.out]
    refine (l1Read_any l A c W hm hcap hR' b8).mono ?_
    rintro e w1 ⟨rfl, hb⟩
    have q0 := W_cell HW.out hb 0
    have q1 := W_cell HW.out hb 1
    have q2 := W_cell HW.out hb 2
    have f0 := W_frozen HW.out hb 0
    have f1 := W_frozen HW.out hb 1
    have f2 := W_frozen HW.out hb 2
    simp at q0 q1 q2
    go_wp2
    refine bodyPost_ret (v := .agg #[.int .i64 5, .int .i64 0, .int .i64 0]) (by simp [results, Try.results13, go_sem, q0, q1, q2]) rfl ?_
    rw [HZ.out]
    exact ⟨rfl, (((W_below HW.out hb).setCell (Nat.le_refl _) _).setCell (Nat.le_refl _) _).setCell (Nat.le_refl _) _⟩

theorem eqReadResult_same (a b c : Int) (w : World) :
    Calls Try.prog 16 #[.agg #[.int .i64 a, .int .i64 b, .int .i64 c], .agg #[.int .i64 a, .int .i64 b, .int .i64 c]] w fun e w' => e = .returned (.bool true) ∧ Below w.heap.size w w' := by
  go_enter Try.func16, Try.ntmps16
  go_wp2
  go_returns
  exact ⟨rfl, by go_grown⟩

set_option maxHeartbeats 400000 in
theorem FnExactReadVar_walk (l : List Int) (A : Option Addr) (c : Nat) (w : World) (hl : l.length ≤ maxLen) (h : Rd .u8 w w.heap.size A l) (b : B8 l) :
    Calls Try.prog 4 #[.slice A l.length c] w fun e w' => e = .returned (.bool true) ∧ Below w.heap.size w w' := by
  unfold maxLen at hl
  by_cases hL : l.length ≤ 1048576
  · obtain ⟨C, hC⟩ : ∃ C, C = rdC l := ⟨_, rfl⟩
    obtain ⟨V, hV⟩ : ∃ V, V = rdV l := ⟨_, rfl⟩
    obtain ⟨Z, hZ⟩ : ∃ Z, Z = rdZ l := ⟨_, rfl⟩
    have SP := hide (fun A c w => specRead_any l A c w hL)
    have IM := hide (fun A c w => implRead_any l A c w hL)
    rw [← hC, ← hV, ← hZ] at SP IM
    clear hC hV hZ
    go_enter Try.func4, Try.ntmps4
    go_wp2_with fail
    refine (toByteS_any l A c _ hL h).mono ?_
    rintro e w1 ⟨g1, rfl, o1, B1⟩
    go_wp2_with fail
    refine (SP.out _ _ _ (Nat.le_refl _) (Rd.of_own o1) b).mono ?_
    rintro e w2 ⟨rfl, b2⟩
    have B2 := B1.trans (b2.mono B1.size)
    clear b2 o1 B1
    go_wp2_with fail
    have B2' := B2.alloc B2.size (.cells #[.int .i64 C, .int .i64 V, .int .i64 Z] 30)
    have k2 := Bk.new w2 #[.int .i64 C, .int .i64 V, .int .i64 Z] 30
    refine (toByteS_any l A c _ hL (h.below B2').lt).mono ?_
    rintro e w3 ⟨g3, rfl, o3, b3⟩
    have k3 := k2.kept b3
    have B3 := B2'.trans (b3.mono B2'.size)
    have r3 := Rd.of_own (k := .u8) o3
    clear b3 o3 k2 B2' B2
    go_wp2_with fail
    refine (IM.out _ _ _ (Nat.le_refl _) r3 b).mono ?_
    rintro e w4 ⟨rfl, b4⟩
    have k4 := k3.kept b4
    have B4 := B3.trans (b4.mono B3.size)
    have r4 := (r3.below b4).lt
    have z4 : w2.heap.size < w4.heap.size := k4.lt
    clear b4 k3 r3 B3
    have q4 := k4.cell
    go_wp2_with fail
    refine (eqReadResult_same _ _ _ _).mono ?_
    rintro e w5 ⟨rfl, b5⟩
    have B5 := B4.trans ((below_alloc b5).mono B4.size)
    have r5 := (r4.below (below_alloc b5)).lt
    clear b5 r4 B4 q4 k4
    go_wp2_with fail
    refine (toByteS_any l A c _ hL (h.below B5).lt).mono ?_
    rintro e w6 ⟨g6, rfl, o6, b6⟩
    have B6 := B5.trans (b6.mono B5.size)
    have r6 := (r5.below b6).lt
    have s6 := Rd.of_own (k := .u8) o6
    clear b6 r5 o6 B5
    go_wp2_with fail
    refine (eqByteS_same l _ _ _ _ _ (by unfold maxLen; omega) r6 s6).mono ?_
    rintro e w7 ⟨rfl, b7⟩
    have B7 := B6.trans (b7.mono B6.size)
    go_wp2
    go_ret
    exact ⟨rfl, B7⟩
  · go_enter Try.func4, Try.ntmps4
    go_wp2
    go_ret
    exact ⟨rfl, Below.refl _ _⟩
end Go.Proofs.Ytechfdnfmapafaa
