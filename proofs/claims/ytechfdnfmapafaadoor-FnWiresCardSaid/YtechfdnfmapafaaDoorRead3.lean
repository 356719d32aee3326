/- The model's ReadVar. -/
import Derived.Test.YtechfdnfmapafaaDoorRead2
namespace Go.Proofs.YtechfdnfmapafaaDoor
open Go.RowKit

theorem specRead_any (l : List Int) (A : Option Addr) (c : Nat) (w : World) (hm : l.length ≤ 1048576) (hcap : l.length ≤ c) (hR : Rd .u8 w w.heap.size A l) (b8 : B8 l) :
    Calls Tryd.prog 19 #[.slice A l.length c] w fun e w' => e = .returned (.agg #[.int .i64 (rdC l), .int .i64 (rdV l), .int .i64 (rdZ l)]) ∧ Below w.heap.size w w' := by
  obtain ⟨W, hW⟩ : ∃ W, W = w.alloc (Obj.cells #[Value.int .i64 0, .int .i64 0, .int .i64 0] 30) := ⟨_, rfl⟩
  have HW := hide hW
  have hR' : Rd .u8 W W.heap.size A l := by subst hW; exact (hR.alloc (Nat.le_refl _) _).lt
  clear hW
  by_cases hg : rdGood l
  · have hz : (rdZ l == 0) = false := by rw [(rd_good hg).2.2]; simp; omega
    have hC : rdC l = 0 := (rd_good hg).1
    rw [hC]
    clear hg hC
    go_enter Tryd.func19, Tryd.ntmps19
    go_wp2_with fail
    rw [← HW.out]
    refine (l1Read_any l A c W hm hcap hR' b8).mono ?_
    rintro e w1 ⟨rfl, hb⟩
    have q0 := W_cell HW.out hb 0
    have q1 := W_cell HW.out hb 1
    have q2 := W_cell HW.out hb 2
    have f0 := W_frozen HW.out hb 0
    have f1 := W_frozen HW.out hb 1
    have f2 := W_frozen HW.out hb 2
    simp at q0 q1 q2
    go_wp2
    refine bodyPost_ret (v := .agg #[.int .i64 0, .int .i64 (rdV l), .int .i64 (rdZ l)]) (by simp [results, Tryd.results19, go_sem, q0, q1, q2]) rfl ?_
    exact ⟨rfl, (((W_below HW.out hb).setCell (Nat.le_refl _) _).setCell (Nat.le_refl _) _).setCell (Nat.le_refl _) _⟩
  · have R := rd_bad hg
    have hz : (rdZ l == 0) = true := by rw [R.2.2]; rfl
    rw [R.1, R.2.1]
    have HZ := hide R.2.2
    clear hg R
    go_enter Tryd.func19, Tryd.ntmps19
    go_wp2_with fail
    rw [← HW.out]
    refine (l1Read_any l A c W hm hcap hR' b8).mono ?_
    rintro e w1 ⟨rfl, hb⟩
    have q0 := W_cell HW.out hb 0
    have q1 := W_cell HW.out hb 1
    have q2 := W_cell HW.out hb 2
    have f0 := W_frozen HW.out hb 0
    have f1 := W_frozen HW.out hb 1
    have f2 := W_frozen HW.out hb 2
    simp at q0 q1 q2
    go_wp2
    refine bodyPost_ret (v := .agg #[.int .i64 5, .int .i64 0, .int .i64 0]) (by simp [results, Tryd.results19, go_sem, q0, q1, q2]) rfl ?_
    rw [HZ.out]
    exact ⟨rfl, (((W_below HW.out hb).setCell (Nat.le_refl _) _).setCell (Nat.le_refl _) _).setCell (Nat.le_refl _) _⟩
end Go.Proofs.YtechfdnfmapafaaDoor
