/- The model's PackSteps. -/
import Derived.Test.YtjdbakebcdkfcaaPackS
namespace Go.Proofs.Ytjdbakebcdkfcaa
open Go.RowKit

set_option maxHeartbeats 400000 in
theorem specPack_any (es : List Ev) (A : Option Addr) (c : Nat) (w : World) (hm : es.length ≤ maxLen) (h : RdE w w.heap.size A es) :
    Calls Try.prog 21 #[.slice A es.length c] w fun e w' => ∃ A c, e = .returned (.agg #[.int .i64 (pkC es), .slice A (pkB es).length c]) ∧ w'.ownsRow w.heap.size 5 1 (.slice A (pkB es).length c) (pkB es).length ((pkB es).map (Value.int .u8)) ∧ Below w.heap.size w w' := by
  obtain ⟨W, hW⟩ : ∃ W, W = w.alloc (Obj.cells #[Value.int .i64 0, .slice none 0 0] 27) := ⟨_, rfl⟩
  have HW := hide hW
  have hR : RdE W W.heap.size A es := by subst hW; exact (h.alloc (Nat.le_refl _) _).lt
  clear hW
  have SF := hide (specStF_any es A c W hm hR)
  by_cases hs : stF es = 0
  · have hC : pkC es = 0 := hs
    rw [hC, pk_ok hs]
    rw [hs] at SF
    have LP := hide (fun W h => l2Pack_any es A c W hs h)
    clear hs hC
    go_enter Try.func21, Try.ntmps21
    go_wp2_with fail
    rw [← HW.out]
    refine SF.out.mono ?_
    rintro e w1 ⟨rfl, b1⟩
    go_wp2_with fail
    refine (LP.out w1 (hR.below b1).lt).mono ?_
    rintro e w2 ⟨A2, c2, rfl, o2, b2⟩
    have hb := b1.trans (b2.mono b1.size)
    have q0 := W_cell HW.out hb 0
    have q1 := W_cell HW.out hb 1
    have f0 := W_frozen HW.out hb 0
    have f1 := W_frozen HW.out hb 1
    simp at q0 q1
    have o3 := own_mono o2 b1.size
    clear o2 b2
    go_wp2
    refine bodyPost_ret (v := .agg #[.int .i64 0, .slice A2 (packL 0 es).length c2]) (by simp [results, Try.results21, go_sem, q0, q1]) rfl ?_
    exact ⟨A2, c2, rfl, W_own HW.out (W_set HW.out (W_set HW.out o3 _ _) _ _), ((W_below HW.out hb).setCell (Nat.le_refl _) _).setCell (Nat.le_refl _) _⟩
  · obtain ⟨F, hF⟩ : ∃ F, F = stF es := ⟨_, rfl⟩
    rw [show pkC es = F from hF.symm, pk_bad hs]
    rw [← hF] at SF hs
    have g0 : (F != 0) = true := bne_iff_ne.2 hs
    have g1 : (F == 0) = false := beq_eq_false_iff_ne.2 hs
    clear hs hF
    go_enter Try.func21, Try.ntmps21
    go_wp2_with fail
    rw [← HW.out]
    refine SF.out.mono ?_
    rintro e w1 ⟨rfl, hb⟩
    have q0 := W_cell HW.out hb 0
    have q1 := W_cell HW.out hb 1
    have f0 := W_frozen HW.out hb 0
    have f1 := W_frozen HW.out hb 1
    simp at q0 q1
    go_wp2
    refine bodyPost_ret (v := .agg #[.int .i64 F, .slice none 0 0]) (by simp [results, Try.results21, go_sem, q0, q1]) rfl ?_
    exact ⟨none, 0, rfl, World.ownsRow_nil _ _ _ _, ((W_below HW.out hb).setCell (Nat.le_refl _) _).setCell (Nat.le_refl _) _⟩
end Go.Proofs.Ytjdbakebcdkfcaa
