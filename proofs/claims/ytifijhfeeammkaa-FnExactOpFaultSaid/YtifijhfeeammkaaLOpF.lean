/- The walk of the exact law of OpFault. -/
import Derived.Test.YtifijhfeeammkaaOpI
import Derived.Test.YtifijhfeeammkaaOpS
namespace Go.Proofs.Ytifijhfeeammkaa
open Go.RowKit

theorem FnExactOpFault_walk (k a v : Int) (w : World) :
    Calls Try.prog 5 #[evV k a v] w fun e w' => e = .returned (.bool true) ∧ Below w.heap.size w w' := by
  obtain ⟨F, hF⟩ : ∃ F, F = opF ⟨k, a, v⟩ := ⟨_, rfl⟩
  have SP := hide (specOpF_any k a v)
  have IM := hide (implOpF_any k a v)
  rw [← hF] at SP IM
  clear hF
  go_enter Try.func5, Try.ntmps5
  go_wp2_with fail
  refine (toOp_any k a v _).mono ?_
  rintro e w1 ⟨rfl, b1⟩
  have B1 := below_alloc b1
  obtain ⟨hc1, hf1⟩ := bcell b1
  have z1 : w.heap.size < w1.heap.size := by have := b1.size; simp at this; omega
  go_wp2_with fail
  refine (SP.out _).mono ?_
  rintro e w2 ⟨rfl, b2⟩
  have B2 := B1.trans (b2.mono B1.size)
  obtain ⟨hc2, hf2⟩ := bcell b2
  have z2 : w.heap.size < w2.heap.size := by have := b2.size; omega
  go_wp2_with fail
  refine (toOp_any k a v _).mono ?_
  rintro e w3 ⟨rfl, b3⟩
  have B3 := B2.trans (b3.mono B2.size)
  go_wp2_with fail
  refine (IM.out _).mono ?_
  rintro e w4 ⟨rfl, b4⟩
  have B4 := B3.trans (b4.mono B3.size)
  go_wp2
  go_ret
  exact ⟨rfl, B4⟩
end Go.Proofs.Ytifijhfeeammkaa
