/- The walk of the exact law of EventText. -/
import Derived.Test.YtmdaianbhpppfaaDoorEvTx
namespace Go.Proofs.YtmdaianbhpppfaaDoor
open Go.RowKit

theorem FnExactEventText_walk (e : Ev) (w : World) (hT : Tb w) :
    Calls Tryd.prog 4 #[evV e.k e.a e.v] w fun r w' => r = .returned (.bool true) ∧ Below w.heap.size w w' := by
  have SP := hide (EventText_spec e)
  have IM := hide (EventText_any e)
  obtain ⟨k, a, v⟩ := e
  simp only at SP IM ⊢
  obtain ⟨F, hF⟩ : ∃ F, F = evF ⟨k, a, v⟩ := ⟨_, rfl⟩
  obtain ⟨L, hL⟩ : ∃ L, L = etL ⟨k, a, v⟩ := ⟨_, rfl⟩
  rw [← hF, ← hL] at SP IM
  clear hF hL
  go_enter Tryd.func4, Tryd.ntmps4
  go_wp2_with fail
  refine (toEvent_any k a v _).mono ?_
  rintro e w1 ⟨rfl, b1⟩
  have B1 := below_alloc b1
  obtain ⟨hc1, hf1⟩ := bcell b1
  have z1 : w.heap.size < w1.heap.size := by have := b1.size; simp at this; omega
  go_wp2_with fail
  refine (SP.out _).mono ?_
  rintro e w2 ⟨rfl, b2⟩
  have B2 := B1.trans (b2.mono B1.size)
  obtain ⟨hc2, hf2⟩ := bcell b2
  have z2 : w.heap.size < w2.heap.size := by have := b2.size; omega
  go_wp2_with fail
  refine (toEvent_any k a v _).mono ?_
  rintro e w3 ⟨rfl, b3⟩
  have k3 := (Bk.new w2 #[.int .i64 F, .string (strOfNums L)] 23).kept b3
  have B3 := (B2.alloc B2.size (.cells #[.int .i64 F, .string (strOfNums L)] 23)).trans (b3.mono (by simp; omega))
  have T3 := hT.on B3
  go_wp2_with fail
  refine (IM.out _ T3).mono ?_
  rintro e w4 ⟨rfl, b4⟩
  have k4 := k3.kept b4
  have B4 := B3.trans (b4.mono B3.size)
  have c0 := (k4.cell 0).trans (rfl : _ = some (Value.int .i64 F))
  have c1 := (k4.cell 1).trans (rfl : _ = some (Value.string (strOfNums L)))
  have kl := k4.lt
  go_wp2_with fail
  refine (eqTextResult_same _ _ _).mono ?_
  rintro e w5 ⟨rfl, b5⟩
  have B5 := (B4.alloc B4.size _).trans (b5.mono (by simp; have := B4.size; omega))
  go_wp2
  go_ret
  exact ⟨rfl, B5⟩
end Go.Proofs.YtmdaianbhpppfaaDoor
