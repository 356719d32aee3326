/- The walk of the exact law of HexOf. -/
import Derived.Test.YtmdaianbhpppfaaDoorHex
namespace Go.Proofs.YtmdaianbhpppfaaDoor
open Go.RowKit

theorem FnExactHexOf_walk (n : Int) (w : World) (hT : Db w) :
    Calls Tryd.prog 3 #[.int .i64 n] w fun e w' => e = .returned (.bool true) ∧ Below w.heap.size w w' := by
  have hS := fun w => HexOf_spec n w
  have hI := fun w h => HexOf_any n w h
  generalize hxC n = C at hS hI
  generalize hxL n = L at hS hI
  go_enter Tryd.func3, Tryd.ntmps3
  go_wp2_with fail
  refine (hS _).mono ?_
  rintro e w1 ⟨rfl, hb1⟩
  go_wp2_with fail
  refine (hI _ ((hT.on hb1).on ((Below.refl _ _).alloc (Nat.le_refl _) _))).mono ?_
  rintro e w2 ⟨rfl, hb2⟩
  obtain ⟨hc2, hf2⟩ := bcell hb2
  have hz2 : w1.heap.size < w2.heap.size := by have := hb2.size; simp at this; omega
  have hB2 : Below w.heap.size w w2 := (hb1.alloc hb1.size _).trans (hb2.mono (by simp; have := hb1.size; omega))
  have s2 := hB2.size
  clear hb1 hb2
  go_wp2_with fail
  refine (eqTextResult_same _ _ _).mono ?_
  rintro e w3 ⟨rfl, hb3⟩
  have hB3 : Below w.heap.size w w3 := (hB2.alloc s2 _).trans (hb3.mono (by simp; omega))
  go_wp2
  go_ret
  exact ⟨rfl, hB3⟩
end Go.Proofs.YtmdaianbhpppfaaDoor
