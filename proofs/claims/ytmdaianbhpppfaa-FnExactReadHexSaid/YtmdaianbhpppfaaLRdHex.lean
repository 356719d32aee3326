/- The walks of the exact laws of ReadHex and NumberOf. -/
import Derived.Test.YtmdaianbhpppfaaRdHex
namespace Go.Proofs.Ytmdaianbhpppfaa
open Go.RowKit

theorem FnExactReadHex_walk (l : List Int) (w : World) (b8 : B8 l) (hl : l.length ≤ maxLen) :
    Calls Try.prog 3 #[.string (strOfNums l)] w fun e w' => e = .returned (.bool true) ∧ Below w.heap.size w w' := by
  have hS := fun w => ReadHex_spec l w b8 hl
  have hI := fun w => ReadHex_any l w b8 hl
  have z0 := strOfNums_size l
  unfold maxLen at hl
  generalize inC (hexV l) = C at hS hI
  generalize inV (hexV l) = V at hS hI
  go_enter Try.func3, Try.ntmps3
  by_cases hbig : (1048576 : Int) < l.length
  · go_wp2
    go_ret
    exact ⟨rfl, Below.refl _ _⟩
  · go_wp2_with fail
    refine (hS _).mono ?_
    rintro e w1 ⟨rfl, hb1⟩
    go_wp2_with fail
    refine (hI _).mono ?_
    rintro e w2 ⟨rfl, hb2⟩
    obtain ⟨hc2, hf2⟩ := bcell hb2
    have hz2 : w1.heap.size < w2.heap.size := by have := hb2.size; simp at this; omega
    have hB2 : Below w.heap.size w w2 := (hb1.alloc hb1.size _).trans (hb2.mono (by simp; have := hb1.size; omega))
    have s2 := hB2.size
    clear hb1 hb2
    go_wp2_with fail
    refine (eqIntResult_same _ _ _).mono ?_
    rintro e w3 ⟨rfl, hb3⟩
    have hB3 : Below w.heap.size w w3 := (hB2.alloc s2 _).trans (hb3.mono (by simp; omega))
    go_wp2
    go_ret
    exact ⟨rfl, hB3⟩
theorem FnExactNumberOf_walk (l : List Int) (w : World) (b8 : B8 l) (hl : l.length ≤ maxLen) :
    Calls Try.prog 4 #[.string (strOfNums l)] w fun e w' => e = .returned (.bool true) ∧ Below w.heap.size w w' := by
  have hS := fun w => NumberOf_spec l w b8 hl
  have hI := fun w => NumberOf_any l w b8 hl
  have z0 := strOfNums_size l
  unfold maxLen at hl
  generalize inC (numL 10 6 l) = C at hS hI
  generalize inV (numL 10 6 l) = V at hS hI
  go_enter Try.func4, Try.ntmps4
  by_cases hbig : (1048576 : Int) < l.length
  · go_wp2
    go_ret
    exact ⟨rfl, Below.refl _ _⟩
  · go_wp2_with fail
    refine (hS _).mono ?_
    rintro e w1 ⟨rfl, hb1⟩
    go_wp2_with fail
    refine (hI _).mono ?_
    rintro e w2 ⟨rfl, hb2⟩
    obtain ⟨hc2, hf2⟩ := bcell hb2
    have hz2 : w1.heap.size < w2.heap.size := by have := hb2.size; simp at this; omega
    have hB2 : Below w.heap.size w w2 := (hb1.alloc hb1.size _).trans (hb2.mono (by simp; have := hb1.size; omega))
    have s2 := hB2.size
    clear hb1 hb2
    go_wp2_with fail
    refine (eqIntResult_same _ _ _).mono ?_
    rintro e w3 ⟨rfl, hb3⟩
    have hB3 : Below w.heap.size w w3 := (hB2.alloc s2 _).trans (hb3.mono (by simp; omega))
    go_wp2
    go_ret
    exact ⟨rfl, hB3⟩
end Go.Proofs.Ytmdaianbhpppfaa
