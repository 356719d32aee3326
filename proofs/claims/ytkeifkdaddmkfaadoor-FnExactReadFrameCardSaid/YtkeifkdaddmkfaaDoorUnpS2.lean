/- The model's UnpackSteps. -/
import Derived.Test.YtkeifkdaddmkfaaDoorUnpS
namespace Go.Proofs.YtkeifkdaddmkfaaDoor
open Go.RowKit

theorem UnPost.none_ {d : List Int} {w : World} {e : Ending} {w' : World} (h : UnPost d w e w') (hu : unpN 8 d 0 = none) : e = .returned (.tuple #[.slice none 0 0, .bool false]) ∧ Below w.heap.size w w' := by
  rcases h with ⟨_, h2, h3⟩ | ⟨es, A, c, h1, _⟩
  · exact ⟨h2, h3⟩
  · rw [hu] at h1; cases h1
theorem UnPost.some_ {d : List Int} {w : World} {e : Ending} {w' : World} {es : List Ev} (h : UnPost d w e w') (hu : unpN 8 d 0 = some es) :
    ∃ A c, e = .returned (.tuple #[.slice A es.length c, .bool true]) ∧ w'.ownsRow w.heap.size 81 3 (.slice A es.length c) es.length (evs es) ∧ Below w.heap.size w w' := by
  rcases h with ⟨h1, _⟩ | ⟨es', A, c, h1, h2, h3, h4⟩
  · rw [hu] at h1; cases h1
  · rw [hu] at h1
    cases h1
    exact ⟨A, c, h2, h3, h4⟩

end Go.Proofs.YtkeifkdaddmkfaaDoor
