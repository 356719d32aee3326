/- What is read of a text is little. -/
import Derived.Test.YtmdaianbhpppfaaGreatDoorGTxB
import Derived.Test.YtmdaianbhpppfaaGreatDoorGPs
namespace Go.Proofs.YtmdaianbhpppfaaGreatDoor
open Go.RowKit

theorem psT_few (l : List Int) : (psT l).length ≤ 4 ∧ ∀ x ∈ psT l, x.length ≤ 8 := by
  unfold psT
  by_cases h : psC l = 0
  · rw [if_pos h]
    unfold psC at h
    by_cases h2 : l.length ≤ 2000
    · rw [if_pos h2] at h
      by_cases h3 : trF (parL l) = 0 ∧ prL (parL l) = l
      · obtain ⟨_, h4, hall⟩ := trT_zero h3.1
        exact ⟨h4, fun x hx => stF_8 (hall x hx)⟩
      · rw [if_neg h3] at h; cases h
    · rw [if_neg h2] at h; cases h
  · rw [if_neg h]; exact ⟨by simp, fun x hx => by simp at hx⟩
theorem sumT_le8 : ∀ {t : List (List Ev)}, (∀ l ∈ t, l.length ≤ 8) → sumT t ≤ 8 * t.length
  | [], _ => by simp [sumT]
  | l :: r, h => by
    have h1 := sumT_le8 fun x hx => h x (List.mem_cons_of_mem l hx)
    have := h l (List.mem_cons_self ..)
    simp only [sumT, List.length_cons]
    omega

end Go.Proofs.YtmdaianbhpppfaaGreatDoor
