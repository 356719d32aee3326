/- Contracts of the draws of steps and traces that are the same, or not. -/
import Derived.Test.YtifijhfeeammkaaGDrawT
namespace Go.Proofs.Ytifijhfeeammkaa
open Go.RowKit

def Two (w : World) (e : Ending) (w' : World) : Prop := ∃ (a b : List Ev) (D D' : Option Addr) (d d' : Nat), e = .returned (.tuple #[.slice D a.length d, .slice D' b.length d']) ∧ a.length ≤ 20 ∧ b.length ≤ 20 ∧ RdE w' w'.heap.size D a ∧ RdE w' w'.heap.size D' b ∧ Below w.heap.size w w'
def TwoT (w : World) (e : Ending) (w' : World) : Prop := ∃ (a b : List (List Ev)) (D D' : Option Addr) (d d' : Nat), e = .returned (.tuple #[.slice D a.length d, .slice D' b.length d']) ∧ a.length ≤ 5 ∧ b.length ≤ 5 ∧ (∀ x ∈ a, x.length ≤ 20) ∧ (∀ x ∈ b, x.length ≤ 20) ∧ RdT w' w'.heap.size D a ∧ RdT w' w'.heap.size D' b ∧ Below w.heap.size w w'
theorem evs_set_v (es : List Ev) (i : Nat) (h : i < es.length) (n : Int) : (evs es).set (i * 3 + 2) (.int .i64 n) = evs (es.set i ⟨es[i].k, es[i].a, n⟩) := by
  apply List.ext_getElem?
  intro j
  by_cases hj : j < es.length * 3
  · obtain ⟨q, hq0, hr⟩ : ∃ q, q < es.length ∧ (j = q * 3 ∨ j = q * 3 + 1 ∨ j = q * 3 + 2) := ⟨j / 3, by omega, by omega⟩
    have h1 := evs_get es q hq0
    have h2 := evs_get (es.set i ⟨es[i].k, es[i].a, n⟩) q (by rw [List.length_set]; exact hq0)
    by_cases hqi : q = i
    · subst hqi
      rw [List.getElem_set_self] at h2
      rcases hr with rfl | rfl | rfl
      · rw [List.getElem?_set_ne (by omega), h1.1, h2.1]
      · rw [List.getElem?_set_ne (by omega), h1.2.1, h2.2.1]
      · rw [List.getElem?_set_self (by rw [evs_length]; omega), h2.2.2]
    · rw [List.getElem_set_ne (by omega)] at h2
      rcases hr with rfl | rfl | rfl
      · rw [List.getElem?_set_ne (by omega), h1.1, h2.1]
      · rw [List.getElem?_set_ne (by omega), h1.2.1, h2.2.1]
      · rw [List.getElem?_set_ne (by omega), h1.2.2, h2.2.2]
  · rw [List.getElem?_eq_none (by rw [List.length_set, evs_length]; omega), List.getElem?_eq_none (by rw [evs_length, List.length_set]; omega)]

end Go.Proofs.Ytifijhfeeammkaa
