/- Contracts of SameSteps, in the program and in its model. Contracts of SameTraces, in the program and in its model. -/
import Derived.Test.YtldepledinolmaaDoorGEv
import Derived.Test.YtldepledinolmaaDoorGBase
namespace Go.Proofs.YtldepledinolmaaDoor
open Go.RowKit

open Classical in
noncomputable def sameE (es fs : List Ev) : Bool := if es = fs then true else false
def SameTo (es fs : List Ev) (k : Nat) : Prop := ∀ i, i < k → es[i]? = fs[i]?
theorem SameTo.zero (es fs : List Ev) : SameTo es fs 0 := fun i hi => by omega
theorem SameTo.step {es fs : List Ev} {k : Nat} (h : SameTo es fs k) (hk : k < es.length) {hk' : k < fs.length} (he : es[k] = fs[k]) : SameTo es fs (k + 1) := fun i hi => by
  by_cases hik : i = k
  · subst hik
    rw [List.getElem?_eq_getElem hk, List.getElem?_eq_getElem hk', he]
  · exact h i (by omega)
theorem sameE_all {es fs : List Ev} (hl : es.length = fs.length) (h : SameTo es fs es.length) : sameE es fs = true := by
  refine if_pos ?_
  apply List.ext_getElem?
  intro i
  by_cases hi : i < es.length
  · exact h i hi
  · rw [List.getElem?_eq_none (by omega), List.getElem?_eq_none (by omega)]
theorem sameE_not {es fs : List Ev} {k : Nat} (hk : k < es.length) {hk' : k < fs.length} (he : ¬ es[k] = fs[k]) : sameE es fs = false := by
  refine if_neg ?_
  intro e
  subst e
  exact he rfl
theorem sameE_len {es fs : List Ev} (h : ¬ es.length = fs.length) : sameE es fs = false := by
  refine if_neg ?_
  intro e
  exact h (by rw [e])
theorem sameE_refl (es : List Ev) : sameE es es = true := if_pos rfl
theorem ev_ne {e f : Ev} (h : ¬ e = f) : ¬ e.k = f.k ∨ (e.k = f.k ∧ ¬ e.a = f.a) ∨ (e.k = f.k ∧ e.a = f.a ∧ ¬ e.v = f.v) := by
  obtain ⟨k, a, v⟩ := e
  obtain ⟨k', a', v'⟩ := f
  by_cases h0 : k = k'
  · by_cases h1 : a = a'
    · by_cases h2 : v = v'
      · exact absurd (by rw [h0, h1, h2]) h
      · exact .inr (.inr ⟨h0, h1, h2⟩)
    · exact .inr (.inl ⟨h0, h1⟩)
  · exact .inl h0

end Go.Proofs.YtldepledinolmaaDoor
namespace Go.Proofs.YtldepledinolmaaDoor
open Go.RowKit

open Classical in
noncomputable def sameT (t u : List (List Ev)) : Bool := if t = u then true else false
def SameToT (t u : List (List Ev)) (k : Nat) : Prop := ∀ i, i < k → t[i]? = u[i]?
theorem SameToT.zero (t u : List (List Ev)) : SameToT t u 0 := fun i hi => by omega
theorem SameToT.step {t u : List (List Ev)} {k : Nat} (h : SameToT t u k) (hk : k < t.length) {hk' : k < u.length} (he : t[k] = u[k]) : SameToT t u (k + 1) := fun i hi => by
  by_cases hik : i = k
  · subst hik
    rw [List.getElem?_eq_getElem hk, List.getElem?_eq_getElem hk', he]
  · exact h i (by omega)
theorem sameT_all {t u : List (List Ev)} (hl : t.length = u.length) (h : SameToT t u t.length) : sameT t u = true := by
  refine if_pos ?_
  apply List.ext_getElem?
  intro i
  by_cases hi : i < t.length
  · exact h i hi
  · rw [List.getElem?_eq_none (by omega), List.getElem?_eq_none (by omega)]
theorem sameT_not {t u : List (List Ev)} {k : Nat} (hk : k < t.length) {hk' : k < u.length} (he : ¬ t[k] = u[k]) : sameT t u = false := by
  refine if_neg ?_
  intro e
  subst e
  exact he rfl
theorem sameT_len {t u : List (List Ev)} (h : ¬ t.length = u.length) : sameT t u = false := by
  refine if_neg ?_
  intro e
  exact h (by rw [e])
theorem sameT_refl (t : List (List Ev)) : sameT t t = true := if_pos rfl

end Go.Proofs.YtldepledinolmaaDoor
