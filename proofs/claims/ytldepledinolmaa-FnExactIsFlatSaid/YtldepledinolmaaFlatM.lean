/- Plain mathematics of flat logs, step by step. -/
import Derived.Test.YtldepledinolmaaGOdm
import Derived.Test.YtldepledinolmaaGMsi
namespace Go.Proofs.Ytldepledinolmaa

open Classical in
noncomputable def flatB (ss : List Stp) (n : Int) : Bool := decide (logF ss n = 0 ∧ flatR ss.reverse)
/-- A step fits behind these (the newest first). -/
def fitR (s : Stp) (r : List Stp) : Prop := s.e.k = 1 ∨ s.e.v = valR s.e.a r
theorem flatR_tail : ∀ (m r : List Stp), flatR (m ++ r) → flatR r
  | [], _, h => h
  | _ :: m, r, h => flatR_tail m r h.2
theorem flat_at {ss : List Stp} {k : Nat} (hk : k < ss.length) (h : flatR ss.reverse) : fitR ss[k] (ss.take k).reverse := by
  have e : ss.reverse = (ss.drop (k + 1)).reverse ++ ss[k] :: (ss.take k).reverse := by
    conv => lhs; rw [← List.take_append_drop k ss, List.drop_eq_getElem_cons hk]
    simp
  rw [e] at h
  exact (flatR_tail _ _ h).1
theorem flat_step {ss : List Stp} {k : Nat} (hk : k < ss.length) (h : flatR (ss.take k).reverse) (hf : fitR ss[k] (ss.take k).reverse) : flatR (ss.take (k + 1)).reverse := by
  rw [List.take_succ_eq_append_getElem hk, List.reverse_append]
  exact ⟨hf, h⟩
theorem val_step {ss : List Stp} {k : Nat} (hk : k < ss.length) (a : Int) : valR a (ss.take (k + 1)).reverse = if ss[k].e.k = 1 ∧ ss[k].e.a = a then ss[k].e.v else valR a (ss.take k).reverse := by
  rw [List.take_succ_eq_append_getElem hk, List.reverse_append]
  rfl
open Classical in
theorem flatB_log {ss : List Stp} {n : Int} (h : ¬ logF ss n = 0) : flatB ss n = false := decide_eq_false fun hh => h hh.1
open Classical in
theorem flatB_no {ss : List Stp} {n : Int} {k : Nat} (hk : k < ss.length) (h : ¬ fitR ss[k] (ss.take k).reverse) : flatB ss n = false := decide_eq_false fun hh => h (flat_at hk hh.2)
open Classical in
theorem flatB_yes {ss : List Stp} {n : Int} (h0 : logF ss n = 0) (h : flatR (ss.take ss.length).reverse) : flatB ss n = true := by
  rw [List.take_length] at h
  exact decide_eq_true ⟨h0, h⟩
open Classical in
theorem flatB_true {ss : List Stp} {n : Int} (h : flatB ss n = true) : logF ss n = 0 ∧ flatR ss.reverse := of_decide_eq_true h
/-- What the model's memory has, the newest first. -/
def memC : List Stp → List Cel
  | [] => []
  | s :: r => if s.e.k = 1 then ⟨s.e.a, s.e.v⟩ :: memC r else memC r
theorem read_memC (a : Int) : ∀ r : List Stp, readM (memC r) a = valR a r
  | [] => rfl
  | s :: r => by
    unfold memC valR
    by_cases hk : s.e.k = 1
    · rw [if_pos hk, readM]
      by_cases ha : s.e.a = a
      · rw [if_pos ha, if_pos ⟨hk, ha⟩]
      · rw [if_neg ha, if_neg (fun h => ha h.2), read_memC a r]
    · rw [if_neg hk, if_neg (fun h => hk h.1), read_memC a r]
theorem memC_len : ∀ r : List Stp, (memC r).length ≤ r.length
  | [] => Nat.le_refl _
  | s :: r => by
    unfold memC
    have := memC_len r
    by_cases hk : s.e.k = 1
    · rw [if_pos hk]; simp only [List.length_cons]; omega
    · rw [if_neg hk]; simp only [List.length_cons]; omega
theorem memC_store {ss : List Stp} {k : Nat} (hk : k < ss.length) (h1 : ss[k].e.k = 1) : memC (ss.take (k + 1)).reverse = ⟨ss[k].e.a, ss[k].e.v⟩ :: memC (ss.take k).reverse := by
  rw [List.take_succ_eq_append_getElem hk, List.reverse_append]
  show memC (ss[k] :: (ss.take k).reverse) = _
  rw [memC, if_pos h1]
theorem memC_load {ss : List Stp} {k : Nat} (hk : k < ss.length) (h1 : ¬ ss[k].e.k = 1) : memC (ss.take (k + 1)).reverse = memC (ss.take k).reverse := by
  rw [List.take_succ_eq_append_getElem hk, List.reverse_append]
  show memC (ss[k] :: (ss.take k).reverse) = _
  rw [memC, if_neg h1]
end Go.Proofs.Ytldepledinolmaa
