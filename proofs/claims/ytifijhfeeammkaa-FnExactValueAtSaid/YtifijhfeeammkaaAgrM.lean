/- Plain mathematics of chapter 7: lines that agree, asked of all lines in one row. No program is named here. -/
import Derived.Test.YtifijhfeeammkaaMsiP
namespace Go.Proofs.Ytifijhfeeammkaa

/-- How many of the lines hold an address. -/
def holdC : List Ev → Int → Nat
  | [], _ => 0
  | x :: r, a => (if isM a x then 1 else 0) + holdC r a
theorem holdC_drop (l : List Ev) (k : Nat) (h : k < l.length) (a : Int) : holdC (l.drop k) a = (if isM a l[k] then 1 else 0) + holdC (l.drop (k + 1)) a := by rw [List.drop_eq_getElem_cons h, holdC]
theorem holdC_append : ∀ (l m : List Ev) (a : Int), holdC (l ++ m) a = holdC l a + holdC m a
  | [], m, a => by simp [holdC]
  | x :: r, m, a => by rw [List.cons_append, holdC, holdC, holdC_append r m a]; omega
theorem holdC_pos : ∀ {l : List Ev} {x : Ev} {a : Int}, x ∈ l → isM a x → 1 ≤ holdC l a
  | y :: r, x, a, hx, h => by
    rw [holdC]
    rcases List.mem_cons.1 hx with rfl | hx
    · rw [if_pos h]; omega
    · have := holdC_pos hx h; omega
theorem holdC_zero : ∀ {l : List Ev} {a : Int}, (∀ x ∈ l, ¬ isM a x) → holdC l a = 0
  | [], _, _ => rfl
  | y :: r, a, h => by
    rw [holdC, if_neg (h y (by simp)), holdC_zero fun x hx => h x (by simp [hx])]
theorem holdC_one : ∀ {l : List Ev} {a : Int} (k : Nat), (∀ q (h : q < l.length), isM a l[q] → q = k) → holdC l a ≤ 1
  | [], _, _, _ => by simp [holdC]
  | y :: r, a, 0, h => by
    rw [holdC, holdC_zero (l := r) fun x hx hm => ?_]
    · split <;> omega
    · obtain ⟨q, hq, rfl⟩ := List.getElem_of_mem hx
      have := h (q + 1) (by simp; omega) (by simpa using hm)
      omega
  | y :: r, a, k + 1, h => by
    have h0 : ¬ isM a y := fun hm => by have := h 0 (by simp) (by simpa using hm); omega
    rw [holdC, if_neg h0]
    have := holdC_one (l := r) (a := a) k fun q hq hm => by have := h (q + 1) (by simp; omega) (by simpa using hm); omega
    omega
theorem holdC_len : ∀ (l : List Ev) (a : Int), holdC l a ≤ l.length
  | [], _ => by simp [holdC]
  | y :: r, a => by
    rw [holdC]
    have := holdC_len r a
    simp only [List.length_cons]
    split <;> omega
/-- The lines agree with one another and with the memory. -/
def Agr (all : List Ev) (mem : List Cel) : Prop := ∀ x ∈ all, (x.k = 1 → x.v = readM mem x.a) ∧ (x.k = 2 → holdC all x.a ≤ 1)
theorem flat_row (cs : List (List Ev)) (i : Nat) (h : i < cs.length) (a : Int) : holdC cs.flatten a = holdC (cs.take i).flatten a + (holdC cs[i] a + holdC (cs.drop (i + 1)).flatten a) := by
  conv => lhs; rw [← List.take_append_drop i cs, List.drop_eq_getElem_cons h]
  rw [List.flatten_append, List.flatten_cons, holdC_append, holdC_append]
theorem agr_tog {n L : Nat} {m : Mac} (h : Shp7 n L m.cs) (hl : ∀ i, i < n → ∀ k, k < L → lineF L k (ln m.cs i k) = 0) : Agr m.cs.flatten m.mem ↔ Tog n L m := by
  have hpl : ∀ i k, i < n → k < L → (ln m.cs i k).k ≠ 0 → (ln m.cs i k).a % (L : Int) = (k : Int) := fun i k hi hk h0 => (lineF_zero.1 (hl i hi k hk)).2.2.2 h0
  have hrow : ∀ i (hi : i < m.cs.length), m.cs[i].length = L := fun i hi => h.2 _ (List.getElem_mem hi)
  constructor
  · intro hA i hi k hk
    refine ⟨fun h1 => (hA _ ((mem_flat h).2 ⟨i, k, hi, hk, rfl⟩)).1 h1, fun j hj hji h2 h0 he => ?_⟩
    have h1 := (hA _ ((mem_flat h).2 ⟨i, k, hi, hk, rfl⟩)).2 h2
    generalize hb : (ln m.cs i k).a = b at *
    have hi' : i < m.cs.length := by rw [h.1]; exact hi
    have hj' : j < m.cs.length := by rw [h.1]; exact hj
    have hki : k < m.cs[i].length := by rw [hrow]; exact hk
    have hkj : k < m.cs[j].length := by rw [hrow]; exact hk
    have mi : 1 ≤ holdC m.cs[i] b := holdC_pos (x := ln m.cs i k) (by rw [ln_get m.cs i k hi' hki]; exact List.getElem_mem _) ⟨by omega, hb⟩
    have mj : 1 ≤ holdC m.cs[j] b := holdC_pos (x := ln m.cs j k) (by rw [ln_get m.cs j k hj' hkj]; exact List.getElem_mem _) ⟨h0, he⟩
    have key : ∀ p q (hp : p < m.cs.length) (hq : q < m.cs.length), p < q → 1 ≤ holdC m.cs[p] b → 1 ≤ holdC m.cs[q] b → 2 ≤ holdC m.cs.flatten b := by
      intro p q hp hq hpq h3 h4
      have e := flat_row m.cs q hq b
      have e2 := flat_row (m.cs.take q) p (by simp; omega) b
      rw [show (m.cs.take q)[p]'(by simp; omega) = m.cs[p] by simp] at e2
      omega
    rcases Nat.lt_or_gt_of_ne hji with hlt | hlt
    · have := key j i hj' hi' hlt mj mi; omega
    · have := key i j hi' hj' hlt mi mj; omega
  · intro hT x hx
    obtain ⟨i, k, hi, hk, rfl⟩ := (mem_flat h).1 hx
    refine ⟨fun h1 => (hT i hi k hk).1 h1, fun h2 => ?_⟩
    have hi' : i < m.cs.length := by rw [h.1]; exact hi
    have hpk := hpl i k hi hk (by omega)
    have hother : ∀ j (hj : j < m.cs.length), j ≠ i → ∀ x ∈ m.cs[j], ¬ isM (ln m.cs i k).a x := by
      intro j hj hji x hx hm
      obtain ⟨q, hq, rfl⟩ := List.getElem_of_mem hx
      have hqL : q < L := by rw [← hrow j hj]; exact hq
      have hjn : j < n := by rw [← h.1]; exact hj
      rw [← ln_get m.cs j q hj hq] at hm
      have := hpl j q hjn hqL hm.1
      rw [hm.2, hpk] at this
      have hqk : q = k := by omega
      subst hqk
      exact (hT i hi q hk).2 j hjn hji h2 hm.1 hm.2
    rw [flat_row m.cs i hi']
    have z1 : holdC (m.cs.take i).flatten (ln m.cs i k).a = 0 := holdC_zero fun x hx hm => by
      obtain ⟨l, hl1, hl2⟩ := List.mem_flatten.1 hx
      obtain ⟨j, hj, rfl⟩ := List.getElem_of_mem hl1
      have hji : j < i := by simp at hj; omega
      rw [List.getElem_take] at hl2
      exact hother j (by omega) (by omega) x hl2 hm
    have z2 : holdC (m.cs.drop (i + 1)).flatten (ln m.cs i k).a = 0 := holdC_zero fun x hx hm => by
      obtain ⟨l, hl1, hl2⟩ := List.mem_flatten.1 hx
      obtain ⟨j, hj, rfl⟩ := List.getElem_of_mem hl1
      rw [List.getElem_drop] at hl2
      exact hother (i + 1 + j) (by simp at hj; omega) (by omega) x hl2 hm
    have z3 : holdC m.cs[i] (ln m.cs i k).a ≤ 1 := holdC_one k fun q hq hm => by
      have hqL : q < L := by rw [← hrow i hi']; exact hq
      rw [← ln_get m.cs i q hi' hq] at hm
      have := hpl i q hi hqL hm.1
      rw [hm.2, hpk] at this
      omega
    omega
end Go.Proofs.Ytifijhfeeammkaa
