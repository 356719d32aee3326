/- Contracts of the exact laws' own helpers on slices of slices of events: copied into memory of the call's own, marked, held. -/
import Derived.Test.YtnnfkmjhaljplaaGTrS
import Derived.Test.YtnnfkmjhaljplaaGBase
import Derived.Test.YtnnfkmjhaljplaaGMarks
namespace Go.Proofs.Ytnnfkmjhaljplaa
open Go.RowKit

/-- What lies below lo, and what is of the call's own from hi on, is as it was. -/
structure Spared (lo hi : Nat) (w w' : World) : Prop where
  below : Below lo w w'
  size : w.heap.size ≤ w'.heap.size
  own : ∀ (base : Nat) (e : TypeId) (size n : Nat) (v : Value) (xs : List Value), w.ownsRow base e size v n xs → (∀ b, v.ownBlock = some b → hi ≤ b) → w'.ownsRow base e size v n xs
  bk : ∀ (g : Nat) (cs : Array Value) (t : TypeId), Bk w g cs t → hi ≤ g → Bk w' g cs t
theorem Spared.refl (lo hi : Nat) (w : World) : Spared lo hi w w := ⟨Below.refl _ _, Nat.le_refl _, fun _ _ _ _ _ _ h _ => h, fun _ _ _ h _ => h⟩
theorem Spared.trans {lo hi : Nat} {a b c : World} (h : Spared lo hi a b) (k : Spared lo hi b c) : Spared lo hi a c :=
  ⟨h.below.trans k.below, Nat.le_trans h.size k.size, fun _ _ _ _ _ _ x y => k.own _ _ _ _ _ _ (h.own _ _ _ _ _ _ x y) y, fun _ _ _ x y => k.bk _ _ _ (h.bk _ _ _ x y) y⟩
theorem Spared.of_grown {lo hi : Nat} {w w' : World} {row : Option Nat} (h : w.grownBy w' row) (hl : lo ≤ w.heap.size) (hr : ∀ b, row = some b → lo ≤ b ∧ b < hi) : Spared lo hi w w' :=
  ⟨(Below.refl _ _).grown h hl (fun k hk => (hr k hk).1), h.size,
   fun _ _ _ _ _ _ x y => x.kept h (own_sep fun b hb e => by have := y b hb; have := hr b e; omega),
   fun g _ _ x y => x.grown h (fun e => by have := hr g e.symm; omega)⟩

/-- The marks of a trace, laid from k on. -/
def mkT : Nat → List (List Ev) → List (List Ev)
  | _, [] => []
  | k, l :: r => mkE k l.length :: mkT (k + l.length * 3) r
theorem mkT_length : ∀ (k : Nat) (t : List (List Ev)), (mkT k t).length = t.length
  | _, [] => rfl
  | k, l :: r => by simp [mkT, mkT_length]
theorem mkT_sum : ∀ (k : Nat) (t : List (List Ev)), sumT (mkT k t) = sumT t
  | _, [] => rfl
  | k, l :: r => by simp only [mkT, sumT, mkE_length, mkT_sum]
/-- How far the marks go. -/
def endT (k : Nat) (t : List (List Ev)) : Nat := k + sumT t * 3
theorem mkT_get : ∀ (k : Nat) (t : List (List Ev)) (i : Nat) (h : i < t.length) (h' : i < (mkT k t).length), (mkT k t)[i] = mkE (endT k (t.take i)) t[i].length
  | k, l :: r, 0, _, _ => by simp [mkT, endT, sumT]
  | k, l :: r, i + 1, h, h' => by
    simp only [mkT, List.getElem_cons_succ]
    rw [mkT_get (k + l.length * 3) r i (by simpa using h) (by rw [mkT_length]; simpa using h)]
    simp only [endT, List.take_succ_cons, sumT]
    rw [show k + l.length * 3 + sumT (r.take i) * 3 = k + (l.length + sumT (r.take i)) * 3 by omega]
theorem endT_snoc (k : Nat) (t : List (List Ev)) (i : Nat) (h : i < t.length) : endT k (t.take (i + 1)) = endT k (t.take i) + t[i].length * 3 := by
  have : ∀ (a b : List (List Ev)), sumT (a ++ b) = sumT a + sumT b := by
    intro a b
    induction a with
    | nil => simp [sumT]
    | cons x a ih => simp only [List.cons_append, sumT, ih]; omega
  unfold endT
  rw [List.take_succ_eq_append_getElem h, this]
  simp only [sumT]
  omega
theorem sumT_take_le : ∀ (t : List (List Ev)) (i : Nat), sumT (t.take i) ≤ sumT t
  | [], i => by simp [sumT]
  | l :: r, 0 => by simp [sumT]
  | l :: r, i + 1 => by have := sumT_take_le r i; simp only [List.take_succ_cons, sumT]; omega
/-- After i rounds of marking. -/
def halfM (k : Nat) (t : List (List Ev)) (i : Nat) : List (List Ev) := (mkT k t).take i ++ t.drop i
theorem halfM_zero (k : Nat) (t : List (List Ev)) : halfM k t 0 = t := by simp [halfM]
theorem halfM_all (k : Nat) (t : List (List Ev)) : halfM k t t.length = mkT k t := by
  unfold halfM
  rw [List.drop_length, List.append_nil, List.take_of_length_le (by rw [mkT_length]; exact Nat.le_refl _)]
theorem halfM_length (k : Nat) (t : List (List Ev)) (i : Nat) (h : i ≤ t.length) : (halfM k t i).length = t.length := by
  unfold halfM
  rw [List.length_append, List.length_take, List.length_drop, mkT_length]; omega
theorem halfM_get (k : Nat) (t : List (List Ev)) (i : Nat) (h : i < t.length) (h' : i < (halfM k t i).length) : (halfM k t i)[i] = t[i] := by
  have e : (halfM k t i)[i]? = t[i]? := by
    unfold halfM
    rw [List.getElem?_append_right (by rw [List.length_take, mkT_length]; omega), List.length_take, mkT_length, List.getElem?_drop]
    congr 1
    omega
  rw [List.getElem?_eq_getElem h', List.getElem?_eq_getElem h] at e
  exact Option.some.inj e
theorem halfM_set (k : Nat) (t : List (List Ev)) (i : Nat) (h : i < t.length) : (halfM k t i).set i (mkE (endT k (t.take i)) t[i].length) = halfM k t (i + 1) := by
  unfold halfM
  have hm : i < (mkT k t).length := by rw [mkT_length]; exact h
  rw [List.set_append_right _ _ (by rw [List.length_take, mkT_length]; omega), List.length_take, mkT_length, show i - min i t.length = 0 by omega, List.drop_eq_getElem_cons h, List.set_cons_zero, List.take_succ_eq_append_getElem hm, mkT_get k t i h hm, List.append_assoc, List.singleton_append]

/-- A row turned in its own memory. -/
theorem OwnT.turn {w w1 : World} {base i : Nat} {v u : Value} {t : List (List Ev)} {us : List Value} {es' : List Ev} (h : OwnT w base v t us) (hui : us[i]? = some u) (hg : w.grownBy w1 u.ownBlock) (hu' : w1.ownsRow base 81 3 u es'.length (evs es')) :
    OwnT w1 base v (t.set i es') us := by
  obtain ⟨hi, hu, hu3⟩ := h.at_ hui
  refine ⟨?_, fun j hj => ?_, h.apart⟩
  · rw [List.length_set]
    exact h.row.kept hg (own_sep fun b hb e => hu3 b e hb)
  · have hj' : j < t.length := by rw [List.length_set] at hj; exact hj
    obtain ⟨x, h1, h2, h3⟩ := h.rows j hj'
    by_cases hji : j = i
    · subst hji
      rw [hui] at h1
      cases h1
      refine ⟨u, hui, ?_, hu3⟩
      rw [List.getElem_set_self]
      exact hu'
    · refine ⟨x, h1, ?_, h3⟩
      rw [List.getElem_set_ne (by omega)]
      exact h2.kept hg (own_sep fun b hb e => h.apart i j u x (by omega) hui h1 b e hb)

/-- After k rounds of a copy into own rows. -/
structure HalfO (base : Nat) (wr : World) (t : List (List Ev)) (k : Nat) (vs : List Value) : Prop where
  rows : ∀ i, i < k → (h : i < t.length) → ∃ u, vs[i]? = some u ∧ wr.ownsRow (base + 1) 81 3 u t[i].length (evs t[i])
  apart : ∀ (i j : Nat) (u u' : Value), i < k → j < k → i ≠ j → vs[i]? = some u → vs[j]? = some u' → ∀ b, u.ownBlock = some b → u'.ownBlock ≠ some b

theorem own_bound {w : World} {base : Nat} {v : Value} {t : List (List Ev)} {us : List Value} (h : OwnT w base v t us) : ∀ u ∈ us, ∀ b, u.ownBlock = some b → b < w.heap.size := fun u hu b hb => by
  obtain ⟨i, hi⟩ := List.getElem?_of_mem hu
  obtain ⟨_, h1, _⟩ := h.at_ hi
  exact (h1.lt b hb).2
end Go.Proofs.Ytnnfkmjhaljplaa
