/- Contracts of the exact laws' own helpers on slices of slices of events: copied into memory of the call's own, marked, held. -/
import Derived.Test.YtldepledinolmaaGreatDoorGTrS
import Derived.Test.YtldepledinolmaaGreatDoorGBase
import Derived.Test.YtldepledinolmaaGreatDoorGMarks
namespace Go.Proofs.YtldepledinolmaaGreatDoor
open Go.RowKit

/-- What lies below lo, and what is of the call's own from hi on, is as it was. -/
structure Spared (lo hi : Nat) (w w' : World) : Prop where
  below : Below lo w w'
  size : w.heap.size ≤ w'.heap.size
  own : ∀ (base : Nat) (e : TypeId) (size n : Nat) (v : Value) (xs : List Value), w.ownsRow base e size v n xs → (∀ b, v.ownBlock = some b → hi ≤ b) → w'.ownsRow base e size v n xs
  bk : ∀ (g : Nat) (cs : Array Value) (t : TypeId), Bk w g cs t → hi ≤ g → Bk w' g cs t
theorem Spared.refl (lo hi : Nat) (w : World) : Spared lo hi w w := ⟨Below.refl _ _, Nat.le_refl _, fun _ _ _ _ _ _ h _ => h, fun _ _ _ h _ => h⟩
theorem Spared.trans {lo hi : Nat} {a b c : World} (h : Spared lo hi a b) (k : Spared lo hi b c) : Spared lo hi a c :=
  ⟨h.below.trans k.below, Nat.le_trans h.size k.size, fun _ _ _ _ _ _ x y => k.own _ _ _ _ _ _ (h.own _ _ _ _ _ _ x y) y, fun _ _ _ x y => k.bk _ _ _ (h.bk _ _ _ x y) y⟩
theorem Spared.of_grown {lo hi : Nat} {w w' : World} {row : Option Nat} (h : w.grownBy w' row) (hl : lo ≤ w.heap.size) (hr : ∀ b, row = some b → lo ≤ b ∧ b < hi) : Spared lo hi w w' :=
  ⟨(Below.refl _ _).grown h hl (fun k hk => (hr k hk).1), h.size,
   fun _ _ _ _ _ _ x y => x.kept h (own_sep fun b hb e => by have := y b hb; have := hr b e; omega),
   fun g _ _ x y => x.grown h (fun e => by have := hr g e.symm; omega)⟩

/-- The marks of a trace, laid from k on. -/
def mkT : Nat → List (List Ev) → List (List Ev)
  | _, [] => []
  | k, l :: r => mkE k l.length :: mkT (k + l.length * 3) r
theorem mkT_length : ∀ (k : Nat) (t : List (List Ev)), (mkT k t).length = t.length
  | _, [] => rfl
  | k, l :: r => by simp [mkT, mkT_length]
theorem mkT_sum : ∀ (k : Nat) (t : List (List Ev)), sumT (mkT k t) = sumT t
  | _, [] => rfl
  | k, l :: r => by simp only [mkT, sumT, mkE_length, mkT_sum]
/-- How far the marks go. -/
def endT (k : Nat) (t : List (List Ev)) : Nat := k + sumT t * 3
theorem mkT_get : ∀ (k : Nat) (t : List (List Ev)) (i : Nat) (h : i < t.length) (h' : i < (mkT k t).length), (mkT k t)[i] = mkE (endT k (t.take i)) t[i].length
  | k, l :: r, 0, _, _ => by simp [mkT, endT, sumT]
  | k, l :: r, i + 1, h, h' => by
    simp only [mkT, List.getElem_cons_succ]
    rw [mkT_get (k + l.length * 3) r i (by simpa using h) (by rw [mkT_length]; simpa using h)]
    simp only [endT, List.take_succ_cons, sumT]
    rw [show k + l.length * 3 + sumT (r.take i) * 3 = k + (l.length + sumT (r.take i)) * 3 by omega]
theorem endT_snoc (k : Nat) (t : List (List Ev)) (i : Nat) (h : i < t.length) : endT k (t.take (i + 1)) = endT k (t.take i) + t[i].length * 3 := by
  have : ∀ (a b : List (List Ev)), sumT (a ++ b) = sumT a + sumT b := by
    intro a b
    induction a with
    | nil => simp [sumT]
    | cons x a ih => simp only [List.cons_append, sumT, ih]; omega
  unfold endT
  rw [List.take_succ_eq_append_getElem h, this]
  simp only [sumT]
  omega
theorem sumT_take_le : ∀ (t : List (List Ev)) (i : Nat), sumT (t.take i) ≤ sumT t
  | [], i => by simp [sumT]
  | l :: r, 0 => by simp [sumT]
  | l :: r, i + 1 => by have := sumT_take_le r i; simp only [List.take_succ_cons, sumT]; omega
/-- After i rounds of marking. -/
def halfM (k : Nat) (t : List (List Ev)) (i : Nat) : List (List Ev) := (mkT k t).take i ++ t.drop i
theorem halfM_zero (k : Nat) (t : List (List Ev)) : halfM k t 0 = t := by simp [halfM]
theorem halfM_all (k : Nat) (t : List (List Ev)) : halfM k t t.length = mkT k t := by
  unfold halfM
  rw [List.drop_length, List.append_nil, List.take_of_length_le (by rw [mkT_length]; exact Nat.le_refl _)]
theorem halfM_length (k : Nat) (t : List (List Ev)) (i : Nat) (h : i ≤ t.length) : (halfM k t i).length = t.length := by
  unfold halfM
  rw [List.length_append, List.length_take, List.length_drop, mkT_length]; omega
theorem halfM_get (k : Nat) (t : List (List Ev)) (i : Nat) (h : i < t.length) (h' : i < (halfM k t i).length) : (halfM k t i)[i] = t[i] := by
  have e : (halfM k t i)[i]? = t[i]? := by
    unfold halfM
    rw [List.getElem?_append_right (by rw [List.length_take, mkT_length]; omega), List.length_take, mkT_length, List.getElem?_drop]
    congr 1
    omega
  rw [List.getElem?_eq_getElem h', List.getElem?_eq_getElem h] at e
  exact Option.some.inj e
theorem halfM_set (k : Nat) (t : List (List Ev)) (i : Nat) (h : i < t.length) : (halfM k t i).set i (mkE (endT k (t.take i)) t[i].length) = halfM k t (i + 1) := by
  unfold halfM
  have hm : i < (mkT k t).length := by rw [mkT_length]; exact h
  rw [List.set_append_right _ _ (by rw [List.length_take, mkT_length]; omega), List.length_take, mkT_length, show i - min i t.length = 0 by omega, List.drop_eq_getElem_cons h, List.set_cons_zero, List.take_succ_eq_append_getElem hm, mkT_get k t i h hm, List.append_assoc, List.singleton_append]

/-- A row turned in its own memory. -/
theorem OwnT.turn {w w1 : World} {base i : Nat} {v u : Value} {t : List (List Ev)} {us : List Value} {es' : List Ev} (h : OwnT w base v t us) (hui : us[i]? = some u) (hg : w.grownBy w1 u.ownBlock) (hu' : w1.ownsRow base 83 3 u es'.length (evs es')) :
    OwnT w1 base v (t.set i es') us := by
  obtain ⟨hi, hu, hu3⟩ := h.at_ hui
  refine ⟨?_, fun j hj => ?_, h.apart⟩
  · rw [List.length_set]
    exact h.row.kept hg (own_sep fun b hb e => hu3 b e hb)
  · have hj' : j < t.length := by rw [List.length_set] at hj; exact hj
    obtain ⟨x, h1, h2, h3⟩ := h.rows j hj'
    by_cases hji : j = i
    · subst hji
      rw [hui] at h1
      cases h1
      refine ⟨u, hui, ?_, hu3⟩
      rw [List.getElem_set_self]
      exact hu'
    · refine ⟨x, h1, ?_, h3⟩
      rw [List.getElem_set_ne (by omega)]
      exact h2.kept hg (own_sep fun b hb e => h.apart i j u x (by omega) hui h1 b e hb)

/-- After k rounds of a copy into own rows. -/
structure HalfO (base : Nat) (wr : World) (t : List (List Ev)) (k : Nat) (vs : List Value) : Prop where
  rows : ∀ i, i < k → (h : i < t.length) → ∃ u, vs[i]? = some u ∧ wr.ownsRow (base + 1) 83 3 u t[i].length (evs t[i])
  apart : ∀ (i j : Nat) (u u' : Value), i < k → j < k → i ≠ j → vs[i]? = some u → vs[j]? = some u' → ∀ b, u.ownBlock = some b → u'.ownBlock ≠ some b

set_option maxRecDepth 100000 in
set_option maxHeartbeats 800000 in
theorem toEventSS_own (t : List (List Ev)) (A : Option Addr) (c : Nat) (w : World) (hm : LenT 1048576 t) (h : RdT w w.heap.size A t) :
    Calls Tryz.prog 20 #[.slice A t.length c] w fun e w' => ∃ g us, e = .returned (.slice (some ⟨g, 0, none⟩) t.length t.length) ∧ OwnT w' w.heap.size (.slice (some ⟨g, 0, none⟩) t.length t.length) t us ∧ Below w.heap.size w w' := by
  obtain ⟨hm1, hm2⟩ := hm
  obtain ⟨i0, hi, hz0, hz1, hz2⟩ := info_parts info_events
  go_enter Tryz.func20, Tryz.ntmps20
  go_wp2_with (at_make; refine wpList_make_full _ rfl _ _ 24 rfl w.heap.size 78 i0 (.slice none 0 0) 1 Tryz.underlying24 hi hz0 hz1 .i64 .i64 _ _ t.length rfl rfl rfl rfl (by rw [hz2]; omega) (by unfold maxLen; omega) (Nat.le_refl _) ?_; intro w1 hown hg)
  have hb1 : Below w.heap.size w w1 := (Below.refl _ _).grown hg (Nat.le_refl _) (by simp)
  clear hg
  go_loopw [4] (fun i wr => ∃ (k : Nat) (vs : List Value), k ≤ t.length ∧ i = .int .i64 k ∧ wr.ownsRow w.heap.size 78 1 (.slice (some ⟨w.heap.size, 0, none⟩) t.length t.length) t.length vs ∧ HalfO w.heap.size wr t k vs ∧ Below w.heap.size w wr) (fun i _ => t.length - (intOf i).toNat)
  case atStart => exact ⟨0, _, Nat.zero_le _, rfl, hown, ⟨fun i hi => by omega, fun i j u u' hi => by omega⟩, hb1⟩
  case round =>
    obtain ⟨k, vs, hk, rfl, ho, hH, hb⟩ := hrel
    have hlen : vs.length = t.length := by have := ho.1; omega
    by_cases hlt : k < t.length
    · obtain ⟨b, off, a, d, rfl, hbb, hc0, hle, hcm, hr⟩ := (h.below hb).get hlt
      have hz : w.heap.size < wr.heap.size := (ho.lt w.heap.size rfl).2
      go_wp2_with fail
      refine (toEventS_any t[k] a d _ (hm2 k hlt) hr.lt).mono ?_
      rintro e w2 ⟨g2, rfl, o2, hb2⟩
      have hb3 := hb.trans (hb2.mono hb.size)
      have ho2 := own_below ho hb2 (Nat.le_refl _)
      have hf0 := ho2.frozenAt k
      obtain ⟨v0, hx0⟩ : ∃ v, w2.cell? ⟨w.heap.size, k, none⟩ = some v := by
        rw [ho2.cellAt k (by omega)]
        exact ⟨_, List.getElem?_eq_getElem (by omega)⟩
      have hs := (ho2.stored k (.slice (some ⟨g2, 0, none⟩) t[k].length t[k].length)).1
      have hg2 := o2.lt g2 rfl
      have hH2 : HalfO w.heap.size (w2.setCell ⟨w.heap.size, k, none⟩ (.slice (some ⟨g2, 0, none⟩) t[k].length t[k].length)) t (k + 1) (vs.set k (.slice (some ⟨g2, 0, none⟩) t[k].length t[k].length)) := by
        have st : ∀ (u : Value) (n : Nat) (xs : List Value), w2.ownsRow (w.heap.size + 1) 83 3 u n xs → (w2.setCell ⟨w.heap.size, k, none⟩ (.slice (some ⟨g2, 0, none⟩) t[k].length t[k].length)).ownsRow (w.heap.size + 1) 83 3 u n xs :=
          fun u n xs hu => hu.kept (grown_set w2 w.heap.size k _) (own_sep fun b hb e => by have := hu.lt b hb; simp at e; omega)
        refine ⟨fun i hi hit => ?_, ?_⟩
        · by_cases hik : i = k
          · subst hik
            exact ⟨_, by rw [List.getElem?_set_self (by omega)], st _ _ _ (own_mono o2 (by omega))⟩
          · obtain ⟨u, q1, q2⟩ := hH.rows i (by omega) hit
            exact ⟨u, by rw [List.getElem?_set_ne (by omega)]; exact q1, st _ _ _ (own_below q2 hb2 (Nat.le_refl _))⟩
        · have key : ∀ (j : Nat) (x : Value), j < k + 1 → (vs.set k (.slice (some ⟨g2, 0, none⟩) t[k].length t[k].length))[j]? = some x → (j = k ∧ x = .slice (some ⟨g2, 0, none⟩) t[k].length t[k].length) ∨ (j < k ∧ vs[j]? = some x) := by
            intro j x hj hx
            by_cases hjk : j = k
            · subst hjk
              rw [List.getElem?_set_self (by omega)] at hx
              exact .inl ⟨rfl, (Option.some.inj hx).symm⟩
            · rw [List.getElem?_set_ne (by omega)] at hx
              exact .inr ⟨by omega, hx⟩
          have old : ∀ (j : Nat) (x : Value), j < k → vs[j]? = some x → ∀ b, x.ownBlock = some b → b < wr.heap.size := by
            intro j x hj hx b hb
            obtain ⟨u, q1, q2⟩ := hH.rows j hj (by omega)
            rw [hx] at q1
            cases q1
            exact (q2.lt b hb).2
          intro p q x y hp hq hpq hx hy b hb
          rcases key p x hp hx with ⟨p1, rfl⟩ | ⟨p1, p2⟩
          · rcases key q y hq hy with ⟨q1, rfl⟩ | ⟨q1, q2⟩
            · omega
            · intro e
              have := old q y q1 q2 b e
              simp only [Value.ownBlock, Option.some.injEq] at hb
              omega
          · rcases key q y hq hy with ⟨q1, rfl⟩ | ⟨q1, q2⟩
            · intro e
              have := old p x p1 p2 b hb
              simp only [Value.ownBlock, Option.some.injEq] at e
              omega
            · exact hH.apart p q x y p1 q1 hpq p2 q2 b hb
      have HS := hide hs
      have HH := hide hH2
      clear ho2 ho hs hH2 o2 hH
      go_wp2
      go_roundw
      case rel => exact ⟨k + 1, _, by omega, by go_num, HS.out, HH.out, hb3.setCell (Nat.le_refl _) _⟩
      case measure => simp [intOf]; omega
    · go_wp2
      go_ret
      refine ⟨_, vs, rfl, ⟨ho, fun i hi => ?_, ?_⟩, hb⟩
      · obtain ⟨u, q1, q2⟩ := hH.rows i (by omega) hi
        exact ⟨u, q1, own_mono q2 (by omega), fun b hb e => by have := q2.lt b hb; simp only [Value.ownBlock, Option.some.injEq] at e; omega⟩
      · intro i j u u' hij hu hu' b hb
        have hi : i < vs.length := by
          rcases Nat.lt_or_ge i vs.length with x | x
          · exact x
          · rw [List.getElem?_eq_none x] at hu; cases hu
        have hj : j < vs.length := by
          rcases Nat.lt_or_ge j vs.length with x | x
          · exact x
          · rw [List.getElem?_eq_none x] at hu'; cases hu'
        exact hH.apart i j u u' (by omega) (by omega) hij hu hu' b hb
theorem own_bound {w : World} {base : Nat} {v : Value} {t : List (List Ev)} {us : List Value} (h : OwnT w base v t us) : ∀ u ∈ us, ∀ b, u.ownBlock = some b → b < w.heap.size := fun u hu b hb => by
  obtain ⟨i, hi⟩ := List.getElem?_of_mem hu
  obtain ⟨_, h1, _⟩ := h.at_ hi
  exact (h1.lt b hb).2
end Go.Proofs.YtldepledinolmaaGreatDoor
