/- Contracts of the exact laws' own helpers on slices of lines: measured, copied, compared. Contracts of the exact laws' own helpers on slices of slices of lines: measured, copied, compared. Slices of slices of events of the call's own that were just made; a slice of one event that was just made. A slice of slices of lines of the call's own: each row apart from the others. Plain lemmas. Contracts of the exact laws' own helpers on slices of slices of lines: copied into memory of the call's own, marked, held. -/
import Derived.Test.YtldepledinolmaaGEv
import Derived.StillTailTactics
import Derived.Lib.Hide
import Derived.Test.YtldepledinolmaaGTrS
import Derived.Test.YtldepledinolmaaGBase
import Derived.Test.YtldepledinolmaaGTrM
import Derived.Test.YtldepledinolmaaGMarks
import Derived.Test.YtldepledinolmaaOnly
namespace Go.Proofs.Ytldepledinolmaa
open Go.RowKit

theorem info_line : (Try.prog.info? 215).map (fun i => (i.zero, i.size, i.bytes)) = some (some (.agg #[.int .i64 0, .int .i64 0, .int .i64 0]), 3, 24) := by kernel_rfl

end Go.Proofs.Ytldepledinolmaa
namespace Go.Proofs.Ytldepledinolmaa
open Go.RowKit

theorem info_lines : (Try.prog.info? 212).map (fun i => (i.zero, i.size, i.bytes)) = some (some (.slice none 0 0), 1, 24) := by kernel_rfl

end Go.Proofs.Ytldepledinolmaa
namespace Go.Proofs.Ytldepledinolmaa
open Go.RowKit

theorem ownT_made {w : World} {base n : Nat} {v : Value} (h : w.ownsRow base 96 1 v n (List.replicate n (.slice none 0 0))) : OwnT w base v (List.replicate n []) (List.replicate n (.slice none 0 0)) := by
  refine ⟨by rw [List.length_replicate]; exact h, fun i hi => ?_, fun i j u u' _ hu _ b hb => ?_⟩
  · rw [List.length_replicate] at hi
    refine ⟨.slice none 0 0, by rw [List.getElem?_replicate, if_pos hi], ?_, fun b hb => by cases hb⟩
    simp only [List.getElem_replicate]
    exact World.ownsRow_nil _ _ _ _
  · have := List.eq_of_mem_replicate (List.mem_of_getElem? hu)
    rw [this] at hb
    cases hb
theorem made_slices (n : Nat) : (madeCells (Value.slice none 0 0).cells (n * 1)).toList = List.replicate n (.slice none 0 0) := by
  apply List.ext_getElem
  · simp [madeCells]
  · intro i h1 h2
    simp [madeCells, Value.cells, Nat.mod_one]
theorem RdE.one_new (w : World) (e : Ev) (T : TypeId) : RdE (w.alloc (.cells #[.int .i64 e.k, .int .i64 e.a, .int .i64 e.v] T)) (w.heap.size + 1) (some ⟨w.heap.size, 0, none⟩) [e] := fun _ =>
  ⟨w.heap.size, 0, rfl, Nat.lt_succ_self _, fun i hi => by
    rw [Nat.zero_add, (Bk.new w #[.int .i64 e.k, .int .i64 e.a, .int .i64 e.v] T).cell i]
    simp only [List.getElem?_toArray]
    exact List.getElem?_eq_getElem hi⟩
end Go.Proofs.Ytldepledinolmaa
namespace Go.Proofs.Ytldepledinolmaa
open Go.RowKit

structure OwnTLine (w : World) (base : Nat) (v : Value) (t : List (List Ev)) (us : List Value) : Prop where
  row : w.ownsRow base 212 1 v t.length us
  rows : ∀ i, (h : i < t.length) → ∃ u, us[i]? = some u ∧ w.ownsRow base 215 3 u t[i].length (evs t[i]) ∧ ∀ b, u.ownBlock = some b → v.ownBlock ≠ some b
  apart : ∀ (i j : Nat) (u u' : Value), i ≠ j → us[i]? = some u → us[j]? = some u' → ∀ b, u.ownBlock = some b → u'.ownBlock ≠ some b
section
variable {w w' w1 : World} {base : Nat} {v v' : Value} {t : List (List Ev)} {us : List Value} {es : List Ev}
theorem OwnTLine.len (h : OwnTLine w base v t us) : us.length = t.length := by have := h.row.1; omega
theorem OwnTLine.at_ (h : OwnTLine w base v t us) {i : Nat} {u : Value} (hu : us[i]? = some u) : ∃ (hi : i < t.length), w.ownsRow base 215 3 u t[i].length (evs t[i]) ∧ ∀ b, u.ownBlock = some b → v.ownBlock ≠ some b := by
  have hi : i < t.length := by
    rcases Nat.lt_or_ge i us.length with a | a
    · rw [← h.len]; exact a
    · rw [List.getElem?_eq_none a] at hu; exact absurd hu (by simp)
  obtain ⟨u', h1, h2, h3⟩ := h.rows i hi
  rw [hu] at h1
  cases h1
  exact ⟨hi, h2, h3⟩
theorem OwnTLine.kept {row : Option Nat} (h : OwnTLine w base v t us) (hg : w.grownBy w' row) (hr : ∀ b, row = some b → b < base) : OwnTLine w' base v t us :=
  ⟨h.row.kept hg (own_sep fun b hb e => by have := h.row.lt b hb; have := hr b e; omega),
   fun i hi => by
    obtain ⟨u, h1, h2, h3⟩ := h.rows i hi
    exact ⟨u, h1, h2.kept hg (own_sep fun b hb e => by have := h2.lt b hb; have := hr b e; omega), h3⟩,
   h.apart⟩
theorem OwnTLine.below (h : OwnTLine w base v t us) (hb : Below w.heap.size w w') : OwnTLine w' base v t us := h.kept (row := none) ⟨hb.os, hb.tape, hb.output, hb.size, fun k hk _ => hb.block k hk⟩ (fun b e => by cases e)
theorem OwnTLine.alloc (h : OwnTLine w base v t us) (o : Obj) : OwnTLine (w.alloc o) base v t us := h.below ((Below.refl _ _).alloc (Nat.le_refl _) _)
theorem OwnTLine.mono (h : OwnTLine w base v t us) {b' : Nat} (hb : b' ≤ base) : OwnTLine w b' v t us :=
  ⟨own_mono h.row hb, fun i hi => by
    obtain ⟨u, h1, h2, h3⟩ := h.rows i hi
    exact ⟨u, h1, own_mono h2 hb, h3⟩, h.apart⟩
theorem OwnTLine.rd {A : Option Addr} {c : Nat} (h : OwnTLine w base (.slice A t.length c) t us) : RdT w w.heap.size A t := by
  intro h0
  rcases h.row.2 with ⟨_, h''⟩ | ⟨g, cap, cur, h', _⟩
  · omega
  · simp only [Value.slice.injEq] at h'
    obtain ⟨rfl, _, rfl⟩ := h'
    refine ⟨g, 0, rfl, (h.row.lt g rfl).2, fun i hi => ?_⟩
    obtain ⟨u, h1, h2, h3⟩ := h.rows i hi
    obtain ⟨a, c, rfl⟩ := own_shape h2
    have hcp := own_capE h2
    refine ⟨a, c, ?_, hcp.1, hcp.2, RdE.of_own h2⟩
    rw [Nat.zero_add, h.row.cellAt i (by omega)]
    exact h1
/-- A new row behind the others. -/
theorem OwnTLine.push {u : Value} (h : OwnTLine w base v t us) (hu : w.ownsRow base 215 3 u es.length (evs es)) (hf : ∀ b, u.ownBlock = some b → v.ownBlock ≠ some b ∧ ∀ (i : Nat) (u' : Value), us[i]? = some u' → u'.ownBlock ≠ some b)
    (ho : w'.ownsRow base 212 1 v' (t.length + 1) (us ++ [u])) (hg : w.grownBy w' v.ownBlock) (hat : v'.ownBlock = v.ownBlock ∨ v'.ownBlock = some w.heap.size) : OwnTLine w' base v' (t ++ [es]) (us ++ [u]) := by
  have hnew : ∀ (x : Value) (n : Nat) (xs : List Value), w.ownsRow base 215 3 x n xs → (∀ b, x.ownBlock = some b → v.ownBlock ≠ some b) → ∀ b, x.ownBlock = some b → v'.ownBlock ≠ some b := by
    intro x n xs hx h3 b hb
    rcases hat with e | e
    · rw [e]; exact h3 b hb
    · rw [e]
      intro e2
      simp only [Option.some.injEq] at e2
      have := hx.lt b hb
      omega
  refine ⟨by rw [List.length_append]; exact ho, fun i hi => ?_, ?_⟩
  · rw [List.length_append, List.length_singleton] at hi
    by_cases hlt : i < t.length
    · obtain ⟨x, h1, h2, h3⟩ := h.rows i hlt
      refine ⟨x, by rw [List.getElem?_append_left (by rw [h.len]; exact hlt)]; exact h1, ?_, hnew x _ _ h2 h3⟩
      rw [List.getElem_append_left hlt]
      exact h2.kept hg (own_sep h3)
    · obtain rfl : i = t.length := by omega
      refine ⟨u, by rw [List.getElem?_append_right (by rw [h.len]; exact Nat.le_refl _), h.len, Nat.sub_self]; rfl, ?_, hnew u _ _ hu (fun b hb => (hf b hb).1)⟩
      rw [List.getElem_append_right (Nat.le_refl _)]
      simp only [Nat.sub_self, List.getElem_cons_zero]
      exact hu.kept hg (own_sep fun b hb => (hf b hb).1)
  · have key : ∀ (i : Nat) (x : Value), (us ++ [u])[i]? = some x → (i < us.length ∧ us[i]? = some x) ∨ (i = us.length ∧ x = u) := by
      intro i x hx
      by_cases hlt : i < us.length
      · rw [List.getElem?_append_left hlt] at hx
        exact .inl ⟨hlt, hx⟩
      · rw [List.getElem?_append_right (by omega)] at hx
        have hi : i - us.length = 0 := by
          rcases Nat.eq_zero_or_pos (i - us.length) with a | a
          · exact a
          · rw [List.getElem?_eq_none (by simp; omega)] at hx; exact absurd hx (by simp)
        rw [hi] at hx
        simp only [List.getElem?_cons_zero, Option.some.injEq] at hx
        exact .inr ⟨by omega, hx.symm⟩
    intro i j x y hij hx hy b hb
    rcases key i x hx with ⟨i1, i2⟩ | ⟨i1, rfl⟩
    · rcases key j y hy with ⟨j1, j2⟩ | ⟨j1, rfl⟩
      · exact h.apart i j x y hij i2 j2 b hb
      · intro e
        exact (hf b e).2 i x i2 hb
    · rcases key j y hy with ⟨j1, j2⟩ | ⟨j1, rfl⟩
      · exact (hf b hb).2 j y j2
      · omega
/-- Another row in the place of one. -/
theorem OwnTLine.swap {gv c i : Nat} {u u' : Value} {row : Option Nat} {es' : List Ev} (h : OwnTLine w base (.slice (some ⟨gv, 0, none⟩) t.length c) t us) (hui : us[i]? = some u) (hg : w.grownBy w1 row) (hrow : ∀ b, row = some b → u.ownBlock = some b ∨ b < base)
    (hu' : w1.ownsRow base 215 3 u' es'.length (evs es')) (hat : ∀ b, u'.ownBlock = some b → u.ownBlock = some b ∨ w.heap.size ≤ b) :
    OwnTLine (w1.setCell ⟨gv, i, none⟩ u') base (.slice (some ⟨gv, 0, none⟩) t.length c) (t.set i es') (us.set i u') := by
  obtain ⟨hi, hu, hu3⟩ := h.at_ hui
  have hgv := h.row.lt gv rfl
  have hne : ∀ b, u'.ownBlock = some b → b ≠ gv := by
    intro b hb e
    subst e
    rcases hat b hb with a | a
    · exact hu3 b a rfl
    · omega
  have hrk : ∀ (x : Value) (n : Nat) (xs : List Value) (j : Nat), j ≠ i → us[j]? = some x → w.ownsRow base 215 3 x n xs → ∀ b, x.ownBlock = some b → row ≠ some b := by
    intro x n xs j hji hj hx b hb e
    rcases hrow b e with a | a
    · exact h.apart j i x u hji hj hui b hb a
    · have := hx.lt b hb; omega
  refine ⟨?_, fun j hj => ?_, ?_⟩
  · rw [List.length_set]
    exact ((h.row.kept hg (own_sep fun b hb e => by
      simp only [Value.ownBlock, Option.some.injEq] at hb
      subst hb
      rcases hrow _ e with a | a
      · exact hu3 _ a rfl
      · omega)).stored i u').1
  · have hj' : j < t.length := by rw [List.length_set] at hj; exact hj
    by_cases hji : j = i
    · subst hji
      refine ⟨u', by rw [List.getElem?_set_self (by rw [h.len]; exact hj')], ?_, fun b hb e => ?_⟩
      · rw [List.getElem_set_self]
        exact hu'.kept (grown_set w1 gv j u') (own_sep fun b hb e => hne b hb (by simpa using e.symm))
      · simp only [Value.ownBlock, Option.some.injEq] at e
        exact hne b hb e.symm
    · obtain ⟨x, h1, h2, h3⟩ := h.rows j hj'
      refine ⟨x, by rw [List.getElem?_set_ne (by omega)]; exact h1, ?_, h3⟩
      rw [List.getElem_set_ne (by omega)]
      refine (h2.kept hg (own_sep (hrk x _ _ j hji h1 h2))).kept (grown_set w1 gv i u') (own_sep fun b hb e => ?_)
      exact h3 b hb (by simpa [Value.ownBlock] using e)
  · have key : ∀ (j : Nat) (x : Value), (us.set i u')[j]? = some x → (j = i ∧ x = u') ∨ (j ≠ i ∧ us[j]? = some x) := by
      intro j x hx
      by_cases hji : j = i
      · subst hji
        rw [List.getElem?_set_self (by rw [h.len]; exact hi)] at hx
        exact .inl ⟨rfl, (Option.some.inj hx).symm⟩
      · rw [List.getElem?_set_ne (by omega)] at hx
        exact .inr ⟨hji, hx⟩
    intro p q x y hpq hx hy b hb
    rcases key p x hx with ⟨p1, rfl⟩ | ⟨p1, p2⟩
    · rcases key q y hy with ⟨q1, rfl⟩ | ⟨q1, q2⟩
      · omega
      · rcases hat b hb with a | a
        · exact h.apart i q u y (by omega) hui q2 b a
        · intro e
          obtain ⟨_, hq, _⟩ := h.at_ q2
          have := hq.lt b e
          omega
    · rcases key q y hy with ⟨q1, rfl⟩ | ⟨q1, q2⟩
      · intro e
        rcases hat b e with a | a
        · exact h.apart p i x u (by omega) p2 hui b hb a
        · obtain ⟨_, hp, _⟩ := h.at_ p2
          have := hp.lt b hb
          omega
      · exact h.apart p q x y hpq p2 q2 b hb
end
theorem ownTLine_made {w : World} {base n : Nat} {v : Value} (h : w.ownsRow base 212 1 v n (List.replicate n (.slice none 0 0))) : OwnTLine w base v (List.replicate n []) (List.replicate n (.slice none 0 0)) := by
  refine ⟨by rw [List.length_replicate]; exact h, fun i hi => ?_, fun i j u u' _ hu _ b hb => ?_⟩
  · rw [List.length_replicate] at hi
    refine ⟨.slice none 0 0, by rw [List.getElem?_replicate, if_pos hi], ?_, fun b hb => by cases hb⟩
    simp only [List.getElem_replicate]
    exact World.ownsRow_nil _ _ _ _
  · have := List.eq_of_mem_replicate (List.mem_of_getElem? hu)
    rw [this] at hb
    cases hb
end Go.Proofs.Ytldepledinolmaa
namespace Go.Proofs.Ytldepledinolmaa
open Go.RowKit

/-- A row turned in its own memory. -/
theorem OwnTLine.turn {w w1 : World} {base i : Nat} {v u : Value} {t : List (List Ev)} {us : List Value} {es' : List Ev} (h : OwnTLine w base v t us) (hui : us[i]? = some u) (hg : w.grownBy w1 u.ownBlock) (hu' : w1.ownsRow base 215 3 u es'.length (evs es')) :
    OwnTLine w1 base v (t.set i es') us := by
  obtain ⟨hi, hu, hu3⟩ := h.at_ hui
  refine ⟨?_, fun j hj => ?_, h.apart⟩
  · rw [List.length_set]
    exact h.row.kept hg (own_sep fun b hb e => hu3 b e hb)
  · have hj' : j < t.length := by rw [List.length_set] at hj; exact hj
    obtain ⟨x, h1, h2, h3⟩ := h.rows j hj'
    by_cases hji : j = i
    · subst hji
      rw [hui] at h1
      cases h1
      refine ⟨u, hui, ?_, hu3⟩
      rw [List.getElem_set_self]
      exact hu'
    · refine ⟨x, h1, ?_, h3⟩
      rw [List.getElem_set_ne (by omega)]
      exact h2.kept hg (own_sep fun b hb e => h.apart i j u x (by omega) hui h1 b e hb)

/-- After k rounds of a copy into own rows. -/
structure HalfOLine (base : Nat) (wr : World) (t : List (List Ev)) (k : Nat) (vs : List Value) : Prop where
  rows : ∀ i, i < k → (h : i < t.length) → ∃ u, vs[i]? = some u ∧ wr.ownsRow (base + 1) 215 3 u t[i].length (evs t[i])
  apart : ∀ (i j : Nat) (u u' : Value), i < k → j < k → i ≠ j → vs[i]? = some u → vs[j]? = some u' → ∀ b, u.ownBlock = some b → u'.ownBlock ≠ some b

theorem own_boundLine {w : World} {base : Nat} {v : Value} {t : List (List Ev)} {us : List Value} (h : OwnTLine w base v t us) : ∀ u ∈ us, ∀ b, u.ownBlock = some b → b < w.heap.size := fun u hu b hb => by
  obtain ⟨i, hi⟩ := List.getElem?_of_mem hu
  obtain ⟨_, h1, _⟩ := h.at_ hi
  exact (h1.lt b hb).2
end Go.Proofs.Ytldepledinolmaa
