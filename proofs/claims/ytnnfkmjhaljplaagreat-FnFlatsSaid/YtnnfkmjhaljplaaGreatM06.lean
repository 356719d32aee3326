/- What the laws' walks rest upon, part 6. -/
import Derived.Test.YtnnfkmjhaljplaaGreatM02
import Derived.StillTailTactics
import Derived.Lib.Hide
import Derived.Test.YtnnfkmjhaljplaaGreatM05
import Derived.Test.YtnnfkmjhaljplaaGreatM01
namespace Go.Proofs.YtnnfkmjhaljplaaGreat
open Go.RowKit
theorem info_op : (Tryz.prog.info? 84).map (fun i => (i.zero, i.size, i.bytes)) = some (some (.agg #[.int .i64 0, .int .i64 0, .int .i64 0]), 3, 24) := by kernel_rfl
end Go.Proofs.YtnnfkmjhaljplaaGreat
namespace Go.Proofs.YtnnfkmjhaljplaaGreat
open Go.RowKit
theorem info_ops : (Tryz.prog.info? 104).map (fun i => (i.zero, i.size, i.bytes)) = some (some (.slice none 0 0), 1, 24) := by kernel_rfl
end Go.Proofs.YtnnfkmjhaljplaaGreat
namespace Go.Proofs.YtnnfkmjhaljplaaGreat
open Go.RowKit
structure OwnTOp (w : World) (base : Nat) (v : Value) (t : List (List Ev)) (us : List Value) : Prop where
  row : w.ownsRow base 104 1 v t.length us
  rows : ∀ i, (h : i < t.length) → ∃ u, us[i]? = some u ∧ w.ownsRow base 84 3 u t[i].length (evs t[i]) ∧ ∀ b, u.ownBlock = some b → v.ownBlock ≠ some b
  apart : ∀ (i j : Nat) (u u' : Value), i ≠ j → us[i]? = some u → us[j]? = some u' → ∀ b, u.ownBlock = some b → u'.ownBlock ≠ some b
section
variable {w w' w1 : World} {base : Nat} {v v' : Value} {t : List (List Ev)} {us : List Value} {es : List Ev}
theorem OwnTOp.len (h : OwnTOp w base v t us) : us.length = t.length := by have := h.row.1; omega
theorem OwnTOp.at_ (h : OwnTOp w base v t us) {i : Nat} {u : Value} (hu : us[i]? = some u) : ∃ (hi : i < t.length), w.ownsRow base 84 3 u t[i].length (evs t[i]) ∧ ∀ b, u.ownBlock = some b → v.ownBlock ≠ some b := by
  have hi : i < t.length := by
    rcases Nat.lt_or_ge i us.length with a | a
    · rw [← h.len]; exact a
    · rw [List.getElem?_eq_none a] at hu; exact absurd hu (by simp)
  obtain ⟨u', h1, h2, h3⟩ := h.rows i hi
  rw [hu] at h1
  cases h1
  exact ⟨hi, h2, h3⟩
theorem OwnTOp.kept {row : Option Nat} (h : OwnTOp w base v t us) (hg : w.grownBy w' row) (hr : ∀ b, row = some b → b < base) : OwnTOp w' base v t us :=
  ⟨h.row.kept hg (own_sep fun b hb e => by have := h.row.lt b hb; have := hr b e; omega),
   fun i hi => by
    obtain ⟨u, h1, h2, h3⟩ := h.rows i hi
    exact ⟨u, h1, h2.kept hg (own_sep fun b hb e => by have := h2.lt b hb; have := hr b e; omega), h3⟩,
   h.apart⟩
theorem OwnTOp.below (h : OwnTOp w base v t us) (hb : Below w.heap.size w w') : OwnTOp w' base v t us := h.kept (row := none) ⟨hb.os, hb.tape, hb.output, hb.size, fun k hk _ => hb.block k hk⟩ (fun b e => by cases e)
theorem OwnTOp.alloc (h : OwnTOp w base v t us) (o : Obj) : OwnTOp (w.alloc o) base v t us := h.below ((Below.refl _ _).alloc (Nat.le_refl _) _)
theorem OwnTOp.mono (h : OwnTOp w base v t us) {b' : Nat} (hb : b' ≤ base) : OwnTOp w b' v t us :=
  ⟨own_mono h.row hb, fun i hi => by
    obtain ⟨u, h1, h2, h3⟩ := h.rows i hi
    exact ⟨u, h1, own_mono h2 hb, h3⟩, h.apart⟩
theorem OwnTOp.rd {A : Option Addr} {c : Nat} (h : OwnTOp w base (.slice A t.length c) t us) : RdT w w.heap.size A t := by
  intro h0
  rcases h.row.2 with ⟨_, h''⟩ | ⟨g, cap, cur, h', _⟩
  · omega
  · simp only [Value.slice.injEq] at h'
    obtain ⟨rfl, _, rfl⟩ := h'
    refine ⟨g, 0, rfl, (h.row.lt g rfl).2, fun i hi => ?_⟩
    obtain ⟨u, h1, h2, h3⟩ := h.rows i hi
    obtain ⟨a, c, rfl⟩ := own_shape h2
    have hcp := own_capE h2
    refine ⟨a, c, ?_, hcp.1, hcp.2, RdE.of_own h2⟩
    rw [Nat.zero_add, h.row.cellAt i (by omega)]
    exact h1
/-- A new row behind the others. -/
theorem OwnTOp.push {u : Value} (h : OwnTOp w base v t us) (hu : w.ownsRow base 84 3 u es.length (evs es)) (hf : ∀ b, u.ownBlock = some b → v.ownBlock ≠ some b ∧ ∀ (i : Nat) (u' : Value), us[i]? = some u' → u'.ownBlock ≠ some b)
    (ho : w'.ownsRow base 104 1 v' (t.length + 1) (us ++ [u])) (hg : w.grownBy w' v.ownBlock) (hat : v'.ownBlock = v.ownBlock ∨ v'.ownBlock = some w.heap.size) : OwnTOp w' base v' (t ++ [es]) (us ++ [u]) := by
  have hnew : ∀ (x : Value) (n : Nat) (xs : List Value), w.ownsRow base 84 3 x n xs → (∀ b, x.ownBlock = some b → v.ownBlock ≠ some b) → ∀ b, x.ownBlock = some b → v'.ownBlock ≠ some b := by
    intro x n xs hx h3 b hb
    rcases hat with e | e
    · rw [e]; exact h3 b hb
    · rw [e]
      intro e2
      simp only [Option.some.injEq] at e2
      have := hx.lt b hb
      omega
  refine ⟨by rw [List.length_append]; exact ho, fun i hi => ?_, ?_⟩
  · rw [List.length_append, List.length_singleton] at hi
    by_cases hlt : i < t.length
    · obtain ⟨x, h1, h2, h3⟩ := h.rows i hlt
      refine ⟨x, by rw [List.getElem?_append_left (by rw [h.len]; exact hlt)]; exact h1, ?_, hnew x _ _ h2 h3⟩
      rw [List.getElem_append_left hlt]
      exact h2.kept hg (own_sep h3)
    · obtain rfl : i = t.length := by omega
      refine ⟨u, by rw [List.getElem?_append_right (by rw [h.len]; exact Nat.le_refl _), h.len, Nat.sub_self]; rfl, ?_, hnew u _ _ hu (fun b hb => (hf b hb).1)⟩
      rw [List.getElem_append_right (Nat.le_refl _)]
      simp only [Nat.sub_self, List.getElem_cons_zero]
      exact hu.kept hg (own_sep fun b hb => (hf b hb).1)
  · have key : ∀ (i : Nat) (x : Value), (us ++ [u])[i]? = some x → (i < us.length ∧ us[i]? = some x) ∨ (i = us.length ∧ x = u) := by
      intro i x hx
      by_cases hlt : i < us.length
      · rw [List.getElem?_append_left hlt] at hx
        exact .inl ⟨hlt, hx⟩
      · rw [List.getElem?_append_right (by omega)] at hx
        have hi : i - us.length = 0 := by
          rcases Nat.eq_zero_or_pos (i - us.length) with a | a
          · exact a
          · rw [List.getElem?_eq_none (by simp; omega)] at hx; exact absurd hx (by simp)
        rw [hi] at hx
        simp only [List.getElem?_cons_zero, Option.some.injEq] at hx
        exact .inr ⟨by omega, hx.symm⟩
    intro i j x y hij hx hy b hb
    rcases key i x hx with ⟨i1, i2⟩ | ⟨i1, rfl⟩
    · rcases key j y hy with ⟨j1, j2⟩ | ⟨j1, rfl⟩
      · exact h.apart i j x y hij i2 j2 b hb
      · intro e
        exact (hf b e).2 i x i2 hb
    · rcases key j y hy with ⟨j1, j2⟩ | ⟨j1, rfl⟩
      · exact (hf b hb).2 j y j2
      · omega
/-- Another row in the place of one. -/
theorem OwnTOp.swap {gv c i : Nat} {u u' : Value} {row : Option Nat} {es' : List Ev} (h : OwnTOp w base (.slice (some ⟨gv, 0, none⟩) t.length c) t us) (hui : us[i]? = some u) (hg : w.grownBy w1 row) (hrow : ∀ b, row = some b → u.ownBlock = some b ∨ b < base)
    (hu' : w1.ownsRow base 84 3 u' es'.length (evs es')) (hat : ∀ b, u'.ownBlock = some b → u.ownBlock = some b ∨ w.heap.size ≤ b) :
    OwnTOp (w1.setCell ⟨gv, i, none⟩ u') base (.slice (some ⟨gv, 0, none⟩) t.length c) (t.set i es') (us.set i u') := by
  obtain ⟨hi, hu, hu3⟩ := h.at_ hui
  have hgv := h.row.lt gv rfl
  have hne : ∀ b, u'.ownBlock = some b → b ≠ gv := by
    intro b hb e
    subst e
    rcases hat b hb with a | a
    · exact hu3 b a rfl
    · omega
  have hrk : ∀ (x : Value) (n : Nat) (xs : List Value) (j : Nat), j ≠ i → us[j]? = some x → w.ownsRow base 84 3 x n xs → ∀ b, x.ownBlock = some b → row ≠ some b := by
    intro x n xs j hji hj hx b hb e
    rcases hrow b e with a | a
    · exact h.apart j i x u hji hj hui b hb a
    · have := hx.lt b hb; omega
  refine ⟨?_, fun j hj => ?_, ?_⟩
  · rw [List.length_set]
    exact ((h.row.kept hg (own_sep fun b hb e => by
      simp only [Value.ownBlock, Option.some.injEq] at hb
      subst hb
      rcases hrow _ e with a | a
      · exact hu3 _ a rfl
      · omega)).stored i u').1
  · have hj' : j < t.length := by rw [List.length_set] at hj; exact hj
    by_cases hji : j = i
    · subst hji
      refine ⟨u', by rw [List.getElem?_set_self (by rw [h.len]; exact hj')], ?_, fun b hb e => ?_⟩
      · rw [List.getElem_set_self]
        exact hu'.kept (grown_set w1 gv j u') (own_sep fun b hb e => hne b hb (by simpa using e.symm))
      · simp only [Value.ownBlock, Option.some.injEq] at e
        exact hne b hb e.symm
    · obtain ⟨x, h1, h2, h3⟩ := h.rows j hj'
      refine ⟨x, by rw [List.getElem?_set_ne (by omega)]; exact h1, ?_, h3⟩
      rw [List.getElem_set_ne (by omega)]
      refine (h2.kept hg (own_sep (hrk x _ _ j hji h1 h2))).kept (grown_set w1 gv i u') (own_sep fun b hb e => ?_)
      exact h3 b hb (by simpa [Value.ownBlock] using e)
  · have key : ∀ (j : Nat) (x : Value), (us.set i u')[j]? = some x → (j = i ∧ x = u') ∨ (j ≠ i ∧ us[j]? = some x) := by
      intro j x hx
      by_cases hji : j = i
      · subst hji
        rw [List.getElem?_set_self (by rw [h.len]; exact hi)] at hx
        exact .inl ⟨rfl, (Option.some.inj hx).symm⟩
      · rw [List.getElem?_set_ne (by omega)] at hx
        exact .inr ⟨hji, hx⟩
    intro p q x y hpq hx hy b hb
    rcases key p x hx with ⟨p1, rfl⟩ | ⟨p1, p2⟩
    · rcases key q y hy with ⟨q1, rfl⟩ | ⟨q1, q2⟩
      · omega
      · rcases hat b hb with a | a
        · exact h.apart i q u y (by omega) hui q2 b a
        · intro e
          obtain ⟨_, hq, _⟩ := h.at_ q2
          have := hq.lt b e
          omega
    · rcases key q y hy with ⟨q1, rfl⟩ | ⟨q1, q2⟩
      · intro e
        rcases hat b e with a | a
        · exact h.apart p i x u (by omega) p2 hui b hb a
        · obtain ⟨_, hp, _⟩ := h.at_ p2
          have := hp.lt b hb
          omega
      · exact h.apart p q x y hpq p2 q2 b hb
end
end Go.Proofs.YtnnfkmjhaljplaaGreat
namespace Go.Proofs.YtnnfkmjhaljplaaGreat
open Go.RowKit
/-- A row turned in its own memory. -/
theorem OwnTOp.turn {w w1 : World} {base i : Nat} {v u : Value} {t : List (List Ev)} {us : List Value} {es' : List Ev} (h : OwnTOp w base v t us) (hui : us[i]? = some u) (hg : w.grownBy w1 u.ownBlock) (hu' : w1.ownsRow base 84 3 u es'.length (evs es')) :
    OwnTOp w1 base v (t.set i es') us := by
  obtain ⟨hi, hu, hu3⟩ := h.at_ hui
  refine ⟨?_, fun j hj => ?_, h.apart⟩
  · rw [List.length_set]
    exact h.row.kept hg (own_sep fun b hb e => hu3 b e hb)
  · have hj' : j < t.length := by rw [List.length_set] at hj; exact hj
    obtain ⟨x, h1, h2, h3⟩ := h.rows j hj'
    by_cases hji : j = i
    · subst hji
      rw [hui] at h1
      cases h1
      refine ⟨u, hui, ?_, hu3⟩
      rw [List.getElem_set_self]
      exact hu'
    · refine ⟨x, h1, ?_, h3⟩
      rw [List.getElem_set_ne (by omega)]
      exact h2.kept hg (own_sep fun b hb e => h.apart i j u x (by omega) hui h1 b e hb)
end Go.Proofs.YtnnfkmjhaljplaaGreat
