/- Contracts of SplitLog, in the program and in its model. -/
import Derived.Test.YtifijhfeeammkaaPick
import Derived.Test.YtifijhfeeammkaaGTrS
import Derived.Test.YtifijhfeeammkaaGBase
import Derived.Test.YtifijhfeeammkaaGApp
import Derived.Test.YtifijhfeeammkaaGLine
namespace Go.Proofs.Ytifijhfeeammkaa
open Go.RowKit

/-- A split log of N cores in the call's own memory, its row in block gv. -/
structure SpAt (W : World) (base gv N : Nat) (t : List (List Ev)) (us : List Value) (w : World) : Prop where
  own : OwnT w base (.slice (some ⟨gv, 0, none⟩) N N) t us
  len : t.length = N
  old : Below W.heap.size W w
  lo : W.heap.size ≤ base
section
variable {W w w1 : World} {base gv N i : Nat} {t : List (List Ev)} {us : List Value} {u u' : Value} {es' : List Ev}
theorem SpAt.below (h : SpAt W base gv N t us w) (hb : Below w.heap.size w w1) : SpAt W base gv N t us w1 := ⟨h.own.below hb, h.len, h.old.trans (hb.mono h.old.size), h.lo⟩
theorem SpAt.alloc (h : SpAt W base gv N t us w) (o : Obj) : SpAt W base gv N t us (w.alloc o) := h.below ((Below.refl _ _).alloc (Nat.le_refl _) _)
theorem SpAt.drew (h : SpAt W base gv N t us w) : SpAt W base gv N t us w.drew := h.below (Below.refl _ _).drew
theorem SpAt.hgv (h : SpAt W base gv N t us w) : base ≤ gv ∧ gv < w.heap.size := h.own.row.lt gv rfl
theorem SpAt.at_ (h : SpAt W base gv N t us w) (hi : i < N) (hit : i < t.length) : ∃ a c, us[i]? = some (.slice a t[i].length c) ∧ w.ownsRow base 127 3 (.slice a t[i].length c) t[i].length (evs t[i]) ∧ (∀ b, (Value.slice a t[i].length c).ownBlock = some b → b ≠ gv) ∧ w.cell? ⟨gv, i, none⟩ = some (.slice a t[i].length c) := by
  have hl := h.len
  subst hl
  obtain ⟨u, h1, h2, h3⟩ := h.own.rows i hit
  obtain ⟨a, c, rfl⟩ := own_shape h2
  refine ⟨a, c, h1, h2, fun b hb e => h3 b hb (by rw [e]; rfl), ?_⟩
  rw [h.own.row.cellAt i (by have := h.own.len; omega)]
  exact h1
theorem SpAt.at2 {L : List Ev} (h : SpAt W base gv N t us w) (hui : us[i]? = some u) (hL : t[i]? = some L) : w.ownsRow base 127 3 u L.length (evs L) := by
  obtain ⟨hi, hu, _⟩ := h.own.at_ hui
  rw [List.getElem?_eq_getElem hi, Option.some.injEq] at hL
  rw [← hL]
  exact hu
theorem SpAt.store (h : SpAt W base gv N t us w) (hui : us[i]? = some u) (hg : w.grownBy w1 u.ownBlock) (hu' : w1.ownsRow base 127 3 u' es'.length (evs es')) (hat : u'.ownBlock = u.ownBlock ∨ u'.ownBlock = some w.heap.size) :
    SpAt W base gv N (t.set i es') (us.set i u') (w1.setCell ⟨gv, i, none⟩ u') := by
  have hgv := h.hgv
  have hlo := h.lo
  have hl := h.len
  subst hl
  obtain ⟨hi, hu, hu3⟩ := h.own.at_ hui
  have := h.own.swap (es' := es') hui hg (fun b e => .inl e) hu' (fun b hb => by
    rcases hat with e | e
    · exact .inl (e.symm.trans hb)
    · rw [e] at hb; simp only [Option.some.injEq] at hb; exact .inr (Nat.le_of_eq hb))
  refine ⟨this, by rw [List.length_set], (h.old.trans (grown_below hu hg h.old.size h.lo)).setCell (by simp only; omega) _, h.lo⟩
theorem SpAt.row5 (h : SpAt W base gv N t us w) (hui : us[i]? = some u) (hg : w.grownBy w1 u.ownBlock) : w1.cell? ⟨gv, i, none⟩ = some u ∧ w1.frozen? ⟨gv, i, none⟩ = false := by
  have hl := h.len
  subst hl
  obtain ⟨hi, hu, hu3⟩ := h.own.at_ hui
  have r := h.own.row.kept hg (own_sep fun b hb e => by simp only [Value.ownBlock, Option.some.injEq] at hb; subst hb; exact hu3 _ e rfl)
  refine ⟨?_, r.frozenAt i⟩
  rw [r.cellAt i (by have := h.own.len; omega)]
  exact hui
end
/-- What SplitLog tells. -/
def SlPost (ss : List Stp) (n : Int) (w : World) (e : Ending) (w' : World) : Prop :=
  ∃ A c us, e = .returned (.agg #[.int .i64 (logF ss n), .slice A (slT ss n).length c]) ∧ OwnT w' w.heap.size (.slice A (slT ss n).length c) (slT ss n) us ∧ Below w.heap.size w w'
end Go.Proofs.Ytifijhfeeammkaa
