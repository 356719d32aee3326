/- The contract of the model's MergeTrace. -/
import Derived.Test.YtifijhfeeammkaaOrd
import Derived.Test.YtifijhfeeammkaaMergeI
import Derived.Test.YtifijhfeeammkaaGHeld
namespace Go.Proofs.Ytifijhfeeammkaa
open Go.RowKit

theorem ord_at {t : List (List Ev)} {O : List Int} (hok : okO t O) {k : Nat} (hk : k < O.length) : ∃ j : Nat, ∃ hj : j < t.length, O[k] = (j : Int) ∧ cntO (O.take k) (j : Int) < t[j].length := by
  have h1 := hok O[k]
  have h2 := cntO_mem (List.getElem_mem hk)
  have h3 := lenT_in (t := t) (p := O[k]) (by omega)
  obtain ⟨j, hj⟩ := Int.eq_ofNat_of_zero_le h3.1
  have hjt : j < t.length := by omega
  refine ⟨j, hjt, hj, ?_⟩
  rw [hj, lenT_at t j hjt] at h1
  have e2 : cntO O (j : Int) = cntO (O.take k) (j : Int) + cntO (O.drop k) (j : Int) := by rw [← cntO_append, List.take_append_drop]
  have e3 : 0 < cntO (O.drop k) (j : Int) := by
    rw [List.drop_eq_getElem_cons hk, cntO, if_pos hj]
    omega
  omega
/-- How far each core is. -/
def atR (n : Nat) (O : List Int) : List Value := (List.range n).map fun j : Nat => Value.int .i64 ((cntO O (j : Int) : Nat) : Int)
theorem atR_length (n : Nat) (O : List Int) : (atR n O).length = n := by simp [atR]
theorem atR_get (n : Nat) (O : List Int) (i : Nat) (h : i < n) : (atR n O)[i]? = some (.int .i64 ((cntO O (i : Int) : Nat) : Int)) := by simp [atR, h]
theorem atR_nil (n : Nat) : atR n [] = List.replicate n (Value.int .i64 0) := by
  apply List.ext_getElem
  · simp [atR]
  · intro i h1 h2
    simp [atR, cntO]
theorem atR_set (n : Nat) (O : List Int) (i : Nat) : (atR n O).set i (.int .i64 (((cntO O (i : Int) : Nat) : Int) + 1)) = atR n (O ++ [(i : Int)]) := by
  apply List.ext_getElem
  · simp [atR]
  · intro j h1 h2
    by_cases hij : i = j
    · subst hij
      rw [List.getElem_set_self]
      simp only [atR, List.getElem_map, List.getElem_range, Value.int.injEq, true_and]
      rw [cntO_snoc, if_pos rfl]
      omega
    · rw [List.getElem_set_ne hij]
      simp only [atR, List.getElem_map, List.getElem_range, Value.int.injEq, true_and]
      rw [cntO_snoc, if_neg (by omega), Nat.add_zero]
/-- Where the model's merging stands. -/
structure MsS (w3 : World) (gat q N : Nat) (t : List (List Ev)) (O1 O2 : List Int) (v : Value) (w : World) : Prop where
  box : Bk w q #[.int .i64 0, v] 138
  row : w.ownsRow (q + 1) 143 4 v O1.length (stps (logO t O1))
  at_ : w.ownsRow gat 2 1 (.slice (some ⟨gat, 0, none⟩) N N) N (atR N O2)
  old : Below gat w3 w
  gq : gat < q
  top : q + 1 ≤ w.heap.size
section
variable {w3 w w' w5 : World} {gat q N : Nat} {t : List (List Ev)} {O O1 O2 : List Int} {v v5 : Value} {p : Int}
theorem MsS.alloc (h : MsS w3 gat q N t O1 O2 v w) (ob : Obj) : MsS w3 gat q N t O1 O2 v (w.alloc ob) := ⟨h.box.alloc ob, h.row.alloc ob, h.at_.alloc ob, h.old.alloc (by have := h.top; have := h.gq; omega) ob, h.gq, by have := h.top; simp; omega⟩
theorem MsS.drew (h : MsS w3 gat q N t O1 O2 v w) : MsS w3 gat q N t O1 O2 v w.drew := ⟨h.box, own_below h.row (Below.refl _ _).drew (Nat.le_refl _), own_below h.at_ (Below.refl _ _).drew (Nat.le_refl _), h.old.trans ((Below.refl _ _).drew), h.gq, h.top⟩
theorem MsS.acell (h : MsS w3 gat q N t O1 O2 v w) (i : Nat) (hi : i < N) : w.cell? ⟨gat, i, none⟩ = some (.int .i64 ((cntO O2 (i : Int) : Nat) : Int)) := by
  rw [h.at_.cellAt i (by omega)]
  exact atR_get N O2 i hi
/-- Behind the append: what lies; behind the store: where it stands. -/
theorem MsS.step (h : MsS w3 gat q N t O O2 v w) (i : Nat) (hi : i < N) (ho : w5.ownsRow (q + 1) 143 4 v5 (O.length + 1) (stps (logO t O) ++ stps [⟨p, evAtO t p (cntO O p)⟩])) (hg : w.grownBy w5 v.ownBlock) :
    (Below gat w3 w5 ∧ w5.cell? ⟨gat, i, none⟩ = w.cell? ⟨gat, i, none⟩ ∧ w5.cell? ⟨q, 1, none⟩ = some v ∧ w5.frozen? ⟨q, 1, none⟩ = false) ∧ MsS w3 gat q N t (O ++ [p]) O2 v5 (w5.setCell ⟨q, 1, none⟩ v5) := by
  have hgq := h.gq
  have htop := h.top
  have hbx := h.box.grown hg (own_apart h.row q (.inl (Nat.lt_succ_self q)))
  have hat := h.at_.kept hg (own_sep fun b hb e => by simp only [Value.ownBlock, Option.some.injEq] at hb; have := h.row.lt b e; omega)
  have b5 : Below gat w3 w5 := h.old.trans (grown_below h.row hg (by omega) (by omega))
  refine ⟨⟨b5, by rw [hat.cellAt i (by omega), h.at_.cellAt i (by omega)], (hbx.cell 1).trans rfl, hbx.frozen 1⟩, ?_, ?_, ?_, b5.setCell (by simp only; omega) _, hgq, ?_⟩
  · have := hbx.set_ 1 v5
    exact this
  · rw [logO_snoc, stps_append, List.length_append, List.length_singleton]
    exact ownsRow_setCell_below ho (a := ⟨q, 1, none⟩) (Nat.lt_succ_self q) v5
  · exact hat.kept (grown_set w5 q 1 v5) (own_sep fun b hb e => by simp only [Value.ownBlock, Option.some.injEq] at hb e; omega)
  · have := hg.size
    simp
    omega
/-- Behind the core's own step. -/
theorem MsS.next (h : MsS w3 gat q N t O1 O v w) (i : Nat) : MsS w3 gat q N t O1 (O ++ [(i : Int)]) v (w.setCell ⟨gat, i, none⟩ (.int .i64 (((cntO O (i : Int) : Nat) : Int) + 1))) := by
  have hgq := h.gq
  have h1 := (h.at_.stored i (.int .i64 (((cntO O (i : Int) : Nat) : Int) + 1))).1
  rw [atR_set] at h1
  exact ⟨h.box.far (p := ⟨gat, i, none⟩) (by simp only; omega) _, ownsRow_setCell_below h.row (a := ⟨gat, i, none⟩) (by simp only; omega) _, h1, h.old.setCell (Nat.le_refl _) _, hgq, by simpa using h.top⟩
end

end Go.Proofs.Ytifijhfeeammkaa
