/- Contracts of the exact laws' own helpers on slices of steps: measured, copied, compared. -/
import Derived.Test.YtldepledinolmaaGreatDoorGEv
import Derived.Test.YtldepledinolmaaGreatDoorGMsi
import Derived.StillTailTactics
namespace Go.Proofs.YtldepledinolmaaGreatDoor
open Go.RowKit

/-- A step as a value: four flat cells. -/
abbrev stV (s : Stp) : Value := .agg #[.int .i64 s.c, .int .i64 s.e.k, .int .i64 s.e.a, .int .i64 s.e.v]
def zeroP : Stp := ⟨0, zeroE⟩
theorem stps_zero : ∀ n : Nat, stps (List.replicate n zeroP) = List.replicate (n * 4) (.int .i64 0)
  | 0 => rfl
  | n + 1 => by
    rw [List.replicate_succ, stps, stps_zero n, show (n + 1) * 4 = n * 4 + 1 + 1 + 1 + 1 by omega, List.replicate_succ, List.replicate_succ, List.replicate_succ, List.replicate_succ]
    rfl
theorem made_step (n : Nat) : (madeCells (Value.agg #[.int .i64 0, .int .i64 0, .int .i64 0, .int .i64 0]).cells (n * 4)).toList = List.replicate (n * 4) (Value.int .i64 0) := by
  apply List.ext_getElem
  · simp [madeCells]
  · intro i h1 h2
    simp only [madeCells, Value.cells, Array.getElem_toList, List.getElem_replicate]
    rcases (show i % 4 = 0 ∨ i % 4 = 1 ∨ i % 4 = 2 ∨ i % 4 = 3 by omega) with h | h | h | h <;> simp [h]
/-- After k rounds of a copy: the first k are there, the rest as it was made. -/
def halfP (ss : List Stp) (k : Nat) : List Value := stps (ss.take k ++ List.replicate (ss.length - k) zeroP)
theorem halfP_zero (ss : List Stp) : halfP ss 0 = List.replicate (ss.length * 4) (Value.int .i64 0) := by simp [halfP, stps_zero]
theorem halfP_all (ss : List Stp) : halfP ss ss.length = stps ss := by simp [halfP]
theorem halfP_length (ss : List Stp) (k : Nat) (hk : k ≤ ss.length) : (halfP ss k).length = ss.length * 4 := by
  unfold halfP
  rw [stps_length, List.length_append, List.length_take, List.length_replicate]
  congr 1
  omega
theorem set4 {α : Type} (p s : List α) (a b c d x y z u : α) (n : Nat) (h : p.length = n) : ((((p ++ a :: b :: c :: d :: s).set n x).set (n + 1) y).set (n + 2) z).set (n + 3) u = p ++ x :: y :: z :: u :: s := by
  subst h
  simp
theorem halfP_set (ss : List Stp) (k : Nat) (hk : k < ss.length) : ((((halfP ss k).set (k * 4) (.int .i64 ss[k].c)).set (k * 4 + 1) (.int .i64 ss[k].e.k)).set (k * 4 + 2) (.int .i64 ss[k].e.a)).set (k * 4 + 3) (.int .i64 ss[k].e.v) = halfP ss (k + 1) := by
  unfold halfP
  rw [show ss.length - k = (ss.length - (k + 1)) + 1 by omega, List.replicate_succ, List.take_succ_eq_append_getElem hk, stps_append, stps_append, stps_append]
  simp only [stps]
  rw [set4 _ _ _ _ _ _ _ _ _ _ _ (by rw [stps_length, List.length_take]; omega)]
  simp

end Go.Proofs.YtldepledinolmaaGreatDoor
