/- The contract of the model's LogFault. -/
import Derived.Test.YtifijhfeeammkaaLogF
namespace Go.Proofs.Ytifijhfeeammkaa
open Go.RowKit

/-- The counts of the cores, as the model keeps them. -/
def cntR (N : Nat) (ss : List Stp) : List Value := (List.range N).map fun j : Nat => Value.int .i64 (cntL ss (j : Int) : Nat)
theorem cntR_length (N : Nat) (ss : List Stp) : (cntR N ss).length = N := by simp [cntR]
theorem cntR_get (N : Nat) (ss : List Stp) (i : Nat) (h : i < N) : (cntR N ss)[i]? = some (.int .i64 (cntL ss (i : Int) : Nat)) := by simp [cntR, h]
theorem cntR_nil (N : Nat) : cntR N [] = List.replicate N (Value.int .i64 0) := by
  apply List.ext_getElem
  · simp [cntR]
  · intro i h1 h2
    simp [cntR, cntL]
theorem cntR_set (N : Nat) (ss : List Stp) (s : Stp) (i : Nat) (hi : s.c = (i : Int)) : (cntR N ss).set i (.int .i64 ((cntL ss (i : Int) : Nat) + 1 : Int)) = cntR N (ss ++ [s]) := by
  apply List.ext_getElem
  · simp [cntR]
  · intro j h1 h2
    by_cases hij : i = j
    · subst hij
      rw [List.getElem_set_self]
      simp [cntR, cntL_hit ss s i hi]
    · rw [List.getElem_set_ne hij]
      simp [cntR, cntL_miss ss s j (by omega)]

end Go.Proofs.Ytifijhfeeammkaa
