/- Contracts of the exact laws' own helpers on slices of events: marked, held; and on answers with events. -/
import Derived.Test.YtnnfkmjhaljplaaGEv
namespace Go.Proofs.Ytnnfkmjhaljplaa
open Go.RowKit

/-- The marks that are laid from k on. -/
def mkE (k n : Nat) : List Ev := (List.range n).map fun i => ⟨((k + i * 3 : Nat) : Int), ((k + i * 3 + 1 : Nat) : Int), ((k + i * 3 + 2 : Nat) : Int)⟩
theorem mkE_length (k n : Nat) : (mkE k n).length = n := by simp [mkE]
theorem mkE_succ (k n : Nat) : mkE k (n + 1) = mkE k n ++ [⟨((k + n * 3 : Nat) : Int), ((k + n * 3 + 1 : Nat) : Int), ((k + n * 3 + 2 : Nat) : Int)⟩] := by simp [mkE, List.range_succ]
/-- After j rounds of marking. -/
def markedE (xs : List Value) (k j : Nat) : List Value := evs (mkE k j) ++ xs.drop (j * 3)
theorem markedE_zero (xs : List Value) (k : Nat) : markedE xs k 0 = xs := by simp [markedE, mkE, evs]
theorem markedE_all (xs : List Value) (k n : Nat) (h : xs.length = n * 3) : markedE xs k n = evs (mkE k n) := by
  unfold markedE
  rw [List.drop_eq_nil_of_le (by omega), List.append_nil]
theorem markedE_set (xs : List Value) (k j n : Nat) (h : xs.length = n * 3) (hj : j < n) :
    (((markedE xs k j).set (j * 3) (.int .i64 ((k + j * 3 : Nat) : Int))).set (j * 3 + 1) (.int .i64 ((k + j * 3 + 1 : Nat) : Int))).set (j * 3 + 2) (.int .i64 ((k + j * 3 + 2 : Nat) : Int)) = markedE xs k (j + 1) := by
  unfold markedE
  rw [List.drop_eq_getElem_cons (by omega), List.drop_eq_getElem_cons (by omega), List.drop_eq_getElem_cons (by omega)]
  rw [set3 _ _ _ _ _ _ _ _ _ (by rw [evs_length, mkE_length]), mkE_succ, evs_append]
  simp only [evs, List.append_assoc, List.cons_append, List.nil_append]
  rw [show (j + 1) * 3 = j * 3 + 1 + 1 + 1 by omega]

end Go.Proofs.Ytnnfkmjhaljplaa
