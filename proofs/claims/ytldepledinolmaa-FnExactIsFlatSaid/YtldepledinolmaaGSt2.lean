/- Contracts of the exact laws' own helpers on slices of steps: marked, held; and on answers with a log. -/
import Derived.Test.YtldepledinolmaaGStp
namespace Go.Proofs.Ytldepledinolmaa
open Go.RowKit

/-- The marks that are laid from k on. -/
def mkP (k n : Nat) : List Stp := (List.range n).map fun i => ⟨((k + i * 4 : Nat) : Int), ((k + i * 4 + 1 : Nat) : Int), ((k + i * 4 + 2 : Nat) : Int), ((k + i * 4 + 3 : Nat) : Int)⟩
theorem mkP_length (k n : Nat) : (mkP k n).length = n := by simp [mkP]
theorem mkP_succ (k n : Nat) : mkP k (n + 1) = mkP k n ++ [⟨((k + n * 4 : Nat) : Int), ((k + n * 4 + 1 : Nat) : Int), ((k + n * 4 + 2 : Nat) : Int), ((k + n * 4 + 3 : Nat) : Int)⟩] := by simp [mkP, List.range_succ]
/-- After j rounds of marking. -/
def markedP (xs : List Value) (k j : Nat) : List Value := stps (mkP k j) ++ xs.drop (j * 4)
theorem markedP_zero (xs : List Value) (k : Nat) : markedP xs k 0 = xs := by simp [markedP, mkP, stps]
theorem markedP_all (xs : List Value) (k n : Nat) (h : xs.length = n * 4) : markedP xs k n = stps (mkP k n) := by
  unfold markedP
  rw [List.drop_eq_nil_of_le (by omega), List.append_nil]
theorem markedP_set (xs : List Value) (k j n : Nat) (h : xs.length = n * 4) (hj : j < n) :
    ((((markedP xs k j).set (j * 4) (.int .i64 ((k + j * 4 : Nat) : Int))).set (j * 4 + 1) (.int .i64 ((k + j * 4 + 1 : Nat) : Int))).set (j * 4 + 2) (.int .i64 ((k + j * 4 + 2 : Nat) : Int))).set (j * 4 + 3) (.int .i64 ((k + j * 4 + 3 : Nat) : Int)) = markedP xs k (j + 1) := by
  unfold markedP
  rw [List.drop_eq_getElem_cons (by omega), List.drop_eq_getElem_cons (by omega), List.drop_eq_getElem_cons (by omega), List.drop_eq_getElem_cons (by omega)]
  rw [set4 _ _ _ _ _ _ _ _ _ _ _ (by rw [stps_length, mkP_length]), mkP_succ, stps_append]
  simp only [stps, List.append_assoc, List.cons_append, List.nil_append]
  rw [show (j + 1) * 4 = j * 4 + 1 + 1 + 1 + 1 by omega]

end Go.Proofs.Ytldepledinolmaa
