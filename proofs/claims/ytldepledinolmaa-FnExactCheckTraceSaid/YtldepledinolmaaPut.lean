/- Contracts of PutVar and of what it calls, in the program and in its model. -/
import Derived.Test.YtldepledinolmaaGEv
import Derived.Test.YtldepledinolmaaGBase
namespace Go.Proofs.Ytldepledinolmaa
open Go.RowKit


/-- At the head of the loop's rounds: what is laid, and what is left of the number. -/
def PutRel (n : Int) (base : Nat) (q v : Value) (wr : World) : Prop :=
  ∃ (xs : List Int) (r : Int), 0 ≤ r ∧ r ≤ n ∧ xs ++ putL r = putL n ∧ q = .int .i64 r ∧ wr.ownsRow base 5 1 v xs.length (xs.map (Value.int .u8))
theorem PutRel.step {n : Int} {base : Nat} {v' : Value} {wr : World} {xs : List Int} {r : Int} (h0 : 128 ≤ r) (hn : r ≤ n) (he : xs ++ putL r = putL n)
    (ho : wr.ownsRow base 5 1 v' (xs.length + 1) (xs.map (Value.int .u8) ++ [.int .u8 (128 + r % 128)])) : PutRel n base (.int .i64 (r / 128)) v' wr :=
  ⟨xs ++ [r % 128 + 128], r / 128, by omega, by omega, by rw [List.append_assoc, ← he, putL_big h0]; rfl, rfl, by rw [Int.add_comm] at ho; simpa using ho⟩
theorem put_short {n r : Int} {xs : List Int} (h0 : 0 ≤ n) (h1 : n ≤ 9223372036854775807) (he : xs ++ putL r = putL n) : xs.length ≤ 8 := by
  have := congrArg List.length he
  have a := putL_len h0 h1
  have b := putL_pos r
  simp at this
  omega

theorem put_last {n r : Int} {base : Nat} {v' : Value} {wr : World} {xs : List Int} (h : r < 128) (he : xs ++ putL r = putL n)
    (ho : wr.ownsRow base 5 1 v' (xs.length + 1) (xs.map (Value.int .u8) ++ [.int .u8 r])) : wr.ownsRow base 5 1 v' (putL n).length ((putL n).map (Value.int .u8)) := by
  rw [putL_small h] at he
  rw [← he]
  simpa using ho
end Go.Proofs.Ytldepledinolmaa
