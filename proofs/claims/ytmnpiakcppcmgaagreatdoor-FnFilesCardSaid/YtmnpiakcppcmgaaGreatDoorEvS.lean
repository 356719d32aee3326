/- Contracts of the exact laws' own helpers on slices of events: measured, copied, compared. -/
import Derived.Test.YtmnpiakcppcmgaaGreatDoorEv
import Derived.Test.YtmnpiakcppcmgaaGreatDoorBytes
import Derived.StillTailTactics
namespace Go.Proofs.YtmnpiakcppcmgaaGreatDoor
open Go.RowKit

theorem info_event : (Tryz.prog.info? 50).map (fun i => (i.zero, i.size, i.bytes)) = some (some (.agg #[.int .i64 0, .int .i64 0, .int .i64 0]), 3, 24) := by kernel_rfl

def zeroE : Ev := ⟨0, 0, 0⟩
theorem evs_zero : ∀ n : Nat, evs (List.replicate n zeroE) = List.replicate (n * 3) (.int .i64 0)
  | 0 => rfl
  | n + 1 => by
    rw [List.replicate_succ, evs, evs_zero n, show (n + 1) * 3 = n * 3 + 1 + 1 + 1 by omega, List.replicate_succ, List.replicate_succ, List.replicate_succ]
    rfl
theorem made_event (n : Nat) : (madeCells (Value.agg #[.int .i64 0, .int .i64 0, .int .i64 0]).cells (n * 3)).toList = List.replicate (n * 3) (Value.int .i64 0) := by
  apply List.ext_getElem
  · simp [madeCells]
  · intro i h1 h2
    simp only [madeCells, Value.cells, Array.getElem_toList, List.getElem_replicate]
    rcases (show i % 3 = 0 ∨ i % 3 = 1 ∨ i % 3 = 2 by omega) with h | h | h <;> simp [h]
/-- After k rounds of a copy: the first k are there, the rest as it was made. -/
def halfE (es : List Ev) (k : Nat) : List Value := evs (es.take k ++ List.replicate (es.length - k) zeroE)
theorem halfE_zero (es : List Ev) : halfE es 0 = List.replicate (es.length * 3) (Value.int .i64 0) := by simp [halfE, evs_zero]
theorem halfE_all (es : List Ev) : halfE es es.length = evs es := by simp [halfE]
theorem halfE_length (es : List Ev) (k : Nat) (hk : k ≤ es.length) : (halfE es k).length = es.length * 3 := by
  unfold halfE
  rw [evs_length, List.length_append, List.length_take, List.length_replicate]
  congr 1
  omega
theorem set3 {α : Type} (p s : List α) (a b c x y z : α) (n : Nat) (h : p.length = n) : (((p ++ a :: b :: c :: s).set n x).set (n + 1) y).set (n + 2) z = p ++ x :: y :: z :: s := by
  subst h
  simp
theorem halfE_set (es : List Ev) (k : Nat) (hk : k < es.length) : (((halfE es k).set (k * 3) (.int .i64 es[k].k)).set (k * 3 + 1) (.int .i64 es[k].a)).set (k * 3 + 2) (.int .i64 es[k].v) = halfE es (k + 1) := by
  unfold halfE
  rw [show es.length - k = (es.length - (k + 1)) + 1 by omega, List.replicate_succ, List.take_succ_eq_append_getElem hk, evs_append, evs_append, evs_append]
  simp only [evs]
  rw [set3 _ _ _ _ _ _ _ _ _ (by rw [evs_length, List.length_take]; omega)]
  simp

end Go.Proofs.YtmnpiakcppcmgaaGreatDoor
