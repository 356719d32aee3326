/- Contracts of the exact laws' own helpers on slices of slices of events: measured, copied, compared. -/
import Derived.Test.YtifijhfeeammkaaGEv
import Derived.Test.YtifijhfeeammkaaGBase
namespace Go.Proofs.Ytifijhfeeammkaa
open Go.RowKit

theorem info_events : (Try.prog.info? 189).map (fun i => (i.zero, i.size, i.bytes)) = some (some (.slice none 0 0), 1, 24) := by kernel_rfl

/-- A result of at most minus one, or whatever. -/
def Neg1 (w : World) (e : Ending) (w' : World) : Prop := e = .returned (.int .i64 (-1)) ∧ w = w'
/-- After k rounds of a copy. -/
def HalfT (w wr : World) (t : List (List Ev)) (k : Nat) (vs : List Value) : Prop :=
  ∀ i, i < k → (h : i < t.length) → ∃ a c, vs[i]? = some (.slice a t[i].length c) ∧ t[i].length ≤ c ∧ c ≤ maxLen ∧ RdE wr wr.heap.size a t[i] ∧ ∀ x, a = some x → w.heap.size < x.block
end Go.Proofs.Ytifijhfeeammkaa
