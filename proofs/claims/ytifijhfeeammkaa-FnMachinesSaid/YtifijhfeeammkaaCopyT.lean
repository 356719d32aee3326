/- Contracts of the model's copy of a trace, and of the draw of two traces that are the same, or not. -/
import Derived.Test.YtifijhfeeammkaaDrawSame
namespace Go.Proofs.Ytifijhfeeammkaa
open Go.RowKit

/-- A copy, each row new. -/
def CopyPost (t : List (List Ev)) (w : World) (e : Ending) (w' : World) : Prop := ∃ (us : List Value) (D : Option Addr) (d : Nat), e = .returned (.slice D t.length d) ∧ OwnT w' w.heap.size (.slice D t.length d) t us ∧ Below w.heap.size w w'

end Go.Proofs.Ytifijhfeeammkaa
