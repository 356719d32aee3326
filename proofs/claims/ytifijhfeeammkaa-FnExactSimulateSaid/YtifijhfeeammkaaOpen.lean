/- Arguments that are slices of events, and slices of these, opened to what they read as. -/
import Derived.Test.YtifijhfeeammkaaChecked
import Derived.Test.YtifijhfeeammkaaGBase
import Derived.Deep.Slices
import Derived.Deep.Fields
import Derived.ProofKit
namespace Go.Proofs.Ytifijhfeeammkaa
open Go.RowKit Go.Deep Go.ChangeShapes Go.WideShapes
set_option maxRecDepth 100000

section
variable {H : Type} {enc : TypeId × Value → H} {w : World} {base : Nat} {spare : Nat → Bool} {held : Bool}
instance : Inhabited Ev := ⟨⟨0, 0, 0⟩⟩

theorem cells_int64 : Try.prog.cellsOf 2 = 1 := by kernel_rfl
theorem one_int {fuel : Nat} {v : Value} {x : DataW H × List MemPlace} (h : DataW.trod enc Try.prog w base spare held fuel 2 [v] = some x) : ∃ n, v = .int .i64 n ∧ I64 n := by
  obtain ⟨n, hv, _, hw⟩ := DataW.trod_int Try.underlying2 h
  have hb := bounds_i64 hw
  have h1 : v = .int .i64 n := List.head_eq_of_cons_eq hv
  exact ⟨n, h1, hb⟩
theorem list3 {α : Type} {l : List α} (h : l.length = 3) : ∃ a b c, l = [a, b, c] := by
  match l, h with
  | [a, b, c], _ => exact ⟨a, b, c, rfl⟩
/-- A slice of slices of events that came in. -/
def OkT (t : List (List Ev)) : Prop := ∀ l ∈ t, OkE l
end
end Go.Proofs.Ytifijhfeeammkaa
