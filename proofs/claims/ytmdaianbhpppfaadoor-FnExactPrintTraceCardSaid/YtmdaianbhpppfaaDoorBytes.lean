/- Contracts of the exact laws' own helpers on byte rows: copied, compared. -/
import Derived.Test.YtmdaianbhpppfaaDoorChecked
import Derived.Test.YtmdaianbhpppfaaDoorBase
import Derived.ProofKit
import Derived.OpenShut
import Derived.Handy
import Derived.Outline
import Derived.BigQuiet
import Derived.Deep.QuietTactic
import Derived.WalkLawsBesides
import Derived.WalkSmall
import Derived.OwnWalk
namespace Go.Proofs.YtmdaianbhpppfaaDoor
open Go.RowKit

theorem info_u8 : (Tryd.prog.info? 5).map (fun i => (i.zero, i.size, i.bytes)) = some (some (.int .u8 0), 1, 1) := by kernel_rfl

theorem set_append {α : Type} (p s : List α) (x y : α) : (p ++ y :: s).set p.length x = p ++ x :: s := by simp

/-- After k rounds of a copy: the first k are there, the rest as it was made. -/
def half (l : List Int) (k : Nat) : List Value := (l.take k).map (Value.int .u8) ++ List.replicate (l.length - k) (Value.int .u8 0)
theorem half_zero (l : List Int) : half l 0 = List.replicate l.length (Value.int .u8 0) := by simp [half]
theorem half_all (l : List Int) : half l l.length = l.map (Value.int .u8) := by simp [half]
theorem half_set (l : List Int) (k : Nat) (hk : k < l.length) : (half l k).set k (.int .u8 l[k]) = half l (k + 1) := by
  unfold half
  rw [show l.length - k = (l.length - (k + 1)) + 1 by omega, List.replicate_succ, List.take_succ_eq_append_getElem hk, List.map_append]
  have e : k = ((l.take k).map (Value.int IntKind.u8)).length := by simp; omega
  conv => lhs; arg 2; rw [e]
  rw [set_append]
  simp
theorem made_u8 (n : Nat) : (madeCells (Value.int .u8 0).cells (n * 1)).toList = List.replicate n (Value.int .u8 0) := by
  apply List.ext_getElem
  · simp [madeCells]
  · intro i h1 h2
    simp [madeCells, Value.cells, Nat.mod_one]

end Go.Proofs.YtmdaianbhpppfaaDoor
