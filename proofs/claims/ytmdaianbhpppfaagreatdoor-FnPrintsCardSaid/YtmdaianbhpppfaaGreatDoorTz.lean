/- strconv.FormatInt in base 16: the library's own text is walked. -/
import Derived.Test.YtmdaianbhpppfaaGreatDoorGTxA
import Derived.Laws.Bits64b
import Derived.Lib.LaidTab
import Derived.ProofKit
import Derived.OpenShut
import Derived.Handy
import Derived.Outline
import Derived.WalkLawsBesides
namespace Go.Proofs.YtmdaianbhpppfaaGreatDoor
open Go.RowKit

/-- The table's one cell that the number 16 leads to. -/
def Db (w : World) : Prop := w.cell? ⟨3, 15, none⟩ = some (.int .u8 4)
theorem Db.lt {w : World} (h : Db w) : 3 < w.heap.size := by
  rcases Nat.lt_or_ge 3 w.heap.size with a | a
  · exact a
  · unfold Db World.cell? at h
    rw [Array.getElem?_eq_none a] at h
    exact absurd h (by simp)
theorem Db.on {w w' : World} (h : Db w) (hb : Below w.heap.size w w') : Db w' := (hb.cell (p := ⟨3, 15, none⟩) h.lt).trans h
set_option maxRecDepth 100000 in
theorem tz64_any (w : World) (h : Db w) : Calls Tryz.prog 101 #[.int .u64 16] w fun e w' => e = .returned (.int .i64 4) ∧ w = w' := by
  unfold Db at h
  have s1 : IntKind.u64.wrap (-16) = 18446744073709551600 := by decide
  have s2 : bits .and .u64 16 18446744073709551600 = 16 := by decide
  have s3 : IntKind.u64.wrap (16 * 285870213051353865) = 4573923408821661840 := by decide
  go_enter Tryz.func101, Tryz.ntmps101
  go_wp2
  go_ret
  exact ⟨rfl, rfl⟩
set_option maxRecDepth 100000 in
theorem tz_any (w : World) (h : Db w) : Calls Tryz.prog 94 #[.int .u64 16] w fun e w' => e = .returned (.int .i64 4) ∧ w = w' := by
  have hC := fun w h => tz64_any w h
  go_enter Tryz.func94, Tryz.ntmps94
  go_wp2_with (go_at_call 101; refine (hC _ h).mono ?_; rintro e w' ⟨rfl, rfl⟩)
  go_ret
  exact ⟨rfl, rfl⟩
set_option maxRecDepth 100000 in
theorem two_any (w : World) : Calls Tryz.prog 93 #[.int .i64 16] w fun e w' => e = .returned (.bool true) ∧ w = w' := by
  have s2 : bits .and .i64 16 15 = 0 := by decide
  go_enter Tryz.func93, Tryz.ntmps93
  go_wp2
  go_ret
  exact ⟨rfl, rfl⟩
end Go.Proofs.YtmdaianbhpppfaaGreatDoor
