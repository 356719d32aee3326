/- strconv.FormatInt in base 16: the library's own text is walked. -/
import Derived.Test.YtmdaianbhpppfaaDoorTx4
import Derived.Laws.Bits64b
import Derived.Lib.LaidTab
import Derived.ProofKit
import Derived.OpenShut
import Derived.Handy
import Derived.Outline
import Derived.WalkLawsBesides
namespace Go.Proofs.YtmdaianbhpppfaaDoor
open Go.RowKit

/-- The table's one cell that the number 16 leads to. -/
def Db (w : World) : Prop := w.cell? ⟨2, 15, none⟩ = some (.int .u8 4)
theorem Db.lt {w : World} (h : Db w) : 2 < w.heap.size := by
  rcases Nat.lt_or_ge 2 w.heap.size with a | a
  · exact a
  · unfold Db World.cell? at h
    rw [Array.getElem?_eq_none a] at h
    exact absurd h (by simp)
theorem Db.on {w w' : World} (h : Db w) (hb : Below w.heap.size w w') : Db w' := (hb.cell (p := ⟨2, 15, none⟩) h.lt).trans h
set_option maxRecDepth 100000 in
theorem tz64_any (w : World) (h : Db w) : Calls Tryd.prog 86 #[.int .u64 16] w fun e w' => e = .returned (.int .i64 4) ∧ w = w' := by
  unfold Db at h
  have s1 : IntKind.u64.wrap (-16) = 18446744073709551600 := by decide
  have s2 : bits .and .u64 16 18446744073709551600 = 16 := by decide
  have s3 : IntKind.u64.wrap (16 * 285870213051353865) = 4573923408821661840 := by decide
  go_enter Tryd.func86, Tryd.ntmps86
  go_wp2
  go_ret
  exact ⟨rfl, rfl⟩
set_option maxRecDepth 100000 in
theorem tz_any (w : World) (h : Db w) : Calls Tryd.prog 76 #[.int .u64 16] w fun e w' => e = .returned (.int .i64 4) ∧ w = w' := by
  have hC := fun w h => tz64_any w h
  go_enter Tryd.func76, Tryd.ntmps76
  go_wp2_with (go_at_call 86; refine (hC _ h).mono ?_; rintro e w' ⟨rfl, rfl⟩)
  go_ret
  exact ⟨rfl, rfl⟩
set_option maxRecDepth 100000 in
theorem two_any (w : World) : Calls Tryd.prog 75 #[.int .i64 16] w fun e w' => e = .returned (.bool true) ∧ w = w' := by
  have s2 : bits .and .i64 16 15 = 0 := by decide
  go_enter Tryd.func75, Tryd.ntmps75
  go_wp2
  go_ret
  exact ⟨rfl, rfl⟩
end Go.Proofs.YtmdaianbhpppfaaDoor
