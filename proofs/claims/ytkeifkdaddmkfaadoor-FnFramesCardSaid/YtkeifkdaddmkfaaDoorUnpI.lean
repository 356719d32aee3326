/- Contracts of the program's UnpackSteps. -/
import Derived.Test.YtkeifkdaddmkfaaDoorUnpS
import Derived.Test.YtkeifkdaddmkfaaDoorZig
import Derived.OneCell
import Derived.Deep.RegionHeld3
import Derived.Deep.DeepCutAuto
namespace Go.Proofs.YtkeifkdaddmkfaaDoor
open Go.RowKit

theorem sums_any (w : World) :
    Calls Tryd.prog 86 #[] w fun e w' => e = .returned (.func (.func 90) #[] #[.pointer (some ⟨w.heap.size, 0, none⟩)]) ∧ w' = w.alloc (.cells #[.int .i64 0] 2) := by
  go_enter Tryd.func86, Tryd.ntmps86
  go_wp2
  go_ret
  exact ⟨rfl, rfl⟩

/-- The closure: the address that is as far from the one ahead of it. -/
theorem sum_any (n p : Int) (g : Nat) (w : World) (hn : -1000000000000 ≤ n ∧ n ≤ 1000000000000) (hp : -1000000000 ≤ p ∧ p ≤ 1000000000) (hg : Bk w g #[.int .i64 p] 2) :
    Calls Tryd.prog 90 #[.int .i64 n, .pointer (some ⟨g, 0, none⟩)] w fun e w' => e = .returned (.int .i64 (p + n)) ∧ w' = w.setCell ⟨g, 0, none⟩ (.int .i64 (p + n)) := by
  have hc : w.cell? ⟨g, 0, none⟩ = some (.int .i64 p) := by rw [hg.cell 0]; rfl
  have hf := hg.frozen 0
  go_enter Tryd.func90, Tryd.ntmps90
  go_wp2
  go_ret
  exact ⟨rfl, rfl⟩
end Go.Proofs.YtkeifkdaddmkfaaDoor
