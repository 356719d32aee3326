/- The row's closed facts about the program, computed once. -/
import Derived.Test.YtnnfkmjhaljplaaGreatDoorRows
import Derived.JoinedOf
import Derived.ProofKit
import Derived.WalkKit
namespace Go.Proofs.YtnnfkmjhaljplaaGreatDoor
theorem closedCF : joinedFacts Tryz.pinned.checked.prog 5 Tryz.f5 Rows.fnExactCheckFileSpec Rows.fnExactCheckFileRow = true := by
  kernel_rfl
end Go.Proofs.YtnnfkmjhaljplaaGreatDoor
