/- The bent traces' contract, as the walk asks it. -/
import Derived.Test.YtjdbakebcdkfcaaBent
import Derived.Test.YtjdbakebcdkfcaaLSteps
namespace Go.Proofs.Ytjdbakebcdkfcaa
open Go.RowKit
theorem bentOk : BentOk := fun g k A c l w hS hk => l2Bent_any g k A c l w hS hk
end Go.Proofs.Ytjdbakebcdkfcaa
