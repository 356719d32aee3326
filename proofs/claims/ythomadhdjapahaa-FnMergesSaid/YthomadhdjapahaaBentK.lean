/- The bent traces' contract, as the walks ask it. -/
import Derived.Test.YthomadhdjapahaaBent
namespace Go.Proofs.Ythomadhdjapahaa
open Go.RowKit
theorem bentK : BentOk := fun g k A c l w hS hk => l2Bent_any g k A c l w hS hk
end Go.Proofs.Ythomadhdjapahaa
