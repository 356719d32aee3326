/- Contracts of ReadVar and of what it calls, in the program and in its model. The contract of the model's reading of a number. -/
import Derived.Test.YtldepledinolmaaGEv
import Derived.Test.YtldepledinolmaaGBase
import Derived.Test.YtldepledinolmaaPut
import Derived.Test.YtldepledinolmaaSame
import Derived.Deep.RegionWith
import Derived.IntWalk
namespace Go.Proofs.Ytldepledinolmaa
open Go.RowKit

end Go.Proofs.Ytldepledinolmaa
namespace Go.Proofs.Ytldepledinolmaa
open Go.RowKit

end Go.Proofs.Ytldepledinolmaa
