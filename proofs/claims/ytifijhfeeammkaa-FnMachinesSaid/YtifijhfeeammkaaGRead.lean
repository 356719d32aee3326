/- Contracts of ReadVar and of what it calls, in the program and in its model. The contract of the model's reading of a number. -/
import Derived.Test.YtifijhfeeammkaaGEv
import Derived.Test.YtifijhfeeammkaaGBase
import Derived.Test.YtifijhfeeammkaaPut
import Derived.Test.YtifijhfeeammkaaSame
import Derived.Deep.RegionWith
import Derived.IntWalk
namespace Go.Proofs.Ytifijhfeeammkaa
open Go.RowKit

end Go.Proofs.Ytifijhfeeammkaa
namespace Go.Proofs.Ytifijhfeeammkaa
open Go.RowKit

end Go.Proofs.Ytifijhfeeammkaa
