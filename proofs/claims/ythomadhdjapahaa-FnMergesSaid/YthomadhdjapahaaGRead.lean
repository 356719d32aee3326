/- Contracts of ReadVar and of what it calls, in the program and in its model. The contract of the model's reading of a number. -/
import Derived.Test.YthomadhdjapahaaGEv
import Derived.Test.YthomadhdjapahaaGBase
import Derived.Test.YthomadhdjapahaaPut
import Derived.Test.YthomadhdjapahaaSame
import Derived.Deep.RegionWith
import Derived.IntWalk
namespace Go.Proofs.Ythomadhdjapahaa
open Go.RowKit

end Go.Proofs.Ythomadhdjapahaa
namespace Go.Proofs.Ythomadhdjapahaa
open Go.RowKit

end Go.Proofs.Ythomadhdjapahaa
