/- Contracts of ReadVar and of what it calls, in the program and in its model. The contract of the model's reading of a number. -/
import Derived.Test.YtmdaianbhpppfaaGreatDoorGEv
import Derived.Test.YtmdaianbhpppfaaGreatDoorGBase
import Derived.Test.YtmdaianbhpppfaaGreatDoorPut
import Derived.Test.YtmdaianbhpppfaaGreatDoorSame
import Derived.Deep.RegionWith
import Derived.IntWalk
namespace Go.Proofs.YtmdaianbhpppfaaGreatDoor
open Go.RowKit

end Go.Proofs.YtmdaianbhpppfaaGreatDoor
namespace Go.Proofs.YtmdaianbhpppfaaGreatDoor
open Go.RowKit

end Go.Proofs.YtmdaianbhpppfaaGreatDoor
