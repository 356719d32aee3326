/- Contracts of the program's UnpackSteps. The contract of the program's reading of one event. -/
import Derived.Test.YtldepledinolmaaUnpS
import Derived.Test.YtldepledinolmaaGEv
import Derived.OneCell
import Derived.Deep.RegionHeld3
import Derived.Deep.DeepCutAuto
import Derived.Test.YtldepledinolmaaGRead
import Derived.Deep.RegionWith
namespace Go.Proofs.Ytldepledinolmaa
open Go.RowKit

end Go.Proofs.Ytldepledinolmaa
namespace Go.Proofs.Ytldepledinolmaa
open Go.RowKit

theorem Bk.drew_ {w : World} {g : Nat} {cs : Array Value} {t : TypeId} (h : Bk w g cs t) : Bk w.drew g cs t := h
theorem grown_of_below {w w' : World} (row : Option Nat) (hb : Below w.heap.size w w') : w.grownBy w' row := ⟨hb.os, hb.tape, hb.output, hb.size, fun k hk _ => hb.block k hk⟩
theorem grown_new {w w1 : World} {row : Option Nat} {p : Addr} (hp : w.heap.size ≤ p.block) (v : Value) (h : w.grownBy w1 row) : w.grownBy (w1.setCell p v) row :=
  ⟨h.os, h.tape, h.output, by simpa using h.size, fun k hk hne => (Below.heap_setCell w1 p v k (by omega)).trans (h.block k hk hne)⟩
end Go.Proofs.Ytldepledinolmaa
