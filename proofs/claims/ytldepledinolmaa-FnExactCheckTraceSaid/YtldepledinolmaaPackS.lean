/- Contracts of the model's packing of steps. -/
import Derived.Test.YtldepledinolmaaGEv
import Derived.Test.YtldepledinolmaaPut
import Derived.Test.YtldepledinolmaaGApp
import Derived.Deep.RegionWith
import Derived.Deep.RegionHeld3
import Derived.IntWalk
import Derived.Deep.DeepCutAuto
namespace Go.Proofs.Ytldepledinolmaa
open Go.RowKit

/-- A row of bytes of the call's own, and all that was there is as it was. -/
def OwnB (W : World) (xs : List Int) (v : Value) (w : World) : Prop := w.ownsRow W.heap.size 5 1 v xs.length (xs.map (Value.int .u8)) ∧ Below W.heap.size W w
theorem OwnB.more {W w w' : World} {xs l : List Int} {v v' : Value} (h : OwnB W xs v w) (ho : w'.ownsRow W.heap.size 5 1 v' (xs.length + l.length) (xs.map (Value.int .u8) ++ l.map (Value.int .u8))) (hg : w.grownBy w' v.ownBlock) : OwnB W (xs ++ l) v' w' :=
  ⟨by rw [List.length_append, List.map_append]; exact ho, h.2.trans (grown_below h.1 hg h.2.size (Nat.le_refl _))⟩
theorem OwnB.below {W w w' : World} {xs : List Int} {v : Value} (h : OwnB W xs v w) (hb : Below w.heap.size w w') : OwnB W xs v w' :=
  ⟨own_below h.1 hb (Nat.le_refl _), h.2.trans (hb.mono h.2.size)⟩
theorem OwnB.drew {W w : World} {xs : List Int} {v : Value} (h : OwnB W xs v w) : OwnB W xs v w.drew := h.below (Below.refl _ _).drew

end Go.Proofs.Ytldepledinolmaa
