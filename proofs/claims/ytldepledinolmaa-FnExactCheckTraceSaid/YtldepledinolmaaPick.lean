/- Contracts of PicksOf, in the program and in its model. -/
import Derived.Test.YtldepledinolmaaLogI
import Derived.Test.YtldepledinolmaaLogS
import Derived.Test.YtldepledinolmaaGApp
import Derived.Test.YtldepledinolmaaGHeld
import Derived.OneCell
namespace Go.Proofs.Ytldepledinolmaa
open Go.RowKit

/-- Numbers in a row of the call's own, from block base on; all that was there in W is as it was. -/
structure OwnI (W : World) (base : Nat) (xs : List Int) (v : Value) (w : World) : Prop where
  row : w.ownsRow base 2 1 v xs.length (xs.map (Value.int .i64))
  old : Below W.heap.size W w
  lo : W.heap.size ≤ base
section
variable {W w w' : World} {base : Nat} {xs : List Int} {v v' : Value} {x : Int}
theorem OwnI.below (h : OwnI W base xs v w) (hb : Below w.heap.size w w') : OwnI W base xs v w' := ⟨own_below h.row hb (Nat.le_refl _), h.old.trans (hb.mono h.old.size), h.lo⟩
theorem OwnI.alloc (h : OwnI W base xs v w) (o : Obj) : OwnI W base xs v (w.alloc o) := h.below ((Below.refl _ _).alloc (Nat.le_refl _) _)
theorem OwnI.drew (h : OwnI W base xs v w) : OwnI W base xs v w.drew := h.below (Below.refl _ _).drew
theorem OwnI.more (h : OwnI W base xs v w) (ho : w'.ownsRow base 2 1 v' (xs.length + [x].length) (xs.map (Value.int .i64) ++ [x].map (Value.int .i64))) (hg : w.grownBy w' v.ownBlock) : OwnI W base (xs ++ [x]) v' w' :=
  ⟨by rw [List.length_append, List.map_append]; exact ho, h.old.trans (grown_below h.row hg h.old.size h.lo), h.lo⟩
theorem OwnI.shape (h : OwnI W base xs v w) : ∃ A c, v = .slice A xs.length c := own_shape h.row
end
theorem Rd.one_new (w : World) (x : Int) (T : TypeId) : Rd .i64 (w.alloc (.cells #[.int .i64 x] T)) (w.heap.size + 1) (some ⟨w.heap.size, 0, none⟩) [x] := fun _ =>
  ⟨w.heap.size, 0, rfl, Nat.lt_succ_self _, fun i hi => by
    rw [Nat.zero_add, (Bk.new w #[.int .i64 x] T).cell i]
    simp only [List.map_cons, List.map_nil, List.getElem?_toArray]
    exact List.getElem?_eq_getElem hi⟩

/-- What PicksOf tells. -/
def PkPost (ss : List Stp) (n : Int) (w : World) (e : Ending) (w' : World) : Prop :=
  ∃ A c, e = .returned (.agg #[.int .i64 (logF ss n), .slice A (pkL ss n).length c]) ∧ w'.ownsRow w.heap.size 2 1 (.slice A (pkL ss n).length c) (pkL ss n).length ((pkL ss n).map (Value.int .i64)) ∧ Below w.heap.size w w'
end Go.Proofs.Ytldepledinolmaa
