/- Marks that ranges over functions leave, and how a function is left behind them. No program is named here. -/
import Derived.RangeFuncNested
import Derived.RangeFuncBound
import Derived.RangeFuncCalls
import Derived.RangeFuncLeaves
import Derived.Shelf.Abstract
import Derived.Shelf.RegionOpen
import Derived.WalkKit
import Derived.Test.YtldepledinolmaaDoorGBase
namespace Go.Proofs.YtldepledinolmaaDoor
open Go.RowKit Go.Shelf

/-- The marks that ranges over functions have left, each from block B on. -/
def mark (D : Nat) : Deferred := { target := .collected D, args := #[] }
structure Mks (B : Nat) (Ds : List Nat) (w : World) : Prop where
  one : Ds.Nodup
  lie : ∀ D ∈ Ds, B ≤ D ∧ w.heap[D]? = some (.deferred (some []))
theorem Mks.lt {B : Nat} {Ds : List Nat} {w : World} (h : Mks B Ds w) : ∀ D ∈ Ds, D < w.heap.size := fun D hD => (Array.getElem?_eq_some_iff.1 (h.lie D hD).2).1
theorem Mks.kept {B : Nat} {Ds : List Nat} {w w' : World} (h : Mks B Ds w) (hb : Below w.heap.size w w') : Mks B Ds w' := ⟨h.one, fun D hD => ⟨(h.lie D hD).1, (hb.block D (h.lt D hD)).trans (h.lie D hD).2⟩⟩
theorem Mks.others {B : Nat} {Ds : List Nat} {w w' : World} (h : Mks B Ds w) (hb : KeepsOthers w w') : Mks B Ds w' := ⟨h.one, fun D hD => ⟨(h.lie D hD).1, hb.same D _ (h.lie D hD).2 rfl⟩⟩
/-- A body that is left by a return alone. -/
def retOnly (Q : Exit → Act → World → Prop) : Exit → Act → World → Prop
  | .ret, a, w => Q .ret a w
  | .normal, a, w => Q .normal a w
  | _, _, _ => False
theorem retOnly_up {Q : Exit → Act → World → Prop} : ∀ e a w, retOnly Q e a w → Q e a w
  | .ret, _, _, h => h
  | .normal, _, _, h => h
  | .exit _, _, _, h => h.elim
  | .goto _, _, _, h => h.elim
  | .panic _, _, _, h => h.elim
  | .outgrown, _, _, h => h.elim
/-- At the function's return the marks are taken, one behind the other. -/
theorem leaves_marks {F : Fence} {n : Nat} {P : Program} {fn : Func} {tmps : Array Value} {R : Ending → World → Prop} {B : Nat} {Φ : World → Prop} (hΦ : OwnFrom B (fun (_ : Unit) w => Φ w))
    (hend : ∀ w, Φ w → LeavesIn F n P fn tmps R [] .returning w) : ∀ (Ds : List Nat) (w : World), Mks B Ds w → Φ w → LeavesInM F n P fn tmps R (Ds.map mark) .returning w
  | [], w, _, h => hend w h
  | D :: Ds, w, hm, h => by
    obtain ⟨hB, hD⟩ := hm.lie D (List.mem_cons_self ..)
    refine ⟨by simp, .inl ⟨D, _, rfl, run_takeDeferred hD, ?_⟩⟩
    refine leaves_marks hΦ hend Ds _ ⟨(List.nodup_cons.1 hm.one).2, fun E hE => ?_⟩ (hΦ.putObj (s := ()) _ h hB hD rfl)
    have hne : E ≠ D := fun e => (List.nodup_cons.1 hm.one).1 (e ▸ hE)
    exact ⟨(hm.lie E (List.mem_cons_of_mem _ hE)).1, (World.putObj_heap_other hne).trans (hm.lie E (List.mem_cons_of_mem _ hE)).2⟩
end Go.Proofs.YtldepledinolmaaDoor
