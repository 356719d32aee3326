/- Slices of slices of events of the call's own that were just made; a slice of one event that was just made. -/
import Derived.Test.YtldepledinolmaaGreatDoorGBase
namespace Go.Proofs.YtldepledinolmaaGreatDoor
open Go.RowKit

theorem ownT_made {w : World} {base n : Nat} {v : Value} (h : w.ownsRow base 78 1 v n (List.replicate n (.slice none 0 0))) : OwnT w base v (List.replicate n []) (List.replicate n (.slice none 0 0)) := by
  refine ⟨by rw [List.length_replicate]; exact h, fun i hi => ?_, fun i j u u' _ hu _ b hb => ?_⟩
  · rw [List.length_replicate] at hi
    refine ⟨.slice none 0 0, by rw [List.getElem?_replicate, if_pos hi], ?_, fun b hb => by cases hb⟩
    simp only [List.getElem_replicate]
    exact World.ownsRow_nil _ _ _ _
  · have := List.eq_of_mem_replicate (List.mem_of_getElem? hu)
    rw [this] at hb
    cases hb
theorem made_slices (n : Nat) : (madeCells (Value.slice none 0 0).cells (n * 1)).toList = List.replicate n (.slice none 0 0) := by
  apply List.ext_getElem
  · simp [madeCells]
  · intro i h1 h2
    simp [madeCells, Value.cells, Nat.mod_one]
theorem RdE.one_new (w : World) (e : Ev) (T : TypeId) : RdE (w.alloc (.cells #[.int .i64 e.k, .int .i64 e.a, .int .i64 e.v] T)) (w.heap.size + 1) (some ⟨w.heap.size, 0, none⟩) [e] := fun _ =>
  ⟨w.heap.size, 0, rfl, Nat.lt_succ_self _, fun i hi => by
    rw [Nat.zero_add, (Bk.new w #[.int .i64 e.k, .int .i64 e.a, .int .i64 e.v] T).cell i]
    simp only [List.getElem?_toArray]
    exact List.getElem?_eq_getElem hi⟩
end Go.Proofs.YtldepledinolmaaGreatDoor
