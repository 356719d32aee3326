/- Contracts of the exact laws' own helpers on frames: measured, copied, compared. -/
import Derived.Test.YtnnfkmjhaljplaaGEv
namespace Go.Proofs.Ytnnfkmjhaljplaa
open Go.RowKit

/-- A frame as a value. -/
abbrev frV (k : Int) (A : Option Addr) (n c : Nat) : Value := .agg #[.int .i64 k, .slice A n c]

/-- Three cells' blocks, laid one behind the other: what of them is known. -/
theorem three_new (w : World) (c0 c1 c2 : Array Value) (t0 t1 t2 : TypeId) (W : World) (hW : W = ((w.alloc (Obj.cells c0 t0)).alloc (Obj.cells c1 t1)).alloc (Obj.cells c2 t2)) :
    Bk W w.heap.size c0 t0 ∧ Bk W (w.heap.size + 1) c1 t1 ∧ Bk W (w.heap.size + 1 + 1) c2 t2 ∧ W.heap.size = w.heap.size + 1 + 1 + 1 ∧ Below w.heap.size w W := by
  have e1 : (w.alloc (Obj.cells c0 t0)).heap.size = w.heap.size + 1 := by simp
  have e2 : ((w.alloc (Obj.cells c0 t0)).alloc (Obj.cells c1 t1)).heap.size = w.heap.size + 1 + 1 := by simp
  have k0 := ((Bk.new w c0 t0).alloc (Obj.cells c1 t1)).alloc (Obj.cells c2 t2)
  have k1 := (Bk.new (w.alloc (Obj.cells c0 t0)) c1 t1).alloc (Obj.cells c2 t2)
  have k2 := Bk.new ((w.alloc (Obj.cells c0 t0)).alloc (Obj.cells c1 t1)) c2 t2
  rw [e1] at k1
  rw [e2] at k2
  subst hW
  exact ⟨k0, k1, k2, by simp, (((Below.refl w.heap.size w).alloc (Nat.le_refl _) _).alloc (by omega) _).alloc (by omega) _⟩
theorem two_new (w : World) (c0 c1 : Array Value) (t0 t1 : TypeId) (W : World) (hW : W = (w.alloc (Obj.cells c0 t0)).alloc (Obj.cells c1 t1)) :
    Bk W w.heap.size c0 t0 ∧ Bk W (w.heap.size + 1) c1 t1 ∧ W.heap.size = w.heap.size + 1 + 1 ∧ Below w.heap.size w W := by
  have e1 : (w.alloc (Obj.cells c0 t0)).heap.size = w.heap.size + 1 := by simp
  have k0 := (Bk.new w c0 t0).alloc (Obj.cells c1 t1)
  have k1 := Bk.new (w.alloc (Obj.cells c0 t0)) c1 t1
  rw [e1] at k1
  subst hW
  exact ⟨k0, k1, by simp, ((Below.refl w.heap.size w).alloc (Nat.le_refl _) _).alloc (by omega) _⟩

end Go.Proofs.Ytnnfkmjhaljplaa
