/- Contracts of the exact laws' own helpers on frames and on answers with a frame: compared, marked, held. -/
import Derived.Test.YtkeifkdaddmkfaaDoorFr
import Derived.Test.YtkeifkdaddmkfaaDoorEvMarks
namespace Go.Proofs.YtkeifkdaddmkfaaDoor
open Go.RowKit

/-- An answer with a frame as a value. -/
abbrev frR (a k : Int) (A : Option Addr) (n c : Nat) (z : Int) : Value := .agg #[.int .i64 a, .int .i64 k, .slice A n c, .int .i64 z]

theorem markFrame_any (base : Nat) (a : Int) (A : Option Addr) (n c k : Nat) (xs : List Value) (w : World) (hk : k + n * 3 ≤ 1073741824) (h : w.ownsRow base 81 3 (.slice A n c) n xs) :
    Calls Tryd.prog 23 #[frV a A n c, .int .i64 k] w fun e w' => e = .returned (.int .i64 ((k + n * 3 : Nat) : Int)) ∧ w'.ownsRow base 81 3 (.slice A n c) n (evs (mkE k n)) ∧ w.grownBy w' (Value.slice A n c).ownBlock := by
  go_enter Tryd.func23, Tryd.ntmps23
  go_wp2_with fail
  refine (markEventS_any base A n c k xs _ hk (h.alloc _)).mono ?_
  rintro e w1 ⟨rfl, ho, hg⟩
  go_wp2
  go_ret
  exact ⟨rfl, ho, (World.grownBy_alloc _ _ _).trans hg⟩
theorem heldFrame_marked (B : Nat) (a : Int) (A : Option Addr) (n c k : Nat) (w : World) (hk : k + n * 3 ≤ 1073741824) (hB : B ≤ w.heap.size) (h : RdE w B A (mkE k n)) :
    Calls Tryd.prog 59 #[frV a A n c, .int .i64 k] w fun e w' => e = .returned (.int .i64 ((k + n * 3 : Nat) : Int)) ∧ Below w.heap.size w w' := by
  go_enter Tryd.func59, Tryd.ntmps59
  go_wp2_with fail
  refine (heldEventS_marked B A n c k _ hk (h.alloc hB _)).mono ?_
  rintro e w1 ⟨rfl, rfl⟩
  go_wp2
  go_ret
  exact ⟨rfl, by go_grown⟩

theorem eqFrameResult_same (a k z : Int) (es : List Ev) (A A' : Option Addr) (c c' : Nat) (w : World) (hm : es.length ≤ maxLen) (h : RdE w w.heap.size A es) (h' : RdE w w.heap.size A' es) :
    Calls Tryd.prog 27 #[frR a k A es.length c z, frR a k A' es.length c' z] w fun e w' => e = .returned (.bool true) ∧ Below w.heap.size w w' := by
  obtain ⟨W, hW⟩ : ∃ W, W = (w.alloc (Obj.cells #[Value.int .i64 a, .int .i64 k, .slice A es.length c, .int .i64 z] 33)).alloc (Obj.cells #[Value.int .i64 a, .int .i64 k, .slice A' es.length c', .int .i64 z] 33) := ⟨_, rfl⟩
  obtain ⟨K0, J0, hz, B0⟩ := two_new _ _ _ _ _ W hW
  have HW := hide hW
  clear hW
  go_enter Tryd.func27, Tryd.ntmps27
  go_wp2_with fail
  rw [← HW.out]
  refine (eqFrame_same k es A A' c c' _ hm (h.below B0).lt (h'.below B0).lt).mono ?_
  rintro e w1 ⟨rfl, hb⟩
  have q0 := ((K0.kept hb).cell 3).trans (rfl : _ = some (Value.int .i64 z))
  have q1 := ((J0.kept hb).cell 3).trans (rfl : _ = some (Value.int .i64 z))
  go_wp2
  go_ret
  exact ⟨rfl, B0.trans (hb.mono B0.size)⟩

theorem markFrameResult_any (base : Nat) (a z : Int) (j : Int) (A : Option Addr) (n c k : Nat) (xs : List Value) (w : World) (hk : k + n * 3 ≤ 1073741824) (h : w.ownsRow base 81 3 (.slice A n c) n xs) :
    Calls Tryd.prog 30 #[frR a j A n c z, .int .i64 k] w fun e w' => e = .returned (.int .i64 ((k + n * 3 : Nat) : Int)) ∧ w'.ownsRow base 81 3 (.slice A n c) n (evs (mkE k n)) ∧ w.grownBy w' (Value.slice A n c).ownBlock := by
  go_enter Tryd.func30, Tryd.ntmps30
  go_wp2_with fail
  refine (markFrame_any base j A n c k xs _ hk (h.alloc _)).mono ?_
  rintro e w1 ⟨rfl, ho, hg⟩
  go_wp2
  go_ret
  exact ⟨rfl, ho, (World.grownBy_alloc _ _ _).trans hg⟩
theorem heldFrameResult_marked (B : Nat) (a z : Int) (j : Int) (A : Option Addr) (n c k : Nat) (w : World) (hk : k + n * 3 ≤ 1073741824) (hB : B ≤ w.heap.size) (h : RdE w B A (mkE k n)) :
    Calls Tryd.prog 31 #[frR a j A n c z, .int .i64 k] w fun e w' => e = .returned (.int .i64 ((k + n * 3 : Nat) : Int)) ∧ Below w.heap.size w w' := by
  go_enter Tryd.func31, Tryd.ntmps31
  go_wp2_with fail
  refine (heldFrame_marked B j A n c k _ hk (by simp; omega) (h.alloc hB _)).mono ?_
  rintro e w1 ⟨rfl, hb⟩
  go_wp2
  go_ret
  exact ⟨rfl, below_alloc hb⟩
end Go.Proofs.YtkeifkdaddmkfaaDoor
