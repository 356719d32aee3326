/- Contracts of the exact laws' own helpers on answers with bytes: compared, marked, held. -/
import Derived.Test.YtmnpiakcppcmgaaDoorMarks
namespace Go.Proofs.YtmnpiakcppcmgaaDoor
open Go.RowKit

theorem eqBytesResult_same (a : Int) (l : List Int) (A A' : Option Addr) (c c' : Nat) (w : World) (hm : l.length ≤ maxLen) (h : Rd .u8 w w.heap.size A l) (h' : Rd .u8 w w.heap.size A' l) :
    Calls Tryd.prog 9 #[.agg #[.int .i64 a, .slice A l.length c], .agg #[.int .i64 a, .slice A' l.length c']] w fun e w' => e = .returned (.bool true) ∧ Below w.heap.size w w' := by
  go_enter Tryd.func9, Tryd.ntmps9
  go_wp2_with fail
  refine (eqByteS_same l A A' c c' _ hm ((h.alloc (Nat.le_refl _) _).alloc (by simp) _).lt ((h'.alloc (Nat.le_refl _) _).alloc (by simp) _).lt).mono ?_
  rintro e w1 ⟨rfl, hb⟩
  go_wp2
  go_ret
  exact ⟨rfl, below_alloc (below_alloc hb)⟩

theorem markBytesResult_any (base : Nat) (a : Int) (A : Option Addr) (n c k : Nat) (xs : List Value) (w : World) (hk : k + n ≤ 1073741824) (h : w.ownsRow base 5 1 (.slice A n c) n xs) :
    Calls Tryd.prog 12 #[.agg #[.int .i64 a, .slice A n c], .int .i64 k] w fun e w' => e = .returned (.int .i64 ((k + n : Nat) : Int)) ∧ w'.ownsRow base 5 1 (.slice A n c) n ((mkL k n).map (Value.int .u8)) ∧ w.grownBy w' (Value.slice A n c).ownBlock := by
  go_enter Tryd.func12, Tryd.ntmps12
  go_wp2_with fail
  refine (markByteS_any base A n c k xs _ hk (h.alloc _)).mono ?_
  rintro e w1 ⟨rfl, ho, hg⟩
  go_wp2
  go_ret
  exact ⟨rfl, ho, (World.grownBy_alloc _ _ _).trans hg⟩

theorem heldBytesResult_marked (B : Nat) (a : Int) (A : Option Addr) (n c k : Nat) (w : World) (hk : k + n ≤ 1073741824) (hB : B ≤ w.heap.size) (h : Rd .u8 w B A (mkL k n)) :
    Calls Tryd.prog 13 #[.agg #[.int .i64 a, .slice A n c], .int .i64 k] w fun e w' => e = .returned (.int .i64 ((k + n : Nat) : Int)) ∧ Below w.heap.size w w' := by
  go_enter Tryd.func13, Tryd.ntmps13
  go_wp2_with fail
  refine (heldByteS_marked B A n c k _ hk (h.alloc hB _)).mono ?_
  rintro e w1 ⟨rfl, rfl⟩
  go_wp2
  go_ret
  exact ⟨rfl, by go_grown⟩
end Go.Proofs.YtmnpiakcppcmgaaDoor
