/- What the laws do with a CheckResult: same, marked, held. -/
import Derived.Test.YtldepledinolmaaIntS
namespace Go.Proofs.Ytldepledinolmaa
open Go.RowKit

theorem eqCheckResult_same (a : Int) (f : Bool) (l : List Int) (A A' : Option Addr) (c c' : Nat) (w : World) (hm : l.length ≤ maxLen) (h : Rd .i64 w w.heap.size A l) (h' : Rd .i64 w w.heap.size A' l) :
    Calls Try.prog 31 #[.agg #[.int .i64 a, .bool f, .slice A l.length c], .agg #[.int .i64 a, .bool f, .slice A' l.length c']] w fun e w' => e = .returned (.bool true) ∧ Below w.heap.size w w' := by
  go_enter Try.func31, Try.ntmps31
  go_wp2_with fail
  refine (eqInt64S_same l A A' c c' _ hm ((h.alloc (Nat.le_refl _) _).alloc (by simp) _).lt ((h'.alloc (Nat.le_refl _) _).alloc (by simp) _).lt).mono ?_
  rintro e w1 ⟨rfl, hb⟩
  go_wp2
  go_ret
  exact ⟨rfl, below_alloc (below_alloc hb)⟩

theorem markCheckResult_any (base : Nat) (a : Int) (f : Bool) (A : Option Addr) (n c k : Nat) (xs : List Value) (w : World) (hk : k + n ≤ 1073741824) (h : w.ownsRow base 2 1 (.slice A n c) n xs) :
    Calls Try.prog 36 #[.agg #[.int .i64 a, .bool f, .slice A n c], .int .i64 k] w fun e w' => e = .returned (.int .i64 ((k + n : Nat) : Int)) ∧ w'.ownsRow base 2 1 (.slice A n c) n ((mkI k n).map (Value.int .i64)) ∧ w.grownBy w' (Value.slice A n c).ownBlock := by
  go_enter Try.func36, Try.ntmps36
  go_wp2_with fail
  refine (markInt64S_any base A n c k xs _ hk (h.alloc _)).mono ?_
  rintro e w1 ⟨rfl, ho, hg⟩
  go_wp2
  go_ret
  exact ⟨rfl, ho, (World.grownBy_alloc _ _ _).trans hg⟩

theorem heldCheckResult_marked (B : Nat) (a : Int) (f : Bool) (A : Option Addr) (n c k : Nat) (w : World) (hk : k + n ≤ 1073741824) (hB : B ≤ w.heap.size) (h : Rd .i64 w B A (mkI k n)) :
    Calls Try.prog 37 #[.agg #[.int .i64 a, .bool f, .slice A n c], .int .i64 k] w fun e w' => e = .returned (.int .i64 ((k + n : Nat) : Int)) ∧ Below w.heap.size w w' := by
  go_enter Try.func37, Try.ntmps37
  go_wp2_with fail
  refine (heldInt64S_marked B A n c k _ hk (h.alloc hB _)).mono ?_
  rintro e w1 ⟨rfl, rfl⟩
  go_wp2
  go_ret
  exact ⟨rfl, by go_grown⟩
end Go.Proofs.Ytldepledinolmaa
