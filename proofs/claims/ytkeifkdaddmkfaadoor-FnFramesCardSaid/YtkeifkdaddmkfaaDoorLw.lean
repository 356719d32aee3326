/- Contracts of the laws' own small functions. -/
import Derived.Test.YtkeifkdaddmkfaaDoorSame
namespace Go.Proofs.YtkeifkdaddmkfaaDoor
open Go.RowKit

theorem lwBig_no (l : List Int) (A : Option Addr) (c : Nat) (w : World) (hl : l.length ≤ 1048576) :
    Calls Tryd.prog 6 #[.slice A l.length c] w fun e w' => e = .returned (.bool false) ∧ w = w' := by
  go_enter Tryd.func6, Tryd.ntmps6
  go_wp2
  go_ret
  exact ⟨ret_bool (by simp; omega), rfl⟩
theorem lwBig_yes (l : List Int) (A : Option Addr) (c : Nat) (w : World) (hl : ¬ l.length ≤ 1048576) (hm : l.length ≤ maxLen) :
    Calls Tryd.prog 6 #[.slice A l.length c] w fun e w' => e = .returned (.bool true) ∧ w = w' := by
  unfold maxLen at hm
  go_enter Tryd.func6, Tryd.ntmps6
  go_wp2
  go_ret
  exact ⟨ret_bool (by simp; omega), rfl⟩

theorem lwSame_any (l m : List Int) (A A' : Option Addr) (c c' : Nat) (w : World) (h : Rd .u8 w w.heap.size A l) (h' : Rd .u8 w w.heap.size A' m) (b : B8 l) (b' : B8 m) :
    Calls Tryd.prog 18 #[.slice A l.length c, .slice A' m.length c'] w fun e w' => e = .returned (.bool (sameB l m)) ∧ w = w' := by
  have e1 := run_str (P := Tryd.prog) c 22 5 Tryd.underlying22 Tryd.underlying5 h 9 Tryd.underlying9
  have e2 := run_str (P := Tryd.prog) c' 22 5 Tryd.underlying22 Tryd.underlying5 h' 9 Tryd.underlying9
  go_enter Tryd.func18, Tryd.ntmps18
  go_wp2
  go_ret
  exact ⟨ret_bool (sameB_str b b'), rfl⟩

theorem lwBytes_same (a : Int) (l : List Int) (A A' : Option Addr) (c c' : Nat) (w : World) (h : Rd .u8 w w.heap.size A l) (h' : Rd .u8 w w.heap.size A' l) (b : B8 l) :
    Calls Tryd.prog 13 #[.agg #[.int .i64 a, .slice A l.length c], .agg #[.int .i64 a, .slice A' l.length c']] w fun e w' => e = .returned (.bool true) ∧ Below w.heap.size w w' := by
  go_enter Tryd.func13, Tryd.ntmps13
  go_wp2_with fail
  refine (lwSame_any l l A A' c c' _ ((h.alloc (Nat.le_refl _) _).alloc (by simp) _).lt ((h'.alloc (Nat.le_refl _) _).alloc (by simp) _).lt b b).mono ?_
  rintro e w1 ⟨rfl, rfl⟩
  go_wp2
  go_ret
  exact ⟨ret_bool (by unfold sameB; simp), by go_grown⟩

/-- A number below n comes back; nothing but the count of draws has turned. -/
def AtPost (n : Int) (w : World) (e : Ending) (w' : World) : Prop := ∃ (r : Int) (k : Nat), e = .returned (.int .i64 r) ∧ 0 ≤ r ∧ (r < n ∨ n ≤ 1 ∧ r = 0) ∧ w' = w.drewN k
end Go.Proofs.YtkeifkdaddmkfaaDoor
