/- Contracts of the laws' own small functions. -/
import Derived.Test.YthomadhdjapahaaSame
namespace Go.Proofs.Ythomadhdjapahaa
open Go.RowKit

theorem lwBig_no (l : List Int) (A : Option Addr) (c : Nat) (w : World) (hl : l.length ≤ 1048576) :
    Calls Try.prog 9 #[.slice A l.length c] w fun e w' => e = .returned (.bool false) ∧ w = w' := by
  go_enter Try.func9, Try.ntmps9
  go_wp2
  go_ret
  exact ⟨ret_bool (by simp; omega), rfl⟩
theorem lwBig_yes (l : List Int) (A : Option Addr) (c : Nat) (w : World) (hl : ¬ l.length ≤ 1048576) (hm : l.length ≤ maxLen) :
    Calls Try.prog 9 #[.slice A l.length c] w fun e w' => e = .returned (.bool true) ∧ w = w' := by
  unfold maxLen at hm
  go_enter Try.func9, Try.ntmps9
  go_wp2
  go_ret
  exact ⟨ret_bool (by simp; omega), rfl⟩

/-- A number below n comes back; nothing but the count of draws has turned. -/
def AtPost (n : Int) (w : World) (e : Ending) (w' : World) : Prop := ∃ (r : Int) (k : Nat), e = .returned (.int .i64 r) ∧ 0 ≤ r ∧ (r < n ∨ n ≤ 1 ∧ r = 0) ∧ w' = w.drewN k
end Go.Proofs.Ythomadhdjapahaa
