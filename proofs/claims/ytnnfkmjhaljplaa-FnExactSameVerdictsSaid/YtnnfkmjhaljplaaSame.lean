/- Contracts of SameBytes, in the program and in its model. -/
import Derived.Test.YtnnfkmjhaljplaaGEv
import Derived.Lib.Bytes
namespace Go.Proofs.Ytnnfkmjhaljplaa
open Go.RowKit

def sameB (l m : List Int) : Bool := l == m
theorem sameB_str {l m : List Int} (h : B8 l) (h' : B8 m) : ((strOfNums l).toList == (strOfNums m).toList) = sameB l m := by
  unfold sameB
  by_cases e : l = m
  · subst e; simp
  · have h3 : ¬ (strOfNums l).toList = (strOfNums m).toList := by
      intro e2
      rw [Lib.strOfNums_toList, Lib.strOfNums_toList] at e2
      exact e (str_inj h h' (congrArg (fun x => (⟨x.toArray⟩ : ByteArray)) e2))
    rw [beq_eq_false_iff_ne.2 h3, beq_eq_false_iff_ne.2 e]

theorem implSame_any (l m : List Int) (A A' : Option Addr) (c c' : Nat) (w : World) (h : Rd .u8 w w.heap.size A l) (h' : Rd .u8 w w.heap.size A' m) (b : B8 l) (b' : B8 m) :
    Calls Try.prog 67 #[.slice A l.length c, .slice A' m.length c'] w fun e w' => e = .returned (.bool (sameB l m)) ∧ w = w' := by
  have e1 := run_str (P := Try.prog) c 22 5 Try.underlying22 Try.underlying5 h 9 Try.underlying9
  have e2 := run_str (P := Try.prog) c' 22 5 Try.underlying22 Try.underlying5 h' 9 Try.underlying9
  go_enter Try.func67, Try.ntmps67
  go_wp2
  go_ret
  exact ⟨ret_bool (sameB_str b b'), rfl⟩
end Go.Proofs.Ytnnfkmjhaljplaa
