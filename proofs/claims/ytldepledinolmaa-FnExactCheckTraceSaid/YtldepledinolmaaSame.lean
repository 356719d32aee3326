/- Contracts of SameBytes, in the program and in its model. -/
import Derived.Test.YtldepledinolmaaGEv
import Derived.Lib.Bytes
namespace Go.Proofs.Ytldepledinolmaa
open Go.RowKit

def sameB (l m : List Int) : Bool := l == m
theorem sameB_str {l m : List Int} (h : B8 l) (h' : B8 m) : ((strOfNums l).toList == (strOfNums m).toList) = sameB l m := by
  unfold sameB
  by_cases e : l = m
  · subst e; simp
  · have h3 : ¬ (strOfNums l).toList = (strOfNums m).toList := by
      intro e2
      rw [Lib.strOfNums_toList, Lib.strOfNums_toList] at e2
      exact e (str_inj h h' (congrArg (fun x => (⟨x.toArray⟩ : ByteArray)) e2))
    rw [beq_eq_false_iff_ne.2 h3, beq_eq_false_iff_ne.2 e]

end Go.Proofs.Ytldepledinolmaa
