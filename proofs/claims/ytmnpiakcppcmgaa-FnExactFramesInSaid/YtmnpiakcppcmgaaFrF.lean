/- Contracts of FrameFault, in the program and in its model. -/
import Derived.Test.YtmnpiakcppcmgaaFr
import Derived.Test.YtmnpiakcppcmgaaStF
namespace Go.Proofs.Ytmnpiakcppcmgaa
open Go.RowKit

/-- What is wrong with a frame. -/
noncomputable def frF (k : Int) (es : List Ev) : Int := if 0 ≤ k ∧ k ≤ 3 then (if es.length = 0 then 2 else stF es) else 3
theorem frF_out {k : Int} {es : List Ev} (h : ¬ (0 ≤ k ∧ k ≤ 3)) : frF k es = 3 := if_neg h
theorem frF_none {k : Int} {es : List Ev} (h : 0 ≤ k ∧ k ≤ 3) (h0 : es.length = 0) : frF k es = 2 := by unfold frF; rw [if_pos h, if_pos h0]
theorem frF_in {k : Int} {es : List Ev} (h : 0 ≤ k ∧ k ≤ 3) (h0 : ¬ es.length = 0) : frF k es = stF es := by unfold frF; rw [if_pos h, if_neg h0]

end Go.Proofs.Ytmnpiakcppcmgaa
