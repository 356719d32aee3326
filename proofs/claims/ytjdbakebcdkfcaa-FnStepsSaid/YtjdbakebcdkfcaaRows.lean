/-
  No cell of these rows narrows 'for every input' (looked for: loops, veiled, ifaces, maps, wideKeys, modest, calm, conditions, laid).
  DERIVED. THE GIVEN ROWS OF THIS SEAT. 8 by the template 'for every input the law returns true; each argument reads behind the call as it read before'; 0 by the template 'total and deterministic' (their statements: YtjdbakebcdkfcaaTotals.lean).
  GIVEN WITH THE SEED: the statements are not yours to turn. If you find one false, say at which input.
  Laid BY PROGRAM, IN A SANDBOX (cutbox-rows.mjs): the forced cells as the released guide's own fill.sh prints them over the translation 1749158717ca84b5… (all of the seat's roots in one cut). By AI agents, Wed Nov 11 2026. No macro, syntax, notation, axiom, sorry.
-/
import Derived.Test.YtjdbakebcdkfcaaChecked
import GoSem.Claim
import GoSem.ClaimJoined
import GoSem.ClaimMapViews
import Derived.JoinedTies
import Derived.KernelRfl
namespace Go.Proofs.Ytjdbakebcdkfcaa
/- THE CELL 'sum', in the pinned program and in every row, IS THE sha256 OF THE DUMP (.gsa) THAT YtjdbakebcdkfcaaProg.lean LOADS. Nothing in Lean hashes anything: it is a label: what it is worth is what the hold of that sum in a sandbox is worth. -/
noncomputable def Try.pinned : Pinned := { name := "ytjdbakebcdkfcaa", sum := "1749158717ca84b5ecd05f68d103fca0916f5733610d502e3c3fc3b458a807ce", checked := Try.checked }
namespace Rows
def none {H : Type} : Left H := { results := [], args := [] }

/-- 'laws.FnSteps': WHATEVER THE INPUT: true; the input reads as it did. -/
def fnStepsSpec : ChangeSpec := { name := "fnSteps", fn := fun _ => fun
  | [d] => { results := [.lit (.bool true)], args := [d] }
  | _ => none }
def fnStepsRow : OpenClaim := { program := "ytjdbakebcdkfcaa", sum := "1749158717ca84b5ecd05f68d103fca0916f5733610d502e3c3fc3b458a807ce", func := "loop.example/g00800/laws.FnSteps", spec := "fnSteps", unfollowed := true, recurses := true, apart := false }
def FnStepsSaid : Prop := fnStepsRow.holds Try.pinned (OpenSpec.ofChange fnStepsSpec)

/-- ITS FALSE NEIGHBOUR: 'it returns false'. Refute it at one input. -/
def fnStepsWrong : ChangeSpec := { name := "fnSteps", fn := fun _ => fun
  | [d] => { results := [.lit (.bool false)], args := [d] }
  | _ => none }
def FnStepsWrongFalsely : Prop := fnStepsRow.holds Try.pinned (OpenSpec.ofChange fnStepsWrong)

/-- 'laws.FnExactEventFault': WHATEVER THE INPUT: true; the input reads as it did. -/
def fnExactEventFaultSpec : ChangeSpec := { name := "fnExactEventFault", fn := fun _ => fun
  | [d] => { results := [.lit (.bool true)], args := [d] }
  | _ => none }
def fnExactEventFaultRow : OpenClaim := { program := "ytjdbakebcdkfcaa", sum := "1749158717ca84b5ecd05f68d103fca0916f5733610d502e3c3fc3b458a807ce", func := "loop.example/g00800/laws.FnExactEventFault", spec := "fnExactEventFault", apart := false }
def FnExactEventFaultSaid : Prop := fnExactEventFaultRow.holds Try.pinned (OpenSpec.ofChange fnExactEventFaultSpec)

/-- ITS FALSE NEIGHBOUR: 'it returns false'. Refute it at one input. -/
def fnExactEventFaultWrong : ChangeSpec := { name := "fnExactEventFault", fn := fun _ => fun
  | [d] => { results := [.lit (.bool false)], args := [d] }
  | _ => none }
def FnExactEventFaultWrongFalsely : Prop := fnExactEventFaultRow.holds Try.pinned (OpenSpec.ofChange fnExactEventFaultWrong)

/-- 'laws.FnExactStepsFault': WHATEVER THE INPUT: true; the input reads as it did. -/
def fnExactStepsFaultSpec : ChangeSpec := { name := "fnExactStepsFault", fn := fun _ => fun
  | [d] => { results := [.lit (.bool true)], args := [d] }
  | _ => none }
def fnExactStepsFaultRow : OpenClaim := { program := "ytjdbakebcdkfcaa", sum := "1749158717ca84b5ecd05f68d103fca0916f5733610d502e3c3fc3b458a807ce", func := "loop.example/g00800/laws.FnExactStepsFault", spec := "fnExactStepsFault", apart := false }
def FnExactStepsFaultSaid : Prop := fnExactStepsFaultRow.holds Try.pinned (OpenSpec.ofChange fnExactStepsFaultSpec)

/-- ITS FALSE NEIGHBOUR: 'it returns false'. Refute it at one input. -/
def fnExactStepsFaultWrong : ChangeSpec := { name := "fnExactStepsFault", fn := fun _ => fun
  | [d] => { results := [.lit (.bool false)], args := [d] }
  | _ => none }
def FnExactStepsFaultWrongFalsely : Prop := fnExactStepsFaultRow.holds Try.pinned (OpenSpec.ofChange fnExactStepsFaultWrong)

/-- 'laws.FnExactTraceFault': WHATEVER THE INPUT: true; the input reads as it did. -/
def fnExactTraceFaultSpec : ChangeSpec := { name := "fnExactTraceFault", fn := fun _ => fun
  | [d] => { results := [.lit (.bool true)], args := [d] }
  | _ => none }
def fnExactTraceFaultRow : OpenClaim := { program := "ytjdbakebcdkfcaa", sum := "1749158717ca84b5ecd05f68d103fca0916f5733610d502e3c3fc3b458a807ce", func := "loop.example/g00800/laws.FnExactTraceFault", spec := "fnExactTraceFault", apart := false }
def FnExactTraceFaultSaid : Prop := fnExactTraceFaultRow.holds Try.pinned (OpenSpec.ofChange fnExactTraceFaultSpec)

/-- ITS FALSE NEIGHBOUR: 'it returns false'. Refute it at one input. -/
def fnExactTraceFaultWrong : ChangeSpec := { name := "fnExactTraceFault", fn := fun _ => fun
  | [d] => { results := [.lit (.bool false)], args := [d] }
  | _ => none }
def FnExactTraceFaultWrongFalsely : Prop := fnExactTraceFaultRow.holds Try.pinned (OpenSpec.ofChange fnExactTraceFaultWrong)

/-- 'laws.FnExactPackSteps': WHATEVER THE INPUT: true; the input reads as it did. -/
def fnExactPackStepsSpec : ChangeSpec := { name := "fnExactPackSteps", fn := fun _ => fun
  | [d] => { results := [.lit (.bool true)], args := [d] }
  | _ => none }
def fnExactPackStepsRow : OpenClaim := { program := "ytjdbakebcdkfcaa", sum := "1749158717ca84b5ecd05f68d103fca0916f5733610d502e3c3fc3b458a807ce", func := "loop.example/g00800/laws.FnExactPackSteps", spec := "fnExactPackSteps", unfollowed := true, recurses := true, apart := false }
def FnExactPackStepsSaid : Prop := fnExactPackStepsRow.holds Try.pinned (OpenSpec.ofChange fnExactPackStepsSpec)

/-- ITS FALSE NEIGHBOUR: 'it returns false'. Refute it at one input. -/
def fnExactPackStepsWrong : ChangeSpec := { name := "fnExactPackSteps", fn := fun _ => fun
  | [d] => { results := [.lit (.bool false)], args := [d] }
  | _ => none }
def FnExactPackStepsWrongFalsely : Prop := fnExactPackStepsRow.holds Try.pinned (OpenSpec.ofChange fnExactPackStepsWrong)

/-- 'laws.FnExactUnpackSteps': WHATEVER THE INPUT: true; the input reads as it did. -/
def fnExactUnpackStepsSpec : ChangeSpec := { name := "fnExactUnpackSteps", fn := fun _ => fun
  | [d] => { results := [.lit (.bool true)], args := [d] }
  | _ => none }
def fnExactUnpackStepsRow : OpenClaim := { program := "ytjdbakebcdkfcaa", sum := "1749158717ca84b5ecd05f68d103fca0916f5733610d502e3c3fc3b458a807ce", func := "loop.example/g00800/laws.FnExactUnpackSteps", spec := "fnExactUnpackSteps", unfollowed := true, recurses := true, apart := false }
def FnExactUnpackStepsSaid : Prop := fnExactUnpackStepsRow.holds Try.pinned (OpenSpec.ofChange fnExactUnpackStepsSpec)

/-- ITS FALSE NEIGHBOUR: 'it returns false'. Refute it at one input. -/
def fnExactUnpackStepsWrong : ChangeSpec := { name := "fnExactUnpackSteps", fn := fun _ => fun
  | [d] => { results := [.lit (.bool false)], args := [d] }
  | _ => none }
def FnExactUnpackStepsWrongFalsely : Prop := fnExactUnpackStepsRow.holds Try.pinned (OpenSpec.ofChange fnExactUnpackStepsWrong)

/-- 'laws.FnExactSameSteps': WHATEVER THE INPUT: true; the input reads as it did. -/
def fnExactSameStepsSpec : ChangeSpec := { name := "fnExactSameSteps", fn := fun _ => fun
  | [d1, d2] => { results := [.lit (.bool true)], args := [d1, d2] }
  | _ => none }
def fnExactSameStepsRow : OpenClaim := { program := "ytjdbakebcdkfcaa", sum := "1749158717ca84b5ecd05f68d103fca0916f5733610d502e3c3fc3b458a807ce", func := "loop.example/g00800/laws.FnExactSameSteps", spec := "fnExactSameSteps", apart := false }
def FnExactSameStepsSaid : Prop := fnExactSameStepsRow.holds Try.pinned (OpenSpec.ofChange fnExactSameStepsSpec)

/-- ITS FALSE NEIGHBOUR: 'it returns false'. Refute it at one input. -/
def fnExactSameStepsWrong : ChangeSpec := { name := "fnExactSameSteps", fn := fun _ => fun
  | [d1, d2] => { results := [.lit (.bool false)], args := [d1, d2] }
  | _ => none }
def FnExactSameStepsWrongFalsely : Prop := fnExactSameStepsRow.holds Try.pinned (OpenSpec.ofChange fnExactSameStepsWrong)

/-- 'laws.FnExactSameTraces': WHATEVER THE INPUT: true; the input reads as it did. -/
def fnExactSameTracesSpec : ChangeSpec := { name := "fnExactSameTraces", fn := fun _ => fun
  | [d1, d2] => { results := [.lit (.bool true)], args := [d1, d2] }
  | _ => none }
def fnExactSameTracesRow : OpenClaim := { program := "ytjdbakebcdkfcaa", sum := "1749158717ca84b5ecd05f68d103fca0916f5733610d502e3c3fc3b458a807ce", func := "loop.example/g00800/laws.FnExactSameTraces", spec := "fnExactSameTraces", unfollowed := true, recurses := true, apart := false }
def FnExactSameTracesSaid : Prop := fnExactSameTracesRow.holds Try.pinned (OpenSpec.ofChange fnExactSameTracesSpec)

/-- ITS FALSE NEIGHBOUR: 'it returns false'. Refute it at one input. -/
def fnExactSameTracesWrong : ChangeSpec := { name := "fnExactSameTraces", fn := fun _ => fun
  | [d1, d2] => { results := [.lit (.bool false)], args := [d1, d2] }
  | _ => none }
def FnExactSameTracesWrongFalsely : Prop := fnExactSameTracesRow.holds Try.pinned (OpenSpec.ofChange fnExactSameTracesWrong)

/- THE SECOND FORM. 'bulk': how many values and letters a reading holds, each counted each time it is reached (what is shared counts as often as it is met; a slice's spare places count too). A statement '..UptoSaid' is the law's where the arguments, and the package variables that the reading takes, are together of bulk at most 1048576: NARROWER than '..Said'. Prove '..Said' where nothing that the law and all that it calls make is longer than what came in: it says more and counts as full. Else prove '..UptoSaid'. A law counts once. -/
mutual
def uptoBulk {H : Type} : DataW H → Nat
  | .lit (.string bytes) => bytes.length + 1
  | .lit _ => 1
  | .nil => 1
  | .ptr d => uptoBulk d + 1
  | .slice elems spare => uptoBulkAll elems + uptoBulkAll spare + 1
  | .agg parts => uptoBulkAll parts + 1
  | .iface _ d => uptoBulk d + 1
  | .map entries => uptoBulkEntries entries + 1
  | .held _ => 1
def uptoBulkAll {H : Type} : List (DataW H) → Nat
  | [] => 0
  | d :: r => uptoBulk d + uptoBulkAll r
def uptoBulkEntries {H : Type} : List (Lit × DataW H) → Nat
  | [] => 0
  | x :: r => uptoBulkEntry x + uptoBulkEntries r
def uptoBulkEntry {H : Type} : Lit × DataW H → Nat
  | (.string bytes, d) => bytes.length + uptoBulk d + 1
  | (_, d) => uptoBulk d + 1
 end
def uptoSmall : (H : Type) → List (DataW H) → Bool := fun _ ds => decide (uptoBulkAll ds ≤ 1048576)
def OpenSpec.upto (s : _root_.Go.ChangeSpec) : _root_.Go.OpenSpec := { _root_.Go.OpenSpec.ofChange s with cond := some uptoSmall }

/-- 'laws.FnSteps', WHERE WHAT IT READS IS OF BULK AT MOST 1048576: true; the input reads as it did. -/
def fnStepsUptoRow : OpenClaim := { program := "ytjdbakebcdkfcaa", sum := "1749158717ca84b5ecd05f68d103fca0916f5733610d502e3c3fc3b458a807ce", func := "loop.example/g00800/laws.FnSteps", spec := "fnSteps", unfollowed := true, recurses := true, apart := false, narrowed := true }
def FnStepsUptoSaid : Prop := fnStepsUptoRow.holds Try.pinned (OpenSpec.upto fnStepsSpec)

/-- 'laws.FnExactEventFault', WHERE WHAT IT READS IS OF BULK AT MOST 1048576: true; the input reads as it did. -/
def fnExactEventFaultUptoRow : OpenClaim := { program := "ytjdbakebcdkfcaa", sum := "1749158717ca84b5ecd05f68d103fca0916f5733610d502e3c3fc3b458a807ce", func := "loop.example/g00800/laws.FnExactEventFault", spec := "fnExactEventFault", apart := false, narrowed := true }
def FnExactEventFaultUptoSaid : Prop := fnExactEventFaultUptoRow.holds Try.pinned (OpenSpec.upto fnExactEventFaultSpec)

/-- 'laws.FnExactStepsFault', WHERE WHAT IT READS IS OF BULK AT MOST 1048576: true; the input reads as it did. -/
def fnExactStepsFaultUptoRow : OpenClaim := { program := "ytjdbakebcdkfcaa", sum := "1749158717ca84b5ecd05f68d103fca0916f5733610d502e3c3fc3b458a807ce", func := "loop.example/g00800/laws.FnExactStepsFault", spec := "fnExactStepsFault", apart := false, narrowed := true }
def FnExactStepsFaultUptoSaid : Prop := fnExactStepsFaultUptoRow.holds Try.pinned (OpenSpec.upto fnExactStepsFaultSpec)

/-- 'laws.FnExactTraceFault', WHERE WHAT IT READS IS OF BULK AT MOST 1048576: true; the input reads as it did. -/
def fnExactTraceFaultUptoRow : OpenClaim := { program := "ytjdbakebcdkfcaa", sum := "1749158717ca84b5ecd05f68d103fca0916f5733610d502e3c3fc3b458a807ce", func := "loop.example/g00800/laws.FnExactTraceFault", spec := "fnExactTraceFault", apart := false, narrowed := true }
def FnExactTraceFaultUptoSaid : Prop := fnExactTraceFaultUptoRow.holds Try.pinned (OpenSpec.upto fnExactTraceFaultSpec)

/-- 'laws.FnExactPackSteps', WHERE WHAT IT READS IS OF BULK AT MOST 1048576: true; the input reads as it did. -/
def fnExactPackStepsUptoRow : OpenClaim := { program := "ytjdbakebcdkfcaa", sum := "1749158717ca84b5ecd05f68d103fca0916f5733610d502e3c3fc3b458a807ce", func := "loop.example/g00800/laws.FnExactPackSteps", spec := "fnExactPackSteps", unfollowed := true, recurses := true, apart := false, narrowed := true }
def FnExactPackStepsUptoSaid : Prop := fnExactPackStepsUptoRow.holds Try.pinned (OpenSpec.upto fnExactPackStepsSpec)

/-- 'laws.FnExactUnpackSteps', WHERE WHAT IT READS IS OF BULK AT MOST 1048576: true; the input reads as it did. -/
def fnExactUnpackStepsUptoRow : OpenClaim := { program := "ytjdbakebcdkfcaa", sum := "1749158717ca84b5ecd05f68d103fca0916f5733610d502e3c3fc3b458a807ce", func := "loop.example/g00800/laws.FnExactUnpackSteps", spec := "fnExactUnpackSteps", unfollowed := true, recurses := true, apart := false, narrowed := true }
def FnExactUnpackStepsUptoSaid : Prop := fnExactUnpackStepsUptoRow.holds Try.pinned (OpenSpec.upto fnExactUnpackStepsSpec)

/-- 'laws.FnExactSameSteps', WHERE WHAT IT READS IS OF BULK AT MOST 1048576: true; the input reads as it did. -/
def fnExactSameStepsUptoRow : OpenClaim := { program := "ytjdbakebcdkfcaa", sum := "1749158717ca84b5ecd05f68d103fca0916f5733610d502e3c3fc3b458a807ce", func := "loop.example/g00800/laws.FnExactSameSteps", spec := "fnExactSameSteps", apart := false, narrowed := true }
def FnExactSameStepsUptoSaid : Prop := fnExactSameStepsUptoRow.holds Try.pinned (OpenSpec.upto fnExactSameStepsSpec)

/-- 'laws.FnExactSameTraces', WHERE WHAT IT READS IS OF BULK AT MOST 1048576: true; the input reads as it did. -/
def fnExactSameTracesUptoRow : OpenClaim := { program := "ytjdbakebcdkfcaa", sum := "1749158717ca84b5ecd05f68d103fca0916f5733610d502e3c3fc3b458a807ce", func := "loop.example/g00800/laws.FnExactSameTraces", spec := "fnExactSameTraces", unfollowed := true, recurses := true, apart := false, narrowed := true }
def FnExactSameTracesUptoSaid : Prop := fnExactSameTracesUptoRow.holds Try.pinned (OpenSpec.upto fnExactSameTracesSpec)

end Rows
end Go.Proofs.Ytjdbakebcdkfcaa
