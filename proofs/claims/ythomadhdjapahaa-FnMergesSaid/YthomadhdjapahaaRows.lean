/-
  No cell of these rows narrows 'for every input' (looked for: loops, veiled, ifaces, maps, wideKeys, modest, calm, conditions, laid).
  DERIVED. THE GIVEN ROWS OF THIS SEAT. 6 by the template 'for every input the law returns true; each argument reads behind the call as it read before'; 0 by the template 'total and deterministic' (their statements: YthomadhdjapahaaTotals.lean).
  GIVEN WITH THE SEED: the statements are not yours to turn. If you find one false, say at which input.
  Laid BY PROGRAM, IN A SANDBOX (cutbox-rows.mjs): the forced cells as the released guide's own fill.sh prints them over the translation 3da266b2fe65e0b3… (all of the seat's roots in one cut). By AI agents, Wed Nov 11 2026. No macro, syntax, notation, axiom, sorry.
-/
import Derived.Test.YthomadhdjapahaaChecked
import GoSem.Claim
import GoSem.ClaimJoined
import GoSem.ClaimMapViews
import Derived.JoinedTies
import Derived.KernelRfl
namespace Go.Proofs.Ythomadhdjapahaa
/- THE CELL 'sum', in the pinned program and in every row, IS THE sha256 OF THE DUMP (.gsa) THAT YthomadhdjapahaaProg.lean LOADS. Nothing in Lean hashes anything: it is a label: what it is worth is what the hold of that sum in a sandbox is worth. -/
noncomputable def Try.pinned : Pinned := { name := "ythomadhdjapahaa", sum := "3da266b2fe65e0b356d6cf1299a3669edf597af8fefe73cdaca74dd9fb91415e", checked := Try.checked }
namespace Rows
def none {H : Type} : Left H := { results := [], args := [] }

/-- 'laws.FnMerges': WHATEVER THE INPUT: true; the input reads as it did. -/
def fnMergesSpec : ChangeSpec := { name := "fnMerges", fn := fun _ => fun
  | [d] => { results := [.lit (.bool true)], args := [d] }
  | _ => none }
def fnMergesRow : OpenClaim := { program := "ythomadhdjapahaa", sum := "3da266b2fe65e0b356d6cf1299a3669edf597af8fefe73cdaca74dd9fb91415e", func := "loop.example/g00800/laws.FnMerges", spec := "fnMerges", unfollowed := true, recurses := true, apart := false }
def FnMergesSaid : Prop := fnMergesRow.holds Try.pinned (OpenSpec.ofChange fnMergesSpec)

/-- ITS FALSE NEIGHBOUR: 'it returns false'. Refute it at one input. -/
def fnMergesWrong : ChangeSpec := { name := "fnMerges", fn := fun _ => fun
  | [d] => { results := [.lit (.bool false)], args := [d] }
  | _ => none }
def FnMergesWrongFalsely : Prop := fnMergesRow.holds Try.pinned (OpenSpec.ofChange fnMergesWrong)

/-- 'laws.FnExactLogFault': WHATEVER THE INPUT: true; the input reads as it did. -/
def fnExactLogFaultSpec : ChangeSpec := { name := "fnExactLogFault", fn := fun _ => fun
  | [d1, d2] => { results := [.lit (.bool true)], args := [d1, d2] }
  | _ => none }
def fnExactLogFaultRow : OpenClaim := { program := "ythomadhdjapahaa", sum := "3da266b2fe65e0b356d6cf1299a3669edf597af8fefe73cdaca74dd9fb91415e", func := "loop.example/g00800/laws.FnExactLogFault", spec := "fnExactLogFault", apart := false }
def FnExactLogFaultSaid : Prop := fnExactLogFaultRow.holds Try.pinned (OpenSpec.ofChange fnExactLogFaultSpec)

/-- ITS FALSE NEIGHBOUR: 'it returns false'. Refute it at one input. -/
def fnExactLogFaultWrong : ChangeSpec := { name := "fnExactLogFault", fn := fun _ => fun
  | [d1, d2] => { results := [.lit (.bool false)], args := [d1, d2] }
  | _ => none }
def FnExactLogFaultWrongFalsely : Prop := fnExactLogFaultRow.holds Try.pinned (OpenSpec.ofChange fnExactLogFaultWrong)

/-- 'laws.FnExactSplitLog': WHATEVER THE INPUT: true; the input reads as it did. -/
def fnExactSplitLogSpec : ChangeSpec := { name := "fnExactSplitLog", fn := fun _ => fun
  | [d1, d2] => { results := [.lit (.bool true)], args := [d1, d2] }
  | _ => none }
def fnExactSplitLogRow : OpenClaim := { program := "ythomadhdjapahaa", sum := "3da266b2fe65e0b356d6cf1299a3669edf597af8fefe73cdaca74dd9fb91415e", func := "loop.example/g00800/laws.FnExactSplitLog", spec := "fnExactSplitLog", apart := false }
def FnExactSplitLogSaid : Prop := fnExactSplitLogRow.holds Try.pinned (OpenSpec.ofChange fnExactSplitLogSpec)

/-- ITS FALSE NEIGHBOUR: 'it returns false'. Refute it at one input. -/
def fnExactSplitLogWrong : ChangeSpec := { name := "fnExactSplitLog", fn := fun _ => fun
  | [d1, d2] => { results := [.lit (.bool false)], args := [d1, d2] }
  | _ => none }
def FnExactSplitLogWrongFalsely : Prop := fnExactSplitLogRow.holds Try.pinned (OpenSpec.ofChange fnExactSplitLogWrong)

/-- 'laws.FnExactMergeTrace': WHATEVER THE INPUT: true; the input reads as it did. -/
def fnExactMergeTraceSpec : ChangeSpec := { name := "fnExactMergeTrace", fn := fun _ => fun
  | [d1, d2] => { results := [.lit (.bool true)], args := [d1, d2] }
  | _ => none }
def fnExactMergeTraceRow : OpenClaim := { program := "ythomadhdjapahaa", sum := "3da266b2fe65e0b356d6cf1299a3669edf597af8fefe73cdaca74dd9fb91415e", func := "loop.example/g00800/laws.FnExactMergeTrace", spec := "fnExactMergeTrace", unfollowed := true, recurses := true, apart := false }
def FnExactMergeTraceSaid : Prop := fnExactMergeTraceRow.holds Try.pinned (OpenSpec.ofChange fnExactMergeTraceSpec)

/-- ITS FALSE NEIGHBOUR: 'it returns false'. Refute it at one input. -/
def fnExactMergeTraceWrong : ChangeSpec := { name := "fnExactMergeTrace", fn := fun _ => fun
  | [d1, d2] => { results := [.lit (.bool false)], args := [d1, d2] }
  | _ => none }
def FnExactMergeTraceWrongFalsely : Prop := fnExactMergeTraceRow.holds Try.pinned (OpenSpec.ofChange fnExactMergeTraceWrong)

/-- 'laws.FnExactPicksOf': WHATEVER THE INPUT: true; the input reads as it did. -/
def fnExactPicksOfSpec : ChangeSpec := { name := "fnExactPicksOf", fn := fun _ => fun
  | [d1, d2] => { results := [.lit (.bool true)], args := [d1, d2] }
  | _ => none }
def fnExactPicksOfRow : OpenClaim := { program := "ythomadhdjapahaa", sum := "3da266b2fe65e0b356d6cf1299a3669edf597af8fefe73cdaca74dd9fb91415e", func := "loop.example/g00800/laws.FnExactPicksOf", spec := "fnExactPicksOf", apart := false }
def FnExactPicksOfSaid : Prop := fnExactPicksOfRow.holds Try.pinned (OpenSpec.ofChange fnExactPicksOfSpec)

/-- ITS FALSE NEIGHBOUR: 'it returns false'. Refute it at one input. -/
def fnExactPicksOfWrong : ChangeSpec := { name := "fnExactPicksOf", fn := fun _ => fun
  | [d1, d2] => { results := [.lit (.bool false)], args := [d1, d2] }
  | _ => none }
def FnExactPicksOfWrongFalsely : Prop := fnExactPicksOfRow.holds Try.pinned (OpenSpec.ofChange fnExactPicksOfWrong)

/-- 'laws.FnExactSameLogs': WHATEVER THE INPUT: true; the input reads as it did. -/
def fnExactSameLogsSpec : ChangeSpec := { name := "fnExactSameLogs", fn := fun _ => fun
  | [d1, d2] => { results := [.lit (.bool true)], args := [d1, d2] }
  | _ => none }
def fnExactSameLogsRow : OpenClaim := { program := "ythomadhdjapahaa", sum := "3da266b2fe65e0b356d6cf1299a3669edf597af8fefe73cdaca74dd9fb91415e", func := "loop.example/g00800/laws.FnExactSameLogs", spec := "fnExactSameLogs", apart := false }
def FnExactSameLogsSaid : Prop := fnExactSameLogsRow.holds Try.pinned (OpenSpec.ofChange fnExactSameLogsSpec)

/-- ITS FALSE NEIGHBOUR: 'it returns false'. Refute it at one input. -/
def fnExactSameLogsWrong : ChangeSpec := { name := "fnExactSameLogs", fn := fun _ => fun
  | [d1, d2] => { results := [.lit (.bool false)], args := [d1, d2] }
  | _ => none }
def FnExactSameLogsWrongFalsely : Prop := fnExactSameLogsRow.holds Try.pinned (OpenSpec.ofChange fnExactSameLogsWrong)

/- THE SECOND FORM. 'bulk': how many values and letters a reading holds, each counted each time it is reached (what is shared counts as often as it is met; a slice's spare places count too). A statement '..UptoSaid' is the law's where the arguments, and the package variables that the reading takes, are together of bulk at most 1048576: NARROWER than '..Said'. Prove '..Said' where nothing that the law and all that it calls make is longer than what came in: it says more and counts as full. Else prove '..UptoSaid'. A law counts once. -/
mutual
def uptoBulk {H : Type} : DataW H → Nat
  | .lit (.string bytes) => bytes.length + 1
  | .lit _ => 1
  | .nil => 1
  | .ptr d => uptoBulk d + 1
  | .slice elems spare => uptoBulkAll elems + uptoBulkAll spare + 1
  | .agg parts => uptoBulkAll parts + 1
  | .iface _ d => uptoBulk d + 1
  | .map entries => uptoBulkEntries entries + 1
  | .held _ => 1
def uptoBulkAll {H : Type} : List (DataW H) → Nat
  | [] => 0
  | d :: r => uptoBulk d + uptoBulkAll r
def uptoBulkEntries {H : Type} : List (Lit × DataW H) → Nat
  | [] => 0
  | x :: r => uptoBulkEntry x + uptoBulkEntries r
def uptoBulkEntry {H : Type} : Lit × DataW H → Nat
  | (.string bytes, d) => bytes.length + uptoBulk d + 1
  | (_, d) => uptoBulk d + 1
 end
def uptoSmall : (H : Type) → List (DataW H) → Bool := fun _ ds => decide (uptoBulkAll ds ≤ 1048576)
def OpenSpec.upto (s : _root_.Go.ChangeSpec) : _root_.Go.OpenSpec := { _root_.Go.OpenSpec.ofChange s with cond := some uptoSmall }

/-- 'laws.FnMerges', WHERE WHAT IT READS IS OF BULK AT MOST 1048576: true; the input reads as it did. -/
def fnMergesUptoRow : OpenClaim := { program := "ythomadhdjapahaa", sum := "3da266b2fe65e0b356d6cf1299a3669edf597af8fefe73cdaca74dd9fb91415e", func := "loop.example/g00800/laws.FnMerges", spec := "fnMerges", unfollowed := true, recurses := true, apart := false, narrowed := true }
def FnMergesUptoSaid : Prop := fnMergesUptoRow.holds Try.pinned (OpenSpec.upto fnMergesSpec)

/-- 'laws.FnExactLogFault', WHERE WHAT IT READS IS OF BULK AT MOST 1048576: true; the input reads as it did. -/
def fnExactLogFaultUptoRow : OpenClaim := { program := "ythomadhdjapahaa", sum := "3da266b2fe65e0b356d6cf1299a3669edf597af8fefe73cdaca74dd9fb91415e", func := "loop.example/g00800/laws.FnExactLogFault", spec := "fnExactLogFault", apart := false, narrowed := true }
def FnExactLogFaultUptoSaid : Prop := fnExactLogFaultUptoRow.holds Try.pinned (OpenSpec.upto fnExactLogFaultSpec)

/-- 'laws.FnExactSplitLog', WHERE WHAT IT READS IS OF BULK AT MOST 1048576: true; the input reads as it did. -/
def fnExactSplitLogUptoRow : OpenClaim := { program := "ythomadhdjapahaa", sum := "3da266b2fe65e0b356d6cf1299a3669edf597af8fefe73cdaca74dd9fb91415e", func := "loop.example/g00800/laws.FnExactSplitLog", spec := "fnExactSplitLog", apart := false, narrowed := true }
def FnExactSplitLogUptoSaid : Prop := fnExactSplitLogUptoRow.holds Try.pinned (OpenSpec.upto fnExactSplitLogSpec)

/-- 'laws.FnExactMergeTrace', WHERE WHAT IT READS IS OF BULK AT MOST 1048576: true; the input reads as it did. -/
def fnExactMergeTraceUptoRow : OpenClaim := { program := "ythomadhdjapahaa", sum := "3da266b2fe65e0b356d6cf1299a3669edf597af8fefe73cdaca74dd9fb91415e", func := "loop.example/g00800/laws.FnExactMergeTrace", spec := "fnExactMergeTrace", unfollowed := true, recurses := true, apart := false, narrowed := true }
def FnExactMergeTraceUptoSaid : Prop := fnExactMergeTraceUptoRow.holds Try.pinned (OpenSpec.upto fnExactMergeTraceSpec)

/-- 'laws.FnExactPicksOf', WHERE WHAT IT READS IS OF BULK AT MOST 1048576: true; the input reads as it did. -/
def fnExactPicksOfUptoRow : OpenClaim := { program := "ythomadhdjapahaa", sum := "3da266b2fe65e0b356d6cf1299a3669edf597af8fefe73cdaca74dd9fb91415e", func := "loop.example/g00800/laws.FnExactPicksOf", spec := "fnExactPicksOf", apart := false, narrowed := true }
def FnExactPicksOfUptoSaid : Prop := fnExactPicksOfUptoRow.holds Try.pinned (OpenSpec.upto fnExactPicksOfSpec)

/-- 'laws.FnExactSameLogs', WHERE WHAT IT READS IS OF BULK AT MOST 1048576: true; the input reads as it did. -/
def fnExactSameLogsUptoRow : OpenClaim := { program := "ythomadhdjapahaa", sum := "3da266b2fe65e0b356d6cf1299a3669edf597af8fefe73cdaca74dd9fb91415e", func := "loop.example/g00800/laws.FnExactSameLogs", spec := "fnExactSameLogs", apart := false, narrowed := true }
def FnExactSameLogsUptoSaid : Prop := fnExactSameLogsUptoRow.holds Try.pinned (OpenSpec.upto fnExactSameLogsSpec)

end Rows
end Go.Proofs.Ythomadhdjapahaa
