/-
  No cell of these rows narrows 'for every input' (looked for: loops, veiled, ifaces, maps, wideKeys, modest, calm, conditions, laid).
  DERIVED. THE GIVEN ROWS OF THIS SEAT. 7 by the template 'for every input the law returns true; each argument reads behind the call as it read before'; 0 by the template 'total and deterministic' (their statements: YtdmdljimbmhecaaTotals.lean).
  GIVEN WITH THE SEED: the statements are not yours to turn. If you find one false, say at which input.
  Laid BY PROGRAM, IN A SANDBOX (cutbox-rows.mjs): the forced cells as the released guide's own fill.sh prints them over the translation f507b3f9dafb4cf7… (all of the seat's roots in one cut). By AI agents, Wed Nov 11 2026. No macro, syntax, notation, axiom, sorry.
-/
import Derived.Test.YtdmdljimbmhecaaChecked
import GoSem.Claim
import GoSem.ClaimJoined
import GoSem.ClaimMapViews
import Derived.JoinedTies
import Derived.KernelRfl
namespace Go.Proofs.Ytdmdljimbmhecaa
/- THE CELL 'sum', in the pinned program and in every row, IS THE sha256 OF THE DUMP (.gsa) THAT YtdmdljimbmhecaaProg.lean LOADS. Nothing in Lean hashes anything: it is a label: what it is worth is what the hold of that sum in a sandbox is worth. -/
noncomputable def Try.pinned : Pinned := { name := "ytdmdljimbmhecaa", sum := "f507b3f9dafb4cf7a0549d4027cc09433ef8768a4eda87576f6a5306f20d268b", checked := Try.checked }
namespace Rows
def none {H : Type} : Left H := { results := [], args := [] }

/-- 'laws.FnOrders': WHATEVER THE INPUT: true; the input reads as it did. -/
def fnOrdersSpec : ChangeSpec := { name := "fnOrders", fn := fun _ => fun
  | [d] => { results := [.lit (.bool true)], args := [d] }
  | _ => none }
def fnOrdersRow : OpenClaim := { program := "ytdmdljimbmhecaa", sum := "f507b3f9dafb4cf7a0549d4027cc09433ef8768a4eda87576f6a5306f20d268b", func := "loop.example/g00800/laws.FnOrders", spec := "fnOrders", inPlace := ["slices.overlaps[loop.example/g00800/impl.WriteList]"], unfollowed := true, recurses := true, plainKeys := false, apart := false }
def FnOrdersSaid : Prop := fnOrdersRow.holds Try.pinned (OpenSpec.ofChange fnOrdersSpec)

/-- ITS FALSE NEIGHBOUR: 'it returns false'. Refute it at one input. -/
def fnOrdersWrong : ChangeSpec := { name := "fnOrders", fn := fun _ => fun
  | [d] => { results := [.lit (.bool false)], args := [d] }
  | _ => none }
def FnOrdersWrongFalsely : Prop := fnOrdersRow.holds Try.pinned (OpenSpec.ofChange fnOrdersWrong)

/-- 'laws.FnChecks': WHATEVER THE INPUT: true; the input reads as it did. -/
def fnChecksSpec : ChangeSpec := { name := "fnChecks", fn := fun _ => fun
  | [d] => { results := [.lit (.bool true)], args := [d] }
  | _ => none }
def fnChecksRow : OpenClaim := { program := "ytdmdljimbmhecaa", sum := "f507b3f9dafb4cf7a0549d4027cc09433ef8768a4eda87576f6a5306f20d268b", func := "loop.example/g00800/laws.FnChecks", spec := "fnChecks", inPlace := ["slices.overlaps[loop.example/g00800/impl.WriteList]"], unfollowed := true, recurses := true, plainKeys := false, apart := false }
def FnChecksSaid : Prop := fnChecksRow.holds Try.pinned (OpenSpec.ofChange fnChecksSpec)

/-- ITS FALSE NEIGHBOUR: 'it returns false'. Refute it at one input. -/
def fnChecksWrong : ChangeSpec := { name := "fnChecks", fn := fun _ => fun
  | [d] => { results := [.lit (.bool false)], args := [d] }
  | _ => none }
def FnChecksWrongFalsely : Prop := fnChecksRow.holds Try.pinned (OpenSpec.ofChange fnChecksWrong)

/-- 'laws.FnExactOrderFault': WHATEVER THE INPUT: true; the input reads as it did. -/
def fnExactOrderFaultSpec : ChangeSpec := { name := "fnExactOrderFault", fn := fun _ => fun
  | [d1, d2] => { results := [.lit (.bool true)], args := [d1, d2] }
  | _ => none }
def fnExactOrderFaultRow : OpenClaim := { program := "ytdmdljimbmhecaa", sum := "f507b3f9dafb4cf7a0549d4027cc09433ef8768a4eda87576f6a5306f20d268b", func := "loop.example/g00800/laws.FnExactOrderFault", spec := "fnExactOrderFault", inPlace := ["slices.overlaps[loop.example/g00800/impl.WriteList]"], unfollowed := true, recurses := true, plainKeys := false, apart := false }
def FnExactOrderFaultSaid : Prop := fnExactOrderFaultRow.holds Try.pinned (OpenSpec.ofChange fnExactOrderFaultSpec)

/-- ITS FALSE NEIGHBOUR: 'it returns false'. Refute it at one input. -/
def fnExactOrderFaultWrong : ChangeSpec := { name := "fnExactOrderFault", fn := fun _ => fun
  | [d1, d2] => { results := [.lit (.bool false)], args := [d1, d2] }
  | _ => none }
def FnExactOrderFaultWrongFalsely : Prop := fnExactOrderFaultRow.holds Try.pinned (OpenSpec.ofChange fnExactOrderFaultWrong)

/-- 'laws.FnExactOrdersOf': WHATEVER THE INPUT: true; the input reads as it did. -/
def fnExactOrdersOfSpec : ChangeSpec := { name := "fnExactOrdersOf", fn := fun _ => fun
  | [d1, d2] => { results := [.lit (.bool true)], args := [d1, d2] }
  | _ => none }
def fnExactOrdersOfRow : OpenClaim := { program := "ytdmdljimbmhecaa", sum := "f507b3f9dafb4cf7a0549d4027cc09433ef8768a4eda87576f6a5306f20d268b", func := "loop.example/g00800/laws.FnExactOrdersOf", spec := "fnExactOrdersOf", inPlace := ["slices.overlaps[loop.example/g00800/impl.WriteList]"], unfollowed := true, recurses := true, plainKeys := false, apart := false }
def FnExactOrdersOfSaid : Prop := fnExactOrdersOfRow.holds Try.pinned (OpenSpec.ofChange fnExactOrdersOfSpec)

/-- ITS FALSE NEIGHBOUR: 'it returns false'. Refute it at one input. -/
def fnExactOrdersOfWrong : ChangeSpec := { name := "fnExactOrdersOf", fn := fun _ => fun
  | [d1, d2] => { results := [.lit (.bool false)], args := [d1, d2] }
  | _ => none }
def FnExactOrdersOfWrongFalsely : Prop := fnExactOrdersOfRow.holds Try.pinned (OpenSpec.ofChange fnExactOrdersOfWrong)

/-- 'laws.FnExactCheckTrace': WHATEVER THE INPUT: true; the input reads as it did. -/
def fnExactCheckTraceSpec : ChangeSpec := { name := "fnExactCheckTrace", fn := fun _ => fun
  | [d1, d2] => { results := [.lit (.bool true)], args := [d1, d2] }
  | _ => none }
def fnExactCheckTraceRow : OpenClaim := { program := "ytdmdljimbmhecaa", sum := "f507b3f9dafb4cf7a0549d4027cc09433ef8768a4eda87576f6a5306f20d268b", func := "loop.example/g00800/laws.FnExactCheckTrace", spec := "fnExactCheckTrace", inPlace := ["slices.overlaps[loop.example/g00800/impl.WriteList]"], unfollowed := true, recurses := true, plainKeys := false, apart := false }
def FnExactCheckTraceSaid : Prop := fnExactCheckTraceRow.holds Try.pinned (OpenSpec.ofChange fnExactCheckTraceSpec)

/-- ITS FALSE NEIGHBOUR: 'it returns false'. Refute it at one input. -/
def fnExactCheckTraceWrong : ChangeSpec := { name := "fnExactCheckTrace", fn := fun _ => fun
  | [d1, d2] => { results := [.lit (.bool false)], args := [d1, d2] }
  | _ => none }
def FnExactCheckTraceWrongFalsely : Prop := fnExactCheckTraceRow.holds Try.pinned (OpenSpec.ofChange fnExactCheckTraceWrong)

/-- 'laws.FnExactIsWitness': WHATEVER THE INPUT: true; the input reads as it did. -/
def fnExactIsWitnessSpec : ChangeSpec := { name := "fnExactIsWitness", fn := fun _ => fun
  | [d1, d2, d3] => { results := [.lit (.bool true)], args := [d1, d2, d3] }
  | _ => none }
def fnExactIsWitnessRow : OpenClaim := { program := "ytdmdljimbmhecaa", sum := "f507b3f9dafb4cf7a0549d4027cc09433ef8768a4eda87576f6a5306f20d268b", func := "loop.example/g00800/laws.FnExactIsWitness", spec := "fnExactIsWitness", inPlace := ["slices.overlaps[loop.example/g00800/impl.WriteList]"], unfollowed := true, recurses := true, plainKeys := false, apart := false }
def FnExactIsWitnessSaid : Prop := fnExactIsWitnessRow.holds Try.pinned (OpenSpec.ofChange fnExactIsWitnessSpec)

/-- ITS FALSE NEIGHBOUR: 'it returns false'. Refute it at one input. -/
def fnExactIsWitnessWrong : ChangeSpec := { name := "fnExactIsWitness", fn := fun _ => fun
  | [d1, d2, d3] => { results := [.lit (.bool false)], args := [d1, d2, d3] }
  | _ => none }
def FnExactIsWitnessWrongFalsely : Prop := fnExactIsWitnessRow.holds Try.pinned (OpenSpec.ofChange fnExactIsWitnessWrong)

/-- 'laws.FnExactSameOrders': WHATEVER THE INPUT: true; the input reads as it did. -/
def fnExactSameOrdersSpec : ChangeSpec := { name := "fnExactSameOrders", fn := fun _ => fun
  | [d1, d2] => { results := [.lit (.bool true)], args := [d1, d2] }
  | _ => none }
def fnExactSameOrdersRow : OpenClaim := { program := "ytdmdljimbmhecaa", sum := "f507b3f9dafb4cf7a0549d4027cc09433ef8768a4eda87576f6a5306f20d268b", func := "loop.example/g00800/laws.FnExactSameOrders", spec := "fnExactSameOrders", unfollowed := true, recurses := true, plainKeys := false, apart := false }
def FnExactSameOrdersSaid : Prop := fnExactSameOrdersRow.holds Try.pinned (OpenSpec.ofChange fnExactSameOrdersSpec)

/-- ITS FALSE NEIGHBOUR: 'it returns false'. Refute it at one input. -/
def fnExactSameOrdersWrong : ChangeSpec := { name := "fnExactSameOrders", fn := fun _ => fun
  | [d1, d2] => { results := [.lit (.bool false)], args := [d1, d2] }
  | _ => none }
def FnExactSameOrdersWrongFalsely : Prop := fnExactSameOrdersRow.holds Try.pinned (OpenSpec.ofChange fnExactSameOrdersWrong)

/- THE SECOND FORM. 'bulk': how many values and letters a reading holds, each counted each time it is reached (what is shared counts as often as it is met; a slice's spare places count too). A statement '..UptoSaid' is the law's where the arguments, and the package variables that the reading takes, are together of bulk at most 1048576: NARROWER than '..Said'. Prove '..Said' where nothing that the law and all that it calls make is longer than what came in: it says more and counts as full. Else prove '..UptoSaid'. A law counts once. -/
mutual
def uptoBulk {H : Type} : DataW H → Nat
  | .lit (.string bytes) => bytes.length + 1
  | .lit _ => 1
  | .nil => 1
  | .ptr d => uptoBulk d + 1
  | .slice elems spare => uptoBulkAll elems + uptoBulkAll spare + 1
  | .agg parts => uptoBulkAll parts + 1
  | .iface _ d => uptoBulk d + 1
  | .map entries => uptoBulkEntries entries + 1
  | .held _ => 1
def uptoBulkAll {H : Type} : List (DataW H) → Nat
  | [] => 0
  | d :: r => uptoBulk d + uptoBulkAll r
def uptoBulkEntries {H : Type} : List (Lit × DataW H) → Nat
  | [] => 0
  | x :: r => uptoBulkEntry x + uptoBulkEntries r
def uptoBulkEntry {H : Type} : Lit × DataW H → Nat
  | (.string bytes, d) => bytes.length + uptoBulk d + 1
  | (_, d) => uptoBulk d + 1
 end
def uptoSmall : (H : Type) → List (DataW H) → Bool := fun _ ds => decide (uptoBulkAll ds ≤ 1048576)
def OpenSpec.upto (s : _root_.Go.ChangeSpec) : _root_.Go.OpenSpec := { _root_.Go.OpenSpec.ofChange s with cond := some uptoSmall }

/-- 'laws.FnOrders', WHERE WHAT IT READS IS OF BULK AT MOST 1048576: true; the input reads as it did. -/
def fnOrdersUptoRow : OpenClaim := { program := "ytdmdljimbmhecaa", sum := "f507b3f9dafb4cf7a0549d4027cc09433ef8768a4eda87576f6a5306f20d268b", func := "loop.example/g00800/laws.FnOrders", spec := "fnOrders", inPlace := ["slices.overlaps[loop.example/g00800/impl.WriteList]"], unfollowed := true, recurses := true, plainKeys := false, apart := false, narrowed := true }
def FnOrdersUptoSaid : Prop := fnOrdersUptoRow.holds Try.pinned (OpenSpec.upto fnOrdersSpec)

/-- 'laws.FnChecks', WHERE WHAT IT READS IS OF BULK AT MOST 1048576: true; the input reads as it did. -/
def fnChecksUptoRow : OpenClaim := { program := "ytdmdljimbmhecaa", sum := "f507b3f9dafb4cf7a0549d4027cc09433ef8768a4eda87576f6a5306f20d268b", func := "loop.example/g00800/laws.FnChecks", spec := "fnChecks", inPlace := ["slices.overlaps[loop.example/g00800/impl.WriteList]"], unfollowed := true, recurses := true, plainKeys := false, apart := false, narrowed := true }
def FnChecksUptoSaid : Prop := fnChecksUptoRow.holds Try.pinned (OpenSpec.upto fnChecksSpec)

/-- 'laws.FnExactOrderFault', WHERE WHAT IT READS IS OF BULK AT MOST 1048576: true; the input reads as it did. -/
def fnExactOrderFaultUptoRow : OpenClaim := { program := "ytdmdljimbmhecaa", sum := "f507b3f9dafb4cf7a0549d4027cc09433ef8768a4eda87576f6a5306f20d268b", func := "loop.example/g00800/laws.FnExactOrderFault", spec := "fnExactOrderFault", inPlace := ["slices.overlaps[loop.example/g00800/impl.WriteList]"], unfollowed := true, recurses := true, plainKeys := false, apart := false, narrowed := true }
def FnExactOrderFaultUptoSaid : Prop := fnExactOrderFaultUptoRow.holds Try.pinned (OpenSpec.upto fnExactOrderFaultSpec)

/-- 'laws.FnExactOrdersOf', WHERE WHAT IT READS IS OF BULK AT MOST 1048576: true; the input reads as it did. -/
def fnExactOrdersOfUptoRow : OpenClaim := { program := "ytdmdljimbmhecaa", sum := "f507b3f9dafb4cf7a0549d4027cc09433ef8768a4eda87576f6a5306f20d268b", func := "loop.example/g00800/laws.FnExactOrdersOf", spec := "fnExactOrdersOf", inPlace := ["slices.overlaps[loop.example/g00800/impl.WriteList]"], unfollowed := true, recurses := true, plainKeys := false, apart := false, narrowed := true }
def FnExactOrdersOfUptoSaid : Prop := fnExactOrdersOfUptoRow.holds Try.pinned (OpenSpec.upto fnExactOrdersOfSpec)

/-- 'laws.FnExactCheckTrace', WHERE WHAT IT READS IS OF BULK AT MOST 1048576: true; the input reads as it did. -/
def fnExactCheckTraceUptoRow : OpenClaim := { program := "ytdmdljimbmhecaa", sum := "f507b3f9dafb4cf7a0549d4027cc09433ef8768a4eda87576f6a5306f20d268b", func := "loop.example/g00800/laws.FnExactCheckTrace", spec := "fnExactCheckTrace", inPlace := ["slices.overlaps[loop.example/g00800/impl.WriteList]"], unfollowed := true, recurses := true, plainKeys := false, apart := false, narrowed := true }
def FnExactCheckTraceUptoSaid : Prop := fnExactCheckTraceUptoRow.holds Try.pinned (OpenSpec.upto fnExactCheckTraceSpec)

/-- 'laws.FnExactIsWitness', WHERE WHAT IT READS IS OF BULK AT MOST 1048576: true; the input reads as it did. -/
def fnExactIsWitnessUptoRow : OpenClaim := { program := "ytdmdljimbmhecaa", sum := "f507b3f9dafb4cf7a0549d4027cc09433ef8768a4eda87576f6a5306f20d268b", func := "loop.example/g00800/laws.FnExactIsWitness", spec := "fnExactIsWitness", inPlace := ["slices.overlaps[loop.example/g00800/impl.WriteList]"], unfollowed := true, recurses := true, plainKeys := false, apart := false, narrowed := true }
def FnExactIsWitnessUptoSaid : Prop := fnExactIsWitnessUptoRow.holds Try.pinned (OpenSpec.upto fnExactIsWitnessSpec)

/-- 'laws.FnExactSameOrders', WHERE WHAT IT READS IS OF BULK AT MOST 1048576: true; the input reads as it did. -/
def fnExactSameOrdersUptoRow : OpenClaim := { program := "ytdmdljimbmhecaa", sum := "f507b3f9dafb4cf7a0549d4027cc09433ef8768a4eda87576f6a5306f20d268b", func := "loop.example/g00800/laws.FnExactSameOrders", spec := "fnExactSameOrders", unfollowed := true, recurses := true, plainKeys := false, apart := false, narrowed := true }
def FnExactSameOrdersUptoSaid : Prop := fnExactSameOrdersUptoRow.holds Try.pinned (OpenSpec.upto fnExactSameOrdersSpec)

end Rows
end Go.Proofs.Ytdmdljimbmhecaa
