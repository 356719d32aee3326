/-
  No cell of these rows narrows 'for every input' (looked for: loops, veiled, ifaces, maps, wideKeys, modest, calm, conditions, laid).
  DERIVED. THE GIVEN ROWS OF THIS SEAT. 5 by the template 'for every input the law returns true; each argument reads behind the call as it read before'; 0 by the template 'total and deterministic' (their statements: YtldepledinolmaaTotals.lean).
  GIVEN WITH THE SEED: the statements are not yours to turn. If you find one false, say at which input.
  Laid BY PROGRAM, IN A SANDBOX (cutbox-rows.mjs): the forced cells as the released guide's own fill.sh prints them over the translation e703647df4be9205… (all of the seat's roots in one cut). By AI agents, Wed Nov 11 2026. No macro, syntax, notation, axiom, sorry.
-/
import Derived.Test.YtldepledinolmaaChecked
import GoSem.Claim
import GoSem.ClaimJoined
import GoSem.ClaimMapViews
import Derived.JoinedTies
import Derived.KernelRfl
namespace Go.Proofs.Ytldepledinolmaa
/- THE CELL 'sum', in the pinned program and in every row, IS THE sha256 OF THE DUMP (.gsa) THAT YtldepledinolmaaProg.lean LOADS. Nothing in Lean hashes anything: it is a label: what it is worth is what the hold of that sum in a sandbox is worth. -/
noncomputable def Try.pinned : Pinned := { name := "ytldepledinolmaa", sum := "e703647df4be920539175ffb8f8b2866bacc2e014dc82faae3ac84712f79d589", checked := Try.checked }
namespace Rows
def none {H : Type} : Left H := { results := [], args := [] }

/-- 'laws.FnOrders': WHATEVER THE INPUT: true; the input reads as it did. -/
def fnOrdersSpec : ChangeSpec := { name := "fnOrders", fn := fun _ => fun
  | [d] => { results := [.lit (.bool true)], args := [d] }
  | _ => none }
def fnOrdersRow : OpenClaim := { program := "ytldepledinolmaa", sum := "e703647df4be920539175ffb8f8b2866bacc2e014dc82faae3ac84712f79d589", func := "loop.example/g00800/laws.FnOrders", spec := "fnOrders", inPlace := ["slices.overlaps[loop.example/g00800/impl.WriteList]"], unfollowed := true, recurses := true, plainKeys := false, apart := false }
def FnOrdersSaid : Prop := fnOrdersRow.holds Try.pinned (OpenSpec.ofChange fnOrdersSpec)

/-- ITS FALSE NEIGHBOUR: 'it returns false'. Refute it at one input. -/
def fnOrdersWrong : ChangeSpec := { name := "fnOrders", fn := fun _ => fun
  | [d] => { results := [.lit (.bool false)], args := [d] }
  | _ => none }
def FnOrdersWrongFalsely : Prop := fnOrdersRow.holds Try.pinned (OpenSpec.ofChange fnOrdersWrong)

/-- 'laws.FnChecks': WHATEVER THE INPUT: true; the input reads as it did. -/
def fnChecksSpec : ChangeSpec := { name := "fnChecks", fn := fun _ => fun
  | [d] => { results := [.lit (.bool true)], args := [d] }
  | _ => none }
def fnChecksRow : OpenClaim := { program := "ytldepledinolmaa", sum := "e703647df4be920539175ffb8f8b2866bacc2e014dc82faae3ac84712f79d589", func := "loop.example/g00800/laws.FnChecks", spec := "fnChecks", inPlace := ["slices.overlaps[loop.example/g00800/impl.WriteList]"], unfollowed := true, recurses := true, plainKeys := false, apart := false }
def FnChecksSaid : Prop := fnChecksRow.holds Try.pinned (OpenSpec.ofChange fnChecksSpec)

/-- ITS FALSE NEIGHBOUR: 'it returns false'. Refute it at one input. -/
def fnChecksWrong : ChangeSpec := { name := "fnChecks", fn := fun _ => fun
  | [d] => { results := [.lit (.bool false)], args := [d] }
  | _ => none }
def FnChecksWrongFalsely : Prop := fnChecksRow.holds Try.pinned (OpenSpec.ofChange fnChecksWrong)

/-- 'laws.FnExactCheckTrace': WHATEVER THE INPUT: true; the input reads as it did. -/
def fnExactCheckTraceSpec : ChangeSpec := { name := "fnExactCheckTrace", fn := fun _ => fun
  | [d1, d2] => { results := [.lit (.bool true)], args := [d1, d2] }
  | _ => none }
def fnExactCheckTraceRow : OpenClaim := { program := "ytldepledinolmaa", sum := "e703647df4be920539175ffb8f8b2866bacc2e014dc82faae3ac84712f79d589", func := "loop.example/g00800/laws.FnExactCheckTrace", spec := "fnExactCheckTrace", inPlace := ["slices.overlaps[loop.example/g00800/impl.WriteList]"], unfollowed := true, recurses := true, plainKeys := false, apart := false }
def FnExactCheckTraceSaid : Prop := fnExactCheckTraceRow.holds Try.pinned (OpenSpec.ofChange fnExactCheckTraceSpec)

/-- ITS FALSE NEIGHBOUR: 'it returns false'. Refute it at one input. -/
def fnExactCheckTraceWrong : ChangeSpec := { name := "fnExactCheckTrace", fn := fun _ => fun
  | [d1, d2] => { results := [.lit (.bool false)], args := [d1, d2] }
  | _ => none }
def FnExactCheckTraceWrongFalsely : Prop := fnExactCheckTraceRow.holds Try.pinned (OpenSpec.ofChange fnExactCheckTraceWrong)

/-- 'laws.FnExactIsFlat': WHATEVER THE INPUT: true; the input reads as it did. -/
def fnExactIsFlatSpec : ChangeSpec := { name := "fnExactIsFlat", fn := fun _ => fun
  | [d1, d2] => { results := [.lit (.bool true)], args := [d1, d2] }
  | _ => none }
def fnExactIsFlatRow : OpenClaim := { program := "ytldepledinolmaa", sum := "e703647df4be920539175ffb8f8b2866bacc2e014dc82faae3ac84712f79d589", func := "loop.example/g00800/laws.FnExactIsFlat", spec := "fnExactIsFlat", plainKeys := false, apart := false }
def FnExactIsFlatSaid : Prop := fnExactIsFlatRow.holds Try.pinned (OpenSpec.ofChange fnExactIsFlatSpec)

/-- ITS FALSE NEIGHBOUR: 'it returns false'. Refute it at one input. -/
def fnExactIsFlatWrong : ChangeSpec := { name := "fnExactIsFlat", fn := fun _ => fun
  | [d1, d2] => { results := [.lit (.bool false)], args := [d1, d2] }
  | _ => none }
def FnExactIsFlatWrongFalsely : Prop := fnExactIsFlatRow.holds Try.pinned (OpenSpec.ofChange fnExactIsFlatWrong)

/-- 'laws.FnExactTurnBit': WHATEVER THE INPUT: true; the input reads as it did. -/
def fnExactTurnBitSpec : ChangeSpec := { name := "fnExactTurnBit", fn := fun _ => fun
  | [d1, d2, d3] => { results := [.lit (.bool true)], args := [d1, d2, d3] }
  | _ => none }
def fnExactTurnBitRow : OpenClaim := { program := "ytldepledinolmaa", sum := "e703647df4be920539175ffb8f8b2866bacc2e014dc82faae3ac84712f79d589", func := "loop.example/g00800/laws.FnExactTurnBit", spec := "fnExactTurnBit", plainKeys := false, apart := false }
def FnExactTurnBitSaid : Prop := fnExactTurnBitRow.holds Try.pinned (OpenSpec.ofChange fnExactTurnBitSpec)

/-- ITS FALSE NEIGHBOUR: 'it returns false'. Refute it at one input. -/
def fnExactTurnBitWrong : ChangeSpec := { name := "fnExactTurnBit", fn := fun _ => fun
  | [d1, d2, d3] => { results := [.lit (.bool false)], args := [d1, d2, d3] }
  | _ => none }
def FnExactTurnBitWrongFalsely : Prop := fnExactTurnBitRow.holds Try.pinned (OpenSpec.ofChange fnExactTurnBitWrong)

/- THE SECOND FORM. 'bulk': how many values and letters a reading holds, each counted each time it is reached (what is shared counts as often as it is met; a slice's spare places count too). A statement '..UptoSaid' is the law's where the arguments, and the package variables that the reading takes, are together of bulk at most 1048576: NARROWER than '..Said'. Prove '..Said' where nothing that the law and all that it calls make is longer than what came in: it says more and counts as full. Else prove '..UptoSaid'. A law counts once. -/
mutual
def uptoBulk {H : Type} : DataW H → Nat
  | .lit (.string bytes) => bytes.length + 1
  | .lit _ => 1
  | .nil => 1
  | .ptr d => uptoBulk d + 1
  | .slice elems spare => uptoBulkAll elems + uptoBulkAll spare + 1
  | .agg parts => uptoBulkAll parts + 1
  | .iface _ d => uptoBulk d + 1
  | .map entries => uptoBulkEntries entries + 1
  | .held _ => 1
def uptoBulkAll {H : Type} : List (DataW H) → Nat
  | [] => 0
  | d :: r => uptoBulk d + uptoBulkAll r
def uptoBulkEntries {H : Type} : List (Lit × DataW H) → Nat
  | [] => 0
  | x :: r => uptoBulkEntry x + uptoBulkEntries r
def uptoBulkEntry {H : Type} : Lit × DataW H → Nat
  | (.string bytes, d) => bytes.length + uptoBulk d + 1
  | (_, d) => uptoBulk d + 1
 end
def uptoSmall : (H : Type) → List (DataW H) → Bool := fun _ ds => decide (uptoBulkAll ds ≤ 1048576)
def OpenSpec.upto (s : _root_.Go.ChangeSpec) : _root_.Go.OpenSpec := { _root_.Go.OpenSpec.ofChange s with cond := some uptoSmall }

/-- 'laws.FnOrders', WHERE WHAT IT READS IS OF BULK AT MOST 1048576: true; the input reads as it did. -/
def fnOrdersUptoRow : OpenClaim := { program := "ytldepledinolmaa", sum := "e703647df4be920539175ffb8f8b2866bacc2e014dc82faae3ac84712f79d589", func := "loop.example/g00800/laws.FnOrders", spec := "fnOrders", inPlace := ["slices.overlaps[loop.example/g00800/impl.WriteList]"], unfollowed := true, recurses := true, plainKeys := false, apart := false, narrowed := true }
def FnOrdersUptoSaid : Prop := fnOrdersUptoRow.holds Try.pinned (OpenSpec.upto fnOrdersSpec)

/-- 'laws.FnChecks', WHERE WHAT IT READS IS OF BULK AT MOST 1048576: true; the input reads as it did. -/
def fnChecksUptoRow : OpenClaim := { program := "ytldepledinolmaa", sum := "e703647df4be920539175ffb8f8b2866bacc2e014dc82faae3ac84712f79d589", func := "loop.example/g00800/laws.FnChecks", spec := "fnChecks", inPlace := ["slices.overlaps[loop.example/g00800/impl.WriteList]"], unfollowed := true, recurses := true, plainKeys := false, apart := false, narrowed := true }
def FnChecksUptoSaid : Prop := fnChecksUptoRow.holds Try.pinned (OpenSpec.upto fnChecksSpec)

/-- 'laws.FnExactCheckTrace', WHERE WHAT IT READS IS OF BULK AT MOST 1048576: true; the input reads as it did. -/
def fnExactCheckTraceUptoRow : OpenClaim := { program := "ytldepledinolmaa", sum := "e703647df4be920539175ffb8f8b2866bacc2e014dc82faae3ac84712f79d589", func := "loop.example/g00800/laws.FnExactCheckTrace", spec := "fnExactCheckTrace", inPlace := ["slices.overlaps[loop.example/g00800/impl.WriteList]"], unfollowed := true, recurses := true, plainKeys := false, apart := false, narrowed := true }
def FnExactCheckTraceUptoSaid : Prop := fnExactCheckTraceUptoRow.holds Try.pinned (OpenSpec.upto fnExactCheckTraceSpec)

/-- 'laws.FnExactIsFlat', WHERE WHAT IT READS IS OF BULK AT MOST 1048576: true; the input reads as it did. -/
def fnExactIsFlatUptoRow : OpenClaim := { program := "ytldepledinolmaa", sum := "e703647df4be920539175ffb8f8b2866bacc2e014dc82faae3ac84712f79d589", func := "loop.example/g00800/laws.FnExactIsFlat", spec := "fnExactIsFlat", plainKeys := false, apart := false, narrowed := true }
def FnExactIsFlatUptoSaid : Prop := fnExactIsFlatUptoRow.holds Try.pinned (OpenSpec.upto fnExactIsFlatSpec)

/-- 'laws.FnExactTurnBit', WHERE WHAT IT READS IS OF BULK AT MOST 1048576: true; the input reads as it did. -/
def fnExactTurnBitUptoRow : OpenClaim := { program := "ytldepledinolmaa", sum := "e703647df4be920539175ffb8f8b2866bacc2e014dc82faae3ac84712f79d589", func := "loop.example/g00800/laws.FnExactTurnBit", spec := "fnExactTurnBit", plainKeys := false, apart := false, narrowed := true }
def FnExactTurnBitUptoSaid : Prop := fnExactTurnBitUptoRow.holds Try.pinned (OpenSpec.upto fnExactTurnBitSpec)

end Rows
end Go.Proofs.Ytldepledinolmaa
