/-
  No cell of these rows narrows 'for every input' (looked for: loops, veiled, ifaces, maps, wideKeys, modest, calm, conditions, laid).
  DERIVED. THE GIVEN ROWS OF THIS SEAT. 3 by the template 'for every input the law returns true; each argument reads behind the call as it read before'; 0 by the template 'total and deterministic' (their statements: YtnnfkmjhaljplaaTotals.lean).
  GIVEN WITH THE SEED: the statements are not yours to turn. If you find one false, say at which input.
  Laid BY PROGRAM, IN A SANDBOX (cutbox-rows.mjs): the forced cells as the released guide's own fill.sh prints them over the translation f098da4ad0794d5f… (all of the seat's roots in one cut). By AI agents, Wed Nov 11 2026. No macro, syntax, notation, axiom, sorry.
-/
import Derived.Test.YtnnfkmjhaljplaaChecked
import GoSem.Claim
import GoSem.ClaimJoined
import GoSem.ClaimMapViews
import Derived.JoinedTies
import Derived.KernelRfl
namespace Go.Proofs.Ytnnfkmjhaljplaa
/- THE CELL 'sum', in the pinned program and in every row, IS THE sha256 OF THE DUMP (.gsa) THAT YtnnfkmjhaljplaaProg.lean LOADS. Nothing in Lean hashes anything: it is a label: what it is worth is what the hold of that sum in a sandbox is worth. -/
noncomputable def Try.pinned : Pinned := { name := "ytnnfkmjhaljplaa", sum := "f098da4ad0794d5f4aecf9dadc39bd737643313895d1d6718f81c17ea23b9985", checked := Try.checked }
namespace Rows
def none {H : Type} : Left H := { results := [], args := [] }

/-- 'laws.FnOrders': WHATEVER THE INPUT: true; the input reads as it did. -/
def fnOrdersSpec : ChangeSpec := { name := "fnOrders", fn := fun _ => fun
  | [d] => { results := [.lit (.bool true)], args := [d] }
  | _ => none }
def fnOrdersRow : OpenClaim := { program := "ytnnfkmjhaljplaa", sum := "f098da4ad0794d5f4aecf9dadc39bd737643313895d1d6718f81c17ea23b9985", func := "loop.example/g00800/laws.FnOrders", spec := "fnOrders", inPlace := ["slices.overlaps[loop.example/g00800/impl.WriteList]"], unfollowed := true, recurses := true, plainKeys := false, apart := false }
def FnOrdersSaid : Prop := fnOrdersRow.holds Try.pinned (OpenSpec.ofChange fnOrdersSpec)

/-- ITS FALSE NEIGHBOUR: 'it returns false'. Refute it at one input. -/
def fnOrdersWrong : ChangeSpec := { name := "fnOrders", fn := fun _ => fun
  | [d] => { results := [.lit (.bool false)], args := [d] }
  | _ => none }
def FnOrdersWrongFalsely : Prop := fnOrdersRow.holds Try.pinned (OpenSpec.ofChange fnOrdersWrong)

/-- 'laws.FnChecks': WHATEVER THE INPUT: true; the input reads as it did. -/
def fnChecksSpec : ChangeSpec := { name := "fnChecks", fn := fun _ => fun
  | [d] => { results := [.lit (.bool true)], args := [d] }
  | _ => none }
def fnChecksRow : OpenClaim := { program := "ytnnfkmjhaljplaa", sum := "f098da4ad0794d5f4aecf9dadc39bd737643313895d1d6718f81c17ea23b9985", func := "loop.example/g00800/laws.FnChecks", spec := "fnChecks", inPlace := ["slices.overlaps[loop.example/g00800/impl.WriteList]"], unfollowed := true, recurses := true, plainKeys := false, apart := false }
def FnChecksSaid : Prop := fnChecksRow.holds Try.pinned (OpenSpec.ofChange fnChecksSpec)

/-- ITS FALSE NEIGHBOUR: 'it returns false'. Refute it at one input. -/
def fnChecksWrong : ChangeSpec := { name := "fnChecks", fn := fun _ => fun
  | [d] => { results := [.lit (.bool false)], args := [d] }
  | _ => none }
def FnChecksWrongFalsely : Prop := fnChecksRow.holds Try.pinned (OpenSpec.ofChange fnChecksWrong)

/-- 'laws.FnExactSameVerdicts': WHATEVER THE INPUT: true; the input reads as it did. -/
def fnExactSameVerdictsSpec : ChangeSpec := { name := "fnExactSameVerdicts", fn := fun _ => fun
  | [d1, d2] => { results := [.lit (.bool true)], args := [d1, d2] }
  | _ => none }
def fnExactSameVerdictsRow : OpenClaim := { program := "ytnnfkmjhaljplaa", sum := "f098da4ad0794d5f4aecf9dadc39bd737643313895d1d6718f81c17ea23b9985", func := "loop.example/g00800/laws.FnExactSameVerdicts", spec := "fnExactSameVerdicts", unfollowed := true, recurses := true, plainKeys := false, apart := false }
def FnExactSameVerdictsSaid : Prop := fnExactSameVerdictsRow.holds Try.pinned (OpenSpec.ofChange fnExactSameVerdictsSpec)

/-- ITS FALSE NEIGHBOUR: 'it returns false'. Refute it at one input. -/
def fnExactSameVerdictsWrong : ChangeSpec := { name := "fnExactSameVerdicts", fn := fun _ => fun
  | [d1, d2] => { results := [.lit (.bool false)], args := [d1, d2] }
  | _ => none }
def FnExactSameVerdictsWrongFalsely : Prop := fnExactSameVerdictsRow.holds Try.pinned (OpenSpec.ofChange fnExactSameVerdictsWrong)

/- THE SECOND FORM. 'bulk': how many values and letters a reading holds, each counted each time it is reached (what is shared counts as often as it is met; a slice's spare places count too). A statement '..UptoSaid' is the law's where the arguments, and the package variables that the reading takes, are together of bulk at most 1048576: NARROWER than '..Said'. Prove '..Said' where nothing that the law and all that it calls make is longer than what came in: it says more and counts as full. Else prove '..UptoSaid'. A law counts once. -/
mutual
def uptoBulk {H : Type} : DataW H → Nat
  | .lit (.string bytes) => bytes.length + 1
  | .lit _ => 1
  | .nil => 1
  | .ptr d => uptoBulk d + 1
  | .slice elems spare => uptoBulkAll elems + uptoBulkAll spare + 1
  | .agg parts => uptoBulkAll parts + 1
  | .iface _ d => uptoBulk d + 1
  | .map entries => uptoBulkEntries entries + 1
  | .held _ => 1
def uptoBulkAll {H : Type} : List (DataW H) → Nat
  | [] => 0
  | d :: r => uptoBulk d + uptoBulkAll r
def uptoBulkEntries {H : Type} : List (Lit × DataW H) → Nat
  | [] => 0
  | x :: r => uptoBulkEntry x + uptoBulkEntries r
def uptoBulkEntry {H : Type} : Lit × DataW H → Nat
  | (.string bytes, d) => bytes.length + uptoBulk d + 1
  | (_, d) => uptoBulk d + 1
 end
def uptoSmall : (H : Type) → List (DataW H) → Bool := fun _ ds => decide (uptoBulkAll ds ≤ 1048576)
def OpenSpec.upto (s : _root_.Go.ChangeSpec) : _root_.Go.OpenSpec := { _root_.Go.OpenSpec.ofChange s with cond := some uptoSmall }

/-- 'laws.FnOrders', WHERE WHAT IT READS IS OF BULK AT MOST 1048576: true; the input reads as it did. -/
def fnOrdersUptoRow : OpenClaim := { program := "ytnnfkmjhaljplaa", sum := "f098da4ad0794d5f4aecf9dadc39bd737643313895d1d6718f81c17ea23b9985", func := "loop.example/g00800/laws.FnOrders", spec := "fnOrders", inPlace := ["slices.overlaps[loop.example/g00800/impl.WriteList]"], unfollowed := true, recurses := true, plainKeys := false, apart := false, narrowed := true }
def FnOrdersUptoSaid : Prop := fnOrdersUptoRow.holds Try.pinned (OpenSpec.upto fnOrdersSpec)

/-- 'laws.FnChecks', WHERE WHAT IT READS IS OF BULK AT MOST 1048576: true; the input reads as it did. -/
def fnChecksUptoRow : OpenClaim := { program := "ytnnfkmjhaljplaa", sum := "f098da4ad0794d5f4aecf9dadc39bd737643313895d1d6718f81c17ea23b9985", func := "loop.example/g00800/laws.FnChecks", spec := "fnChecks", inPlace := ["slices.overlaps[loop.example/g00800/impl.WriteList]"], unfollowed := true, recurses := true, plainKeys := false, apart := false, narrowed := true }
def FnChecksUptoSaid : Prop := fnChecksUptoRow.holds Try.pinned (OpenSpec.upto fnChecksSpec)

/-- 'laws.FnExactSameVerdicts', WHERE WHAT IT READS IS OF BULK AT MOST 1048576: true; the input reads as it did. -/
def fnExactSameVerdictsUptoRow : OpenClaim := { program := "ytnnfkmjhaljplaa", sum := "f098da4ad0794d5f4aecf9dadc39bd737643313895d1d6718f81c17ea23b9985", func := "loop.example/g00800/laws.FnExactSameVerdicts", spec := "fnExactSameVerdicts", unfollowed := true, recurses := true, plainKeys := false, apart := false, narrowed := true }
def FnExactSameVerdictsUptoSaid : Prop := fnExactSameVerdictsUptoRow.holds Try.pinned (OpenSpec.upto fnExactSameVerdictsSpec)

end Rows
end Go.Proofs.Ytnnfkmjhaljplaa
