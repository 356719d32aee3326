/-
  NARROWER THAN 'FOR EVERY INPUT', by the rows' own cells (each row's printed sentence says how): FnTurns: ifaces, laid · FnExactIsCaught: ifaces, laid.
  DERIVED. THE GIVEN ROWS OF THIS SEAT. 2 by the template 'for every input the law returns true; each argument reads behind the call as it read before'; 0 by the template 'total and deterministic' (their statements: YtldepledinolmaaGreatDoorTotals.lean).
  GIVEN WITH THE SEED: the statements are not yours to turn. If you find one false, say at which input.
  Laid BY PROGRAM, IN A SANDBOX (cutbox-rows.mjs): the forced cells as the released guide's own fill.sh prints them over the translation a5bc73d3afa957b7… (all of the seat's roots in one cut). By AI agents, Wed Nov 11 2026. No macro, syntax, notation, axiom, sorry.
-/
import Derived.Test.YtldepledinolmaaGreatDoorChecked
import GoSem.Claim
import GoSem.ClaimJoined
import GoSem.ClaimMapViews
import Derived.JoinedTies
import Derived.KernelRfl
namespace Go.Proofs.YtldepledinolmaaGreatDoor
/- THE CELL 'sum', in the pinned program and in every row, IS THE sha256 OF THE DUMP (.gsa) THAT YtldepledinolmaaGreatDoorProg.lean LOADS. Nothing in Lean hashes anything: it is a label: what it is worth is what the hold of that sum in a sandbox is worth. -/
noncomputable def Tryz.pinned : Pinned := { name := "ytldepledinolmaagreatdoor", sum := "a5bc73d3afa957b7ec72a7b0907f4c3f6d624b37754daaa4d481bd0949dc87d7", checked := Tryz.checked }
namespace Rows
def none {H : Type} : Left H := { results := [], args := [] }

/- WHAT THE LISTED PACKAGE-LEVEL VARIABLES READ AS WHEN THE CALL BEGINS. Each datum BY PROGRAM (the guide's laid-datum.mjs) off the statement by which the dump's own 'gosem.cut.vars' lays the variable. In a bare row this is a premise. The card (YtldepledinolmaaGreatDoorCards.lean) ties it to the program's text. -/
def laid_loop_example_g00800_impl_nibbleSums {H : Type} : DataW H := .agg [.lit (.int .u32 0), .lit (.int .u32 498536548), .lit (.int .u32 997073096), .lit (.int .u32 651767980), .lit (.int .u32 1994146192), .lit (.int .u32 1802195444), .lit (.int .u32 1303535960), .lit (.int .u32 1342533948), .lit (.int .u32 3988292384), .lit (.int .u32 4027552580), .lit (.int .u32 3604390888), .lit (.int .u32 3412177804), .lit (.int .u32 2607071920), .lit (.int .u32 2262029012), .lit (.int .u32 2685067896), .lit (.int .u32 3183342108)]
def laid_loop_example_g00800_impl_errNoFrame {H : Type} : DataW H := .iface "*errors.errorString" (.ptr (.agg [.lit (.string [110, 111, 116, 32, 108, 97, 105, 100, 32, 111, 117, 116, 32, 97, 115, 32, 97, 32, 102, 114, 97, 109, 101])]))
def laid_loop_example_g00800_impl_errOtherSum {H : Type} : DataW H := .iface "*errors.errorString" (.ptr (.agg [.lit (.string [116, 104, 101, 32, 115, 117, 109, 32, 105, 115, 32, 110, 111, 116, 32, 116, 104, 97, 116, 32, 111, 102, 32, 116, 104, 101, 32, 98, 121, 116, 101, 115, 32, 97, 104, 101, 97, 100, 32, 111, 102, 32, 105, 116])]))
def laid_loop_example_g00800_impl_errNoSteps {H : Type} : DataW H := .iface "*errors.errorString" (.ptr (.agg [.lit (.string [116, 104, 101, 32, 98, 121, 116, 101, 115, 32, 111, 102, 32, 116, 104, 101, 32, 101, 118, 101, 110, 116, 115, 32, 97, 114, 101, 32, 116, 104, 111, 115, 101, 32, 111, 102, 32, 110, 111, 110, 101])]))

/-- 'laws.FnTurns': WHATEVER THE INPUT: true; the input reads as it did. -/
def fnTurnsSpec : ChangeSpec := { name := "fnTurns", vars := ["loop.example/g00800/impl.nibbleSums", "loop.example/g00800/impl.errNoFrame", "loop.example/g00800/impl.errOtherSum", "loop.example/g00800/impl.errNoSteps"], fn := fun _ => fun
  | [d, g1, g2, g3, g4] => { results := [.lit (.bool true)], args := [d], vars := [g1, g2, g3, g4] }
  | _ => none }
def fnTurnsRow : OpenClaim := { program := "ytldepledinolmaagreatdoor", sum := "a5bc73d3afa957b7ec72a7b0907f4c3f6d624b37754daaa4d481bd0949dc87d7", func := "loop.example/g00800/laws.FnTurns", spec := "fnTurns", inPlace := ["internal/reflectlite.TypeOf"], unfollowed := true, recurses := true, named := ["loop.example/g00800/impl.nibbleSums", "loop.example/g00800/impl.errNoFrame", "loop.example/g00800/impl.errOtherSum", "loop.example/g00800/impl.errNoSteps"], ifaces := true, apart := false, laid := [("loop.example/g00800/impl.nibbleSums", laid_loop_example_g00800_impl_nibbleSums), ("loop.example/g00800/impl.errNoFrame", laid_loop_example_g00800_impl_errNoFrame), ("loop.example/g00800/impl.errOtherSum", laid_loop_example_g00800_impl_errOtherSum), ("loop.example/g00800/impl.errNoSteps", laid_loop_example_g00800_impl_errNoSteps)] }
def FnTurnsSaid : Prop := fnTurnsRow.holds Tryz.pinned (OpenSpec.ofChange fnTurnsSpec)

/-- ITS FALSE NEIGHBOUR: 'it returns false'. Refute it at one input. -/
def fnTurnsWrong : ChangeSpec := { name := "fnTurns", vars := ["loop.example/g00800/impl.nibbleSums", "loop.example/g00800/impl.errNoFrame", "loop.example/g00800/impl.errOtherSum", "loop.example/g00800/impl.errNoSteps"], fn := fun _ => fun
  | [d, g1, g2, g3, g4] => { results := [.lit (.bool false)], args := [d], vars := [g1, g2, g3, g4] }
  | _ => none }
def FnTurnsWrongFalsely : Prop := fnTurnsRow.holds Tryz.pinned (OpenSpec.ofChange fnTurnsWrong)

/-- 'laws.FnExactIsCaught': WHATEVER THE INPUT: true; the input reads as it did. -/
def fnExactIsCaughtSpec : ChangeSpec := { name := "fnExactIsCaught", vars := ["loop.example/g00800/impl.nibbleSums", "loop.example/g00800/impl.errNoFrame", "loop.example/g00800/impl.errOtherSum", "loop.example/g00800/impl.errNoSteps"], fn := fun _ => fun
  | [d1, d2, d3, d4, g1, g2, g3, g4] => { results := [.lit (.bool true)], args := [d1, d2, d3, d4], vars := [g1, g2, g3, g4] }
  | _ => none }
def fnExactIsCaughtRow : OpenClaim := { program := "ytldepledinolmaagreatdoor", sum := "a5bc73d3afa957b7ec72a7b0907f4c3f6d624b37754daaa4d481bd0949dc87d7", func := "loop.example/g00800/laws.FnExactIsCaught", spec := "fnExactIsCaught", inPlace := ["internal/reflectlite.TypeOf"], unfollowed := true, recurses := true, named := ["loop.example/g00800/impl.nibbleSums", "loop.example/g00800/impl.errNoFrame", "loop.example/g00800/impl.errOtherSum", "loop.example/g00800/impl.errNoSteps"], ifaces := true, apart := false, laid := [("loop.example/g00800/impl.nibbleSums", laid_loop_example_g00800_impl_nibbleSums), ("loop.example/g00800/impl.errNoFrame", laid_loop_example_g00800_impl_errNoFrame), ("loop.example/g00800/impl.errOtherSum", laid_loop_example_g00800_impl_errOtherSum), ("loop.example/g00800/impl.errNoSteps", laid_loop_example_g00800_impl_errNoSteps)] }
def FnExactIsCaughtSaid : Prop := fnExactIsCaughtRow.holds Tryz.pinned (OpenSpec.ofChange fnExactIsCaughtSpec)

/-- ITS FALSE NEIGHBOUR: 'it returns false'. Refute it at one input. -/
def fnExactIsCaughtWrong : ChangeSpec := { name := "fnExactIsCaught", vars := ["loop.example/g00800/impl.nibbleSums", "loop.example/g00800/impl.errNoFrame", "loop.example/g00800/impl.errOtherSum", "loop.example/g00800/impl.errNoSteps"], fn := fun _ => fun
  | [d1, d2, d3, d4, g1, g2, g3, g4] => { results := [.lit (.bool false)], args := [d1, d2, d3, d4], vars := [g1, g2, g3, g4] }
  | _ => none }
def FnExactIsCaughtWrongFalsely : Prop := fnExactIsCaughtRow.holds Tryz.pinned (OpenSpec.ofChange fnExactIsCaughtWrong)

/- THE SECOND FORM. 'bulk': how many values and letters a reading holds, each counted each time it is reached (what is shared counts as often as it is met; a slice's spare places count too). A statement '..UptoSaid' is the law's where the arguments, and the package variables that the reading takes, are together of bulk at most 1048576: NARROWER than '..Said'. Prove '..Said' where nothing that the law and all that it calls make is longer than what came in: it says more and counts as full. Else prove '..UptoSaid'. A law counts once. -/
mutual
def uptoBulk {H : Type} : DataW H → Nat
  | .lit (.string bytes) => bytes.length + 1
  | .lit _ => 1
  | .nil => 1
  | .ptr d => uptoBulk d + 1
  | .slice elems spare => uptoBulkAll elems + uptoBulkAll spare + 1
  | .agg parts => uptoBulkAll parts + 1
  | .iface _ d => uptoBulk d + 1
  | .map entries => uptoBulkEntries entries + 1
  | .held _ => 1
def uptoBulkAll {H : Type} : List (DataW H) → Nat
  | [] => 0
  | d :: r => uptoBulk d + uptoBulkAll r
def uptoBulkEntries {H : Type} : List (Lit × DataW H) → Nat
  | [] => 0
  | x :: r => uptoBulkEntry x + uptoBulkEntries r
def uptoBulkEntry {H : Type} : Lit × DataW H → Nat
  | (.string bytes, d) => bytes.length + uptoBulk d + 1
  | (_, d) => uptoBulk d + 1
 end
def uptoSmall : (H : Type) → List (DataW H) → Bool := fun _ ds => decide (uptoBulkAll ds ≤ 1048576)
def OpenSpec.upto (s : _root_.Go.ChangeSpec) : _root_.Go.OpenSpec := { _root_.Go.OpenSpec.ofChange s with cond := some uptoSmall }

/-- 'laws.FnTurns', WHERE WHAT IT READS IS OF BULK AT MOST 1048576: true; the input reads as it did. -/
def fnTurnsUptoRow : OpenClaim := { program := "ytldepledinolmaagreatdoor", sum := "a5bc73d3afa957b7ec72a7b0907f4c3f6d624b37754daaa4d481bd0949dc87d7", func := "loop.example/g00800/laws.FnTurns", spec := "fnTurns", inPlace := ["internal/reflectlite.TypeOf"], unfollowed := true, recurses := true, named := ["loop.example/g00800/impl.nibbleSums", "loop.example/g00800/impl.errNoFrame", "loop.example/g00800/impl.errOtherSum", "loop.example/g00800/impl.errNoSteps"], ifaces := true, apart := false, laid := [("loop.example/g00800/impl.nibbleSums", laid_loop_example_g00800_impl_nibbleSums), ("loop.example/g00800/impl.errNoFrame", laid_loop_example_g00800_impl_errNoFrame), ("loop.example/g00800/impl.errOtherSum", laid_loop_example_g00800_impl_errOtherSum), ("loop.example/g00800/impl.errNoSteps", laid_loop_example_g00800_impl_errNoSteps)], narrowed := true }
def FnTurnsUptoSaid : Prop := fnTurnsUptoRow.holds Tryz.pinned (OpenSpec.upto fnTurnsSpec)

/-- 'laws.FnExactIsCaught', WHERE WHAT IT READS IS OF BULK AT MOST 1048576: true; the input reads as it did. -/
def fnExactIsCaughtUptoRow : OpenClaim := { program := "ytldepledinolmaagreatdoor", sum := "a5bc73d3afa957b7ec72a7b0907f4c3f6d624b37754daaa4d481bd0949dc87d7", func := "loop.example/g00800/laws.FnExactIsCaught", spec := "fnExactIsCaught", inPlace := ["internal/reflectlite.TypeOf"], unfollowed := true, recurses := true, named := ["loop.example/g00800/impl.nibbleSums", "loop.example/g00800/impl.errNoFrame", "loop.example/g00800/impl.errOtherSum", "loop.example/g00800/impl.errNoSteps"], ifaces := true, apart := false, laid := [("loop.example/g00800/impl.nibbleSums", laid_loop_example_g00800_impl_nibbleSums), ("loop.example/g00800/impl.errNoFrame", laid_loop_example_g00800_impl_errNoFrame), ("loop.example/g00800/impl.errOtherSum", laid_loop_example_g00800_impl_errOtherSum), ("loop.example/g00800/impl.errNoSteps", laid_loop_example_g00800_impl_errNoSteps)], narrowed := true }
def FnExactIsCaughtUptoSaid : Prop := fnExactIsCaughtUptoRow.holds Tryz.pinned (OpenSpec.upto fnExactIsCaughtSpec)

end Rows
end Go.Proofs.YtldepledinolmaaGreatDoor
