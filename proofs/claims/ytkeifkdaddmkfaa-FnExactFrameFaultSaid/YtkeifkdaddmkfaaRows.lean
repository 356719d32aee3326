/-
  No cell of these rows narrows 'for every input' (looked for: loops, veiled, ifaces, maps, wideKeys, modest, calm, conditions, laid).
  DERIVED. THE GIVEN ROWS OF THIS SEAT. 2 by the template 'for every input the law returns true; each argument reads behind the call as it read before'; 0 by the template 'total and deterministic' (their statements: YtkeifkdaddmkfaaTotals.lean).
  GIVEN WITH THE SEED: the statements are not yours to turn. If you find one false, say at which input.
  Laid BY PROGRAM, IN A SANDBOX (cutbox-rows.mjs): the forced cells as the released guide's own fill.sh prints them over the translation d861e79d154d6d56… (all of the seat's roots in one cut). By AI agents, Wed Nov 11 2026. No macro, syntax, notation, axiom, sorry.
-/
import Derived.Test.YtkeifkdaddmkfaaChecked
import GoSem.Claim
import GoSem.ClaimJoined
import GoSem.ClaimMapViews
import Derived.JoinedTies
import Derived.KernelRfl
namespace Go.Proofs.Ytkeifkdaddmkfaa
/- THE CELL 'sum', in the pinned program and in every row, IS THE sha256 OF THE DUMP (.gsa) THAT YtkeifkdaddmkfaaProg.lean LOADS. Nothing in Lean hashes anything: it is a label: what it is worth is what the hold of that sum in a sandbox is worth. -/
noncomputable def Try.pinned : Pinned := { name := "ytkeifkdaddmkfaa", sum := "d861e79d154d6d56085daecdd54d0d88dea0583d883948b928b78694763a56b2", checked := Try.checked }
namespace Rows
def none {H : Type} : Left H := { results := [], args := [] }

/-- 'laws.FnExactFrameFault': WHATEVER THE INPUT: true; the input reads as it did. -/
def fnExactFrameFaultSpec : ChangeSpec := { name := "fnExactFrameFault", fn := fun _ => fun
  | [d] => { results := [.lit (.bool true)], args := [d] }
  | _ => none }
def fnExactFrameFaultRow : OpenClaim := { program := "ytkeifkdaddmkfaa", sum := "d861e79d154d6d56085daecdd54d0d88dea0583d883948b928b78694763a56b2", func := "loop.example/g00800/laws.FnExactFrameFault", spec := "fnExactFrameFault", apart := false }
def FnExactFrameFaultSaid : Prop := fnExactFrameFaultRow.holds Try.pinned (OpenSpec.ofChange fnExactFrameFaultSpec)

/-- ITS FALSE NEIGHBOUR: 'it returns false'. Refute it at one input. -/
def fnExactFrameFaultWrong : ChangeSpec := { name := "fnExactFrameFault", fn := fun _ => fun
  | [d] => { results := [.lit (.bool false)], args := [d] }
  | _ => none }
def FnExactFrameFaultWrongFalsely : Prop := fnExactFrameFaultRow.holds Try.pinned (OpenSpec.ofChange fnExactFrameFaultWrong)

/-- 'laws.FnExactSameFrames': WHATEVER THE INPUT: true; the input reads as it did. -/
def fnExactSameFramesSpec : ChangeSpec := { name := "fnExactSameFrames", fn := fun _ => fun
  | [d1, d2] => { results := [.lit (.bool true)], args := [d1, d2] }
  | _ => none }
def fnExactSameFramesRow : OpenClaim := { program := "ytkeifkdaddmkfaa", sum := "d861e79d154d6d56085daecdd54d0d88dea0583d883948b928b78694763a56b2", func := "loop.example/g00800/laws.FnExactSameFrames", spec := "fnExactSameFrames", apart := false }
def FnExactSameFramesSaid : Prop := fnExactSameFramesRow.holds Try.pinned (OpenSpec.ofChange fnExactSameFramesSpec)

/-- ITS FALSE NEIGHBOUR: 'it returns false'. Refute it at one input. -/
def fnExactSameFramesWrong : ChangeSpec := { name := "fnExactSameFrames", fn := fun _ => fun
  | [d1, d2] => { results := [.lit (.bool false)], args := [d1, d2] }
  | _ => none }
def FnExactSameFramesWrongFalsely : Prop := fnExactSameFramesRow.holds Try.pinned (OpenSpec.ofChange fnExactSameFramesWrong)

/- THE SECOND FORM. 'bulk': how many values and letters a reading holds, each counted each time it is reached (what is shared counts as often as it is met; a slice's spare places count too). A statement '..UptoSaid' is the law's where the arguments, and the package variables that the reading takes, are together of bulk at most 1048576: NARROWER than '..Said'. Prove '..Said' where nothing that the law and all that it calls make is longer than what came in: it says more and counts as full. Else prove '..UptoSaid'. A law counts once. -/
mutual
def uptoBulk {H : Type} : DataW H → Nat
  | .lit (.string bytes) => bytes.length + 1
  | .lit _ => 1
  | .nil => 1
  | .ptr d => uptoBulk d + 1
  | .slice elems spare => uptoBulkAll elems + uptoBulkAll spare + 1
  | .agg parts => uptoBulkAll parts + 1
  | .iface _ d => uptoBulk d + 1
  | .map entries => uptoBulkEntries entries + 1
  | .held _ => 1
def uptoBulkAll {H : Type} : List (DataW H) → Nat
  | [] => 0
  | d :: r => uptoBulk d + uptoBulkAll r
def uptoBulkEntries {H : Type} : List (Lit × DataW H) → Nat
  | [] => 0
  | x :: r => uptoBulkEntry x + uptoBulkEntries r
def uptoBulkEntry {H : Type} : Lit × DataW H → Nat
  | (.string bytes, d) => bytes.length + uptoBulk d + 1
  | (_, d) => uptoBulk d + 1
 end
def uptoSmall : (H : Type) → List (DataW H) → Bool := fun _ ds => decide (uptoBulkAll ds ≤ 1048576)
def OpenSpec.upto (s : _root_.Go.ChangeSpec) : _root_.Go.OpenSpec := { _root_.Go.OpenSpec.ofChange s with cond := some uptoSmall }

/-- 'laws.FnExactFrameFault', WHERE WHAT IT READS IS OF BULK AT MOST 1048576: true; the input reads as it did. -/
def fnExactFrameFaultUptoRow : OpenClaim := { program := "ytkeifkdaddmkfaa", sum := "d861e79d154d6d56085daecdd54d0d88dea0583d883948b928b78694763a56b2", func := "loop.example/g00800/laws.FnExactFrameFault", spec := "fnExactFrameFault", apart := false, narrowed := true }
def FnExactFrameFaultUptoSaid : Prop := fnExactFrameFaultUptoRow.holds Try.pinned (OpenSpec.upto fnExactFrameFaultSpec)

/-- 'laws.FnExactSameFrames', WHERE WHAT IT READS IS OF BULK AT MOST 1048576: true; the input reads as it did. -/
def fnExactSameFramesUptoRow : OpenClaim := { program := "ytkeifkdaddmkfaa", sum := "d861e79d154d6d56085daecdd54d0d88dea0583d883948b928b78694763a56b2", func := "loop.example/g00800/laws.FnExactSameFrames", spec := "fnExactSameFrames", apart := false, narrowed := true }
def FnExactSameFramesUptoSaid : Prop := fnExactSameFramesUptoRow.holds Try.pinned (OpenSpec.upto fnExactSameFramesSpec)

end Rows
end Go.Proofs.Ytkeifkdaddmkfaa
