/-
  No cell of these rows narrows 'for every input' (looked for: loops, veiled, ifaces, maps, wideKeys, modest, calm, conditions, laid).
  DERIVED. THE GIVEN ROWS OF THIS SEAT. 10 by the template 'for every input the law returns true; each argument reads behind the call as it read before'; 0 by the template 'total and deterministic' (their statements: YtifijhfeeammkaaTotals.lean).
  GIVEN WITH THE SEED: the statements are not yours to turn. If you find one false, say at which input.
  Laid BY PROGRAM, IN A SANDBOX (cutbox-rows.mjs): the forced cells as the released guide's own fill.sh prints them over the translation f5f54ddc18d04367… (all of the seat's roots in one cut). By AI agents, Wed Nov 11 2026. No macro, syntax, notation, axiom, sorry.
-/
import Derived.Test.YtifijhfeeammkaaChecked
import GoSem.Claim
import GoSem.ClaimJoined
import GoSem.ClaimMapViews
import Derived.JoinedTies
import Derived.KernelRfl
namespace Go.Proofs.Ytifijhfeeammkaa
/- THE CELL 'sum', in the pinned program and in every row, IS THE sha256 OF THE DUMP (.gsa) THAT YtifijhfeeammkaaProg.lean LOADS. Nothing in Lean hashes anything: it is a label: what it is worth is what the hold of that sum in a sandbox is worth. -/
noncomputable def Try.pinned : Pinned := { name := "ytifijhfeeammkaa", sum := "f5f54ddc18d04367cf3804516302b38643d95ee9e3719fdf14fd389b03e48b5d", checked := Try.checked }
namespace Rows
def none {H : Type} : Left H := { results := [], args := [] }

/-- 'laws.FnMachines': WHATEVER THE INPUT: true; the input reads as it did. -/
def fnMachinesSpec : ChangeSpec := { name := "fnMachines", fn := fun _ => fun
  | [d] => { results := [.lit (.bool true)], args := [d] }
  | _ => none }
def fnMachinesRow : OpenClaim := { program := "ytifijhfeeammkaa", sum := "f5f54ddc18d04367cf3804516302b38643d95ee9e3719fdf14fd389b03e48b5d", func := "loop.example/g00800/laws.FnMachines", spec := "fnMachines", inPlace := ["slices.overlaps[loop.example/g00800/impl.Cell]"], unfollowed := true, recurses := true, apart := false }
def FnMachinesSaid : Prop := fnMachinesRow.holds Try.pinned (OpenSpec.ofChange fnMachinesSpec)

/-- ITS FALSE NEIGHBOUR: 'it returns false'. Refute it at one input. -/
def fnMachinesWrong : ChangeSpec := { name := "fnMachines", fn := fun _ => fun
  | [d] => { results := [.lit (.bool false)], args := [d] }
  | _ => none }
def FnMachinesWrongFalsely : Prop := fnMachinesRow.holds Try.pinned (OpenSpec.ofChange fnMachinesWrong)

/-- 'laws.FnSims': WHATEVER THE INPUT: true; the input reads as it did. -/
def fnSimsSpec : ChangeSpec := { name := "fnSims", fn := fun _ => fun
  | [d] => { results := [.lit (.bool true)], args := [d] }
  | _ => none }
def fnSimsRow : OpenClaim := { program := "ytifijhfeeammkaa", sum := "f5f54ddc18d04367cf3804516302b38643d95ee9e3719fdf14fd389b03e48b5d", func := "loop.example/g00800/laws.FnSims", spec := "fnSims", inPlace := ["slices.overlaps[loop.example/g00800/impl.Cell]"], unfollowed := true, recurses := true, apart := false }
def FnSimsSaid : Prop := fnSimsRow.holds Try.pinned (OpenSpec.ofChange fnSimsSpec)

/-- ITS FALSE NEIGHBOUR: 'it returns false'. Refute it at one input. -/
def fnSimsWrong : ChangeSpec := { name := "fnSims", fn := fun _ => fun
  | [d] => { results := [.lit (.bool false)], args := [d] }
  | _ => none }
def FnSimsWrongFalsely : Prop := fnSimsRow.holds Try.pinned (OpenSpec.ofChange fnSimsWrong)

/-- 'laws.FnExactOpFault': WHATEVER THE INPUT: true; the input reads as it did. -/
def fnExactOpFaultSpec : ChangeSpec := { name := "fnExactOpFault", fn := fun _ => fun
  | [d] => { results := [.lit (.bool true)], args := [d] }
  | _ => none }
def fnExactOpFaultRow : OpenClaim := { program := "ytifijhfeeammkaa", sum := "f5f54ddc18d04367cf3804516302b38643d95ee9e3719fdf14fd389b03e48b5d", func := "loop.example/g00800/laws.FnExactOpFault", spec := "fnExactOpFault", apart := false }
def FnExactOpFaultSaid : Prop := fnExactOpFaultRow.holds Try.pinned (OpenSpec.ofChange fnExactOpFaultSpec)

/-- ITS FALSE NEIGHBOUR: 'it returns false'. Refute it at one input. -/
def fnExactOpFaultWrong : ChangeSpec := { name := "fnExactOpFault", fn := fun _ => fun
  | [d] => { results := [.lit (.bool false)], args := [d] }
  | _ => none }
def FnExactOpFaultWrongFalsely : Prop := fnExactOpFaultRow.holds Try.pinned (OpenSpec.ofChange fnExactOpFaultWrong)

/-- 'laws.FnExactProgramsFault': WHATEVER THE INPUT: true; the input reads as it did. -/
def fnExactProgramsFaultSpec : ChangeSpec := { name := "fnExactProgramsFault", fn := fun _ => fun
  | [d] => { results := [.lit (.bool true)], args := [d] }
  | _ => none }
def fnExactProgramsFaultRow : OpenClaim := { program := "ytifijhfeeammkaa", sum := "f5f54ddc18d04367cf3804516302b38643d95ee9e3719fdf14fd389b03e48b5d", func := "loop.example/g00800/laws.FnExactProgramsFault", spec := "fnExactProgramsFault", apart := false }
def FnExactProgramsFaultSaid : Prop := fnExactProgramsFaultRow.holds Try.pinned (OpenSpec.ofChange fnExactProgramsFaultSpec)

/-- ITS FALSE NEIGHBOUR: 'it returns false'. Refute it at one input. -/
def fnExactProgramsFaultWrong : ChangeSpec := { name := "fnExactProgramsFault", fn := fun _ => fun
  | [d] => { results := [.lit (.bool false)], args := [d] }
  | _ => none }
def FnExactProgramsFaultWrongFalsely : Prop := fnExactProgramsFaultRow.holds Try.pinned (OpenSpec.ofChange fnExactProgramsFaultWrong)

/-- 'laws.FnExactMachineFault': WHATEVER THE INPUT: true; the input reads as it did. -/
def fnExactMachineFaultSpec : ChangeSpec := { name := "fnExactMachineFault", fn := fun _ => fun
  | [d] => { results := [.lit (.bool true)], args := [d] }
  | _ => none }
def fnExactMachineFaultRow : OpenClaim := { program := "ytifijhfeeammkaa", sum := "f5f54ddc18d04367cf3804516302b38643d95ee9e3719fdf14fd389b03e48b5d", func := "loop.example/g00800/laws.FnExactMachineFault", spec := "fnExactMachineFault", apart := false }
def FnExactMachineFaultSaid : Prop := fnExactMachineFaultRow.holds Try.pinned (OpenSpec.ofChange fnExactMachineFaultSpec)

/-- ITS FALSE NEIGHBOUR: 'it returns false'. Refute it at one input. -/
def fnExactMachineFaultWrong : ChangeSpec := { name := "fnExactMachineFault", fn := fun _ => fun
  | [d] => { results := [.lit (.bool false)], args := [d] }
  | _ => none }
def FnExactMachineFaultWrongFalsely : Prop := fnExactMachineFaultRow.holds Try.pinned (OpenSpec.ofChange fnExactMachineFaultWrong)

/-- 'laws.FnExactNewMachine': WHATEVER THE INPUT: true; the input reads as it did. -/
def fnExactNewMachineSpec : ChangeSpec := { name := "fnExactNewMachine", fn := fun _ => fun
  | [d1, d2] => { results := [.lit (.bool true)], args := [d1, d2] }
  | _ => none }
def fnExactNewMachineRow : OpenClaim := { program := "ytifijhfeeammkaa", sum := "f5f54ddc18d04367cf3804516302b38643d95ee9e3719fdf14fd389b03e48b5d", func := "loop.example/g00800/laws.FnExactNewMachine", spec := "fnExactNewMachine", apart := false }
def FnExactNewMachineSaid : Prop := fnExactNewMachineRow.holds Try.pinned (OpenSpec.ofChange fnExactNewMachineSpec)

/-- ITS FALSE NEIGHBOUR: 'it returns false'. Refute it at one input. -/
def fnExactNewMachineWrong : ChangeSpec := { name := "fnExactNewMachine", fn := fun _ => fun
  | [d1, d2] => { results := [.lit (.bool false)], args := [d1, d2] }
  | _ => none }
def FnExactNewMachineWrongFalsely : Prop := fnExactNewMachineRow.holds Try.pinned (OpenSpec.ofChange fnExactNewMachineWrong)

/-- 'laws.FnExactDoOp': WHATEVER THE INPUT: true; the input reads as it did. -/
def fnExactDoOpSpec : ChangeSpec := { name := "fnExactDoOp", fn := fun _ => fun
  | [d1, d2, d3] => { results := [.lit (.bool true)], args := [d1, d2, d3] }
  | _ => none }
def fnExactDoOpRow : OpenClaim := { program := "ytifijhfeeammkaa", sum := "f5f54ddc18d04367cf3804516302b38643d95ee9e3719fdf14fd389b03e48b5d", func := "loop.example/g00800/laws.FnExactDoOp", spec := "fnExactDoOp", inPlace := ["slices.overlaps[loop.example/g00800/impl.Cell]"], unfollowed := true, recurses := true, apart := false }
def FnExactDoOpSaid : Prop := fnExactDoOpRow.holds Try.pinned (OpenSpec.ofChange fnExactDoOpSpec)

/-- ITS FALSE NEIGHBOUR: 'it returns false'. Refute it at one input. -/
def fnExactDoOpWrong : ChangeSpec := { name := "fnExactDoOp", fn := fun _ => fun
  | [d1, d2, d3] => { results := [.lit (.bool false)], args := [d1, d2, d3] }
  | _ => none }
def FnExactDoOpWrongFalsely : Prop := fnExactDoOpRow.holds Try.pinned (OpenSpec.ofChange fnExactDoOpWrong)

/-- 'laws.FnExactValueAt': WHATEVER THE INPUT: true; the input reads as it did. -/
def fnExactValueAtSpec : ChangeSpec := { name := "fnExactValueAt", fn := fun _ => fun
  | [d1, d2] => { results := [.lit (.bool true)], args := [d1, d2] }
  | _ => none }
def fnExactValueAtRow : OpenClaim := { program := "ytifijhfeeammkaa", sum := "f5f54ddc18d04367cf3804516302b38643d95ee9e3719fdf14fd389b03e48b5d", func := "loop.example/g00800/laws.FnExactValueAt", spec := "fnExactValueAt", apart := false }
def FnExactValueAtSaid : Prop := fnExactValueAtRow.holds Try.pinned (OpenSpec.ofChange fnExactValueAtSpec)

/-- ITS FALSE NEIGHBOUR: 'it returns false'. Refute it at one input. -/
def fnExactValueAtWrong : ChangeSpec := { name := "fnExactValueAt", fn := fun _ => fun
  | [d1, d2] => { results := [.lit (.bool false)], args := [d1, d2] }
  | _ => none }
def FnExactValueAtWrongFalsely : Prop := fnExactValueAtRow.holds Try.pinned (OpenSpec.ofChange fnExactValueAtWrong)

/-- 'laws.FnExactSimulate': WHATEVER THE INPUT: true; the input reads as it did. -/
def fnExactSimulateSpec : ChangeSpec := { name := "fnExactSimulate", fn := fun _ => fun
  | [d1, d2, d3] => { results := [.lit (.bool true)], args := [d1, d2, d3] }
  | _ => none }
def fnExactSimulateRow : OpenClaim := { program := "ytifijhfeeammkaa", sum := "f5f54ddc18d04367cf3804516302b38643d95ee9e3719fdf14fd389b03e48b5d", func := "loop.example/g00800/laws.FnExactSimulate", spec := "fnExactSimulate", inPlace := ["slices.overlaps[loop.example/g00800/impl.Cell]"], unfollowed := true, recurses := true, apart := false }
def FnExactSimulateSaid : Prop := fnExactSimulateRow.holds Try.pinned (OpenSpec.ofChange fnExactSimulateSpec)

/-- ITS FALSE NEIGHBOUR: 'it returns false'. Refute it at one input. -/
def fnExactSimulateWrong : ChangeSpec := { name := "fnExactSimulate", fn := fun _ => fun
  | [d1, d2, d3] => { results := [.lit (.bool false)], args := [d1, d2, d3] }
  | _ => none }
def FnExactSimulateWrongFalsely : Prop := fnExactSimulateRow.holds Try.pinned (OpenSpec.ofChange fnExactSimulateWrong)

/-- 'laws.FnExactSameMachines': WHATEVER THE INPUT: true; the input reads as it did. -/
def fnExactSameMachinesSpec : ChangeSpec := { name := "fnExactSameMachines", fn := fun _ => fun
  | [d1, d2] => { results := [.lit (.bool true)], args := [d1, d2] }
  | _ => none }
def fnExactSameMachinesRow : OpenClaim := { program := "ytifijhfeeammkaa", sum := "f5f54ddc18d04367cf3804516302b38643d95ee9e3719fdf14fd389b03e48b5d", func := "loop.example/g00800/laws.FnExactSameMachines", spec := "fnExactSameMachines", unfollowed := true, recurses := true, apart := false }
def FnExactSameMachinesSaid : Prop := fnExactSameMachinesRow.holds Try.pinned (OpenSpec.ofChange fnExactSameMachinesSpec)

/-- ITS FALSE NEIGHBOUR: 'it returns false'. Refute it at one input. -/
def fnExactSameMachinesWrong : ChangeSpec := { name := "fnExactSameMachines", fn := fun _ => fun
  | [d1, d2] => { results := [.lit (.bool false)], args := [d1, d2] }
  | _ => none }
def FnExactSameMachinesWrongFalsely : Prop := fnExactSameMachinesRow.holds Try.pinned (OpenSpec.ofChange fnExactSameMachinesWrong)

/- THE SECOND FORM. 'bulk': how many values and letters a reading holds, each counted each time it is reached (what is shared counts as often as it is met; a slice's spare places count too). A statement '..UptoSaid' is the law's where the arguments, and the package variables that the reading takes, are together of bulk at most 1048576: NARROWER than '..Said'. Prove '..Said' where nothing that the law and all that it calls make is longer than what came in: it says more and counts as full. Else prove '..UptoSaid'. A law counts once. -/
mutual
def uptoBulk {H : Type} : DataW H → Nat
  | .lit (.string bytes) => bytes.length + 1
  | .lit _ => 1
  | .nil => 1
  | .ptr d => uptoBulk d + 1
  | .slice elems spare => uptoBulkAll elems + uptoBulkAll spare + 1
  | .agg parts => uptoBulkAll parts + 1
  | .iface _ d => uptoBulk d + 1
  | .map entries => uptoBulkEntries entries + 1
  | .held _ => 1
def uptoBulkAll {H : Type} : List (DataW H) → Nat
  | [] => 0
  | d :: r => uptoBulk d + uptoBulkAll r
def uptoBulkEntries {H : Type} : List (Lit × DataW H) → Nat
  | [] => 0
  | x :: r => uptoBulkEntry x + uptoBulkEntries r
def uptoBulkEntry {H : Type} : Lit × DataW H → Nat
  | (.string bytes, d) => bytes.length + uptoBulk d + 1
  | (_, d) => uptoBulk d + 1
 end
def uptoSmall : (H : Type) → List (DataW H) → Bool := fun _ ds => decide (uptoBulkAll ds ≤ 1048576)
def OpenSpec.upto (s : _root_.Go.ChangeSpec) : _root_.Go.OpenSpec := { _root_.Go.OpenSpec.ofChange s with cond := some uptoSmall }

/-- 'laws.FnMachines', WHERE WHAT IT READS IS OF BULK AT MOST 1048576: true; the input reads as it did. -/
def fnMachinesUptoRow : OpenClaim := { program := "ytifijhfeeammkaa", sum := "f5f54ddc18d04367cf3804516302b38643d95ee9e3719fdf14fd389b03e48b5d", func := "loop.example/g00800/laws.FnMachines", spec := "fnMachines", inPlace := ["slices.overlaps[loop.example/g00800/impl.Cell]"], unfollowed := true, recurses := true, apart := false, narrowed := true }
def FnMachinesUptoSaid : Prop := fnMachinesUptoRow.holds Try.pinned (OpenSpec.upto fnMachinesSpec)

/-- 'laws.FnSims', WHERE WHAT IT READS IS OF BULK AT MOST 1048576: true; the input reads as it did. -/
def fnSimsUptoRow : OpenClaim := { program := "ytifijhfeeammkaa", sum := "f5f54ddc18d04367cf3804516302b38643d95ee9e3719fdf14fd389b03e48b5d", func := "loop.example/g00800/laws.FnSims", spec := "fnSims", inPlace := ["slices.overlaps[loop.example/g00800/impl.Cell]"], unfollowed := true, recurses := true, apart := false, narrowed := true }
def FnSimsUptoSaid : Prop := fnSimsUptoRow.holds Try.pinned (OpenSpec.upto fnSimsSpec)

/-- 'laws.FnExactOpFault', WHERE WHAT IT READS IS OF BULK AT MOST 1048576: true; the input reads as it did. -/
def fnExactOpFaultUptoRow : OpenClaim := { program := "ytifijhfeeammkaa", sum := "f5f54ddc18d04367cf3804516302b38643d95ee9e3719fdf14fd389b03e48b5d", func := "loop.example/g00800/laws.FnExactOpFault", spec := "fnExactOpFault", apart := false, narrowed := true }
def FnExactOpFaultUptoSaid : Prop := fnExactOpFaultUptoRow.holds Try.pinned (OpenSpec.upto fnExactOpFaultSpec)

/-- 'laws.FnExactProgramsFault', WHERE WHAT IT READS IS OF BULK AT MOST 1048576: true; the input reads as it did. -/
def fnExactProgramsFaultUptoRow : OpenClaim := { program := "ytifijhfeeammkaa", sum := "f5f54ddc18d04367cf3804516302b38643d95ee9e3719fdf14fd389b03e48b5d", func := "loop.example/g00800/laws.FnExactProgramsFault", spec := "fnExactProgramsFault", apart := false, narrowed := true }
def FnExactProgramsFaultUptoSaid : Prop := fnExactProgramsFaultUptoRow.holds Try.pinned (OpenSpec.upto fnExactProgramsFaultSpec)

/-- 'laws.FnExactMachineFault', WHERE WHAT IT READS IS OF BULK AT MOST 1048576: true; the input reads as it did. -/
def fnExactMachineFaultUptoRow : OpenClaim := { program := "ytifijhfeeammkaa", sum := "f5f54ddc18d04367cf3804516302b38643d95ee9e3719fdf14fd389b03e48b5d", func := "loop.example/g00800/laws.FnExactMachineFault", spec := "fnExactMachineFault", apart := false, narrowed := true }
def FnExactMachineFaultUptoSaid : Prop := fnExactMachineFaultUptoRow.holds Try.pinned (OpenSpec.upto fnExactMachineFaultSpec)

/-- 'laws.FnExactNewMachine', WHERE WHAT IT READS IS OF BULK AT MOST 1048576: true; the input reads as it did. -/
def fnExactNewMachineUptoRow : OpenClaim := { program := "ytifijhfeeammkaa", sum := "f5f54ddc18d04367cf3804516302b38643d95ee9e3719fdf14fd389b03e48b5d", func := "loop.example/g00800/laws.FnExactNewMachine", spec := "fnExactNewMachine", apart := false, narrowed := true }
def FnExactNewMachineUptoSaid : Prop := fnExactNewMachineUptoRow.holds Try.pinned (OpenSpec.upto fnExactNewMachineSpec)

/-- 'laws.FnExactDoOp', WHERE WHAT IT READS IS OF BULK AT MOST 1048576: true; the input reads as it did. -/
def fnExactDoOpUptoRow : OpenClaim := { program := "ytifijhfeeammkaa", sum := "f5f54ddc18d04367cf3804516302b38643d95ee9e3719fdf14fd389b03e48b5d", func := "loop.example/g00800/laws.FnExactDoOp", spec := "fnExactDoOp", inPlace := ["slices.overlaps[loop.example/g00800/impl.Cell]"], unfollowed := true, recurses := true, apart := false, narrowed := true }
def FnExactDoOpUptoSaid : Prop := fnExactDoOpUptoRow.holds Try.pinned (OpenSpec.upto fnExactDoOpSpec)

/-- 'laws.FnExactValueAt', WHERE WHAT IT READS IS OF BULK AT MOST 1048576: true; the input reads as it did. -/
def fnExactValueAtUptoRow : OpenClaim := { program := "ytifijhfeeammkaa", sum := "f5f54ddc18d04367cf3804516302b38643d95ee9e3719fdf14fd389b03e48b5d", func := "loop.example/g00800/laws.FnExactValueAt", spec := "fnExactValueAt", apart := false, narrowed := true }
def FnExactValueAtUptoSaid : Prop := fnExactValueAtUptoRow.holds Try.pinned (OpenSpec.upto fnExactValueAtSpec)

/-- 'laws.FnExactSimulate', WHERE WHAT IT READS IS OF BULK AT MOST 1048576: true; the input reads as it did. -/
def fnExactSimulateUptoRow : OpenClaim := { program := "ytifijhfeeammkaa", sum := "f5f54ddc18d04367cf3804516302b38643d95ee9e3719fdf14fd389b03e48b5d", func := "loop.example/g00800/laws.FnExactSimulate", spec := "fnExactSimulate", inPlace := ["slices.overlaps[loop.example/g00800/impl.Cell]"], unfollowed := true, recurses := true, apart := false, narrowed := true }
def FnExactSimulateUptoSaid : Prop := fnExactSimulateUptoRow.holds Try.pinned (OpenSpec.upto fnExactSimulateSpec)

/-- 'laws.FnExactSameMachines', WHERE WHAT IT READS IS OF BULK AT MOST 1048576: true; the input reads as it did. -/
def fnExactSameMachinesUptoRow : OpenClaim := { program := "ytifijhfeeammkaa", sum := "f5f54ddc18d04367cf3804516302b38643d95ee9e3719fdf14fd389b03e48b5d", func := "loop.example/g00800/laws.FnExactSameMachines", spec := "fnExactSameMachines", unfollowed := true, recurses := true, apart := false, narrowed := true }
def FnExactSameMachinesUptoSaid : Prop := fnExactSameMachinesUptoRow.holds Try.pinned (OpenSpec.upto fnExactSameMachinesSpec)

end Rows
end Go.Proofs.Ytifijhfeeammkaa
