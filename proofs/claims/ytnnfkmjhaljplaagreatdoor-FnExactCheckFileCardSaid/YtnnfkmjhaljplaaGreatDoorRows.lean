/-
  NARROWER THAN 'FOR EVERY INPUT', by the rows' own cells (each row's printed sentence says how): FnTop: ifaces, laid · FnPipes: ifaces, laid · FnExactCheckFile: ifaces, laid · FnExactRunAll: ifaces, laid.
  DERIVED. THE GIVEN ROWS OF THIS SEAT. 4 by the template 'for every input the law returns true; each argument reads behind the call as it read before'; 0 by the template 'total and deterministic' (their statements: YtnnfkmjhaljplaaGreatDoorTotals.lean).
  GIVEN WITH THE SEED: the statements are not yours to turn. If you find one false, say at which input.
  Laid BY PROGRAM, IN A SANDBOX (cutbox-rows.mjs): the forced cells as the released guide's own fill.sh prints them over the translation 0ffbf75955e36710… (all of the seat's roots in one cut). By AI agents, Wed Nov 11 2026. No macro, syntax, notation, axiom, sorry.
-/
import Derived.Test.YtnnfkmjhaljplaaGreatDoorChecked
import GoSem.PinnedTables
import GoSem.Claim
import GoSem.ClaimJoined
import GoSem.ClaimMapViews
import Derived.JoinedTies
import Derived.KernelRfl
namespace Go.Proofs.YtnnfkmjhaljplaaGreatDoor
/- THE CELL 'sum', in the pinned program and in every row, IS THE sha256 OF THE DUMP (.gsa) THAT YtnnfkmjhaljplaaGreatDoorProg.lean LOADS. Nothing in Lean hashes anything: it is a label: what it is worth is what the hold of that sum in a sandbox is worth. -/
noncomputable def Tryz.pinned : Pinned := { name := "ytnnfkmjhaljplaagreatdoor", sum := "0ffbf75955e367105d1538504f72cb319fea72273642a9c2c55a217fd9902d61", checked := Tryz.checked }
namespace Rows
def none {H : Type} : Left H := { results := [], args := [] }

/- WHAT THE LISTED PACKAGE-LEVEL VARIABLES READ AS WHEN THE CALL BEGINS. Each datum BY PROGRAM (the guide's laid-datum.mjs) off the statement by which the dump's own 'gosem.cut.vars' lays the variable. In a bare row this is a premise. The card (YtnnfkmjhaljplaaGreatDoorCards.lean) ties it to the program's text. -/
def laid_loop_example_g00800_impl_nibbleSums {H : Type} : DataW H := .agg [.lit (.int .u32 0), .lit (.int .u32 498536548), .lit (.int .u32 997073096), .lit (.int .u32 651767980), .lit (.int .u32 1994146192), .lit (.int .u32 1802195444), .lit (.int .u32 1303535960), .lit (.int .u32 1342533948), .lit (.int .u32 3988292384), .lit (.int .u32 4027552580), .lit (.int .u32 3604390888), .lit (.int .u32 3412177804), .lit (.int .u32 2607071920), .lit (.int .u32 2262029012), .lit (.int .u32 2685067896), .lit (.int .u32 3183342108)]
def laid_loop_example_g00800_impl_errNoFrame {H : Type} : DataW H := .iface "*errors.errorString" (.ptr (.agg [.lit (.string [110, 111, 116, 32, 108, 97, 105, 100, 32, 111, 117, 116, 32, 97, 115, 32, 97, 32, 102, 114, 97, 109, 101])]))
def laid_loop_example_g00800_impl_errOtherSum {H : Type} : DataW H := .iface "*errors.errorString" (.ptr (.agg [.lit (.string [116, 104, 101, 32, 115, 117, 109, 32, 105, 115, 32, 110, 111, 116, 32, 116, 104, 97, 116, 32, 111, 102, 32, 116, 104, 101, 32, 98, 121, 116, 101, 115, 32, 97, 104, 101, 97, 100, 32, 111, 102, 32, 105, 116])]))
def laid_loop_example_g00800_impl_errNoSteps {H : Type} : DataW H := .iface "*errors.errorString" (.ptr (.agg [.lit (.string [116, 104, 101, 32, 98, 121, 116, 101, 115, 32, 111, 102, 32, 116, 104, 101, 32, 101, 118, 101, 110, 116, 115, 32, 97, 114, 101, 32, 116, 104, 111, 115, 101, 32, 111, 102, 32, 110, 111, 110, 101])]))
def laid_math_bits_deBruijn32tab {H : Type} : DataW H := .agg [.lit (.int .u8 0), .lit (.int .u8 1), .lit (.int .u8 28), .lit (.int .u8 2), .lit (.int .u8 29), .lit (.int .u8 14), .lit (.int .u8 24), .lit (.int .u8 3), .lit (.int .u8 30), .lit (.int .u8 22), .lit (.int .u8 20), .lit (.int .u8 15), .lit (.int .u8 25), .lit (.int .u8 17), .lit (.int .u8 4), .lit (.int .u8 8), .lit (.int .u8 31), .lit (.int .u8 27), .lit (.int .u8 13), .lit (.int .u8 23), .lit (.int .u8 21), .lit (.int .u8 19), .lit (.int .u8 16), .lit (.int .u8 7), .lit (.int .u8 26), .lit (.int .u8 12), .lit (.int .u8 18), .lit (.int .u8 6), .lit (.int .u8 11), .lit (.int .u8 5), .lit (.int .u8 10), .lit (.int .u8 9)]
def laid_math_bits_deBruijn64tab {H : Type} : DataW H := .agg [.lit (.int .u8 0), .lit (.int .u8 1), .lit (.int .u8 56), .lit (.int .u8 2), .lit (.int .u8 57), .lit (.int .u8 49), .lit (.int .u8 28), .lit (.int .u8 3), .lit (.int .u8 61), .lit (.int .u8 58), .lit (.int .u8 42), .lit (.int .u8 50), .lit (.int .u8 38), .lit (.int .u8 29), .lit (.int .u8 17), .lit (.int .u8 4), .lit (.int .u8 62), .lit (.int .u8 47), .lit (.int .u8 59), .lit (.int .u8 36), .lit (.int .u8 45), .lit (.int .u8 43), .lit (.int .u8 51), .lit (.int .u8 22), .lit (.int .u8 53), .lit (.int .u8 39), .lit (.int .u8 33), .lit (.int .u8 30), .lit (.int .u8 24), .lit (.int .u8 18), .lit (.int .u8 12), .lit (.int .u8 5), .lit (.int .u8 63), .lit (.int .u8 55), .lit (.int .u8 48), .lit (.int .u8 27), .lit (.int .u8 60), .lit (.int .u8 41), .lit (.int .u8 37), .lit (.int .u8 16), .lit (.int .u8 46), .lit (.int .u8 35), .lit (.int .u8 44), .lit (.int .u8 21), .lit (.int .u8 52), .lit (.int .u8 32), .lit (.int .u8 23), .lit (.int .u8 11), .lit (.int .u8 54), .lit (.int .u8 26), .lit (.int .u8 40), .lit (.int .u8 15), .lit (.int .u8 34), .lit (.int .u8 20), .lit (.int .u8 31), .lit (.int .u8 10), .lit (.int .u8 25), .lit (.int .u8 14), .lit (.int .u8 19), .lit (.int .u8 9), .lit (.int .u8 13), .lit (.int .u8 8), .lit (.int .u8 7), .lit (.int .u8 6)]
def laid_internal_strconv_uint64pow10 {H : Type} : DataW H := .agg [.lit (.int .u64 1), .lit (.int .u64 10), .lit (.int .u64 100), .lit (.int .u64 1000), .lit (.int .u64 10000), .lit (.int .u64 100000), .lit (.int .u64 1000000), .lit (.int .u64 10000000), .lit (.int .u64 100000000), .lit (.int .u64 1000000000), .lit (.int .u64 10000000000), .lit (.int .u64 100000000000), .lit (.int .u64 1000000000000), .lit (.int .u64 10000000000000), .lit (.int .u64 100000000000000), .lit (.int .u64 1000000000000000), .lit (.int .u64 10000000000000000), .lit (.int .u64 100000000000000000), .lit (.int .u64 1000000000000000000), .lit (.int .u64 10000000000000000000)]
def laid_unicode_utf8_acceptRanges {H : Type} : DataW H := .agg [.agg [.lit (.int .u8 128), .lit (.int .u8 191)], .agg [.lit (.int .u8 160), .lit (.int .u8 191)], .agg [.lit (.int .u8 128), .lit (.int .u8 159)], .agg [.lit (.int .u8 144), .lit (.int .u8 191)], .agg [.lit (.int .u8 128), .lit (.int .u8 143)], .agg [.lit (.int .u8 0), .lit (.int .u8 0)], .agg [.lit (.int .u8 0), .lit (.int .u8 0)], .agg [.lit (.int .u8 0), .lit (.int .u8 0)], .agg [.lit (.int .u8 0), .lit (.int .u8 0)], .agg [.lit (.int .u8 0), .lit (.int .u8 0)], .agg [.lit (.int .u8 0), .lit (.int .u8 0)], .agg [.lit (.int .u8 0), .lit (.int .u8 0)], .agg [.lit (.int .u8 0), .lit (.int .u8 0)], .agg [.lit (.int .u8 0), .lit (.int .u8 0)], .agg [.lit (.int .u8 0), .lit (.int .u8 0)], .agg [.lit (.int .u8 0), .lit (.int .u8 0)]]
/-- One of Go's own tables, pinned by name: the form's constant. -/
def laid_unicode_utf8_first : DataW Unit := Go.Pinned.utf8First

/-- 'laws.FnTop': WHATEVER THE INPUT: true; the input reads as it did. -/
def fnTopSpec : ChangeSpec := { name := "fnTop", vars := ["loop.example/g00800/impl.nibbleSums", "loop.example/g00800/impl.errOtherSum", "loop.example/g00800/impl.errNoSteps", "loop.example/g00800/impl.errNoFrame"], fn := fun _ => fun
  | [d, g1, g2, g3, g4] => { results := [.lit (.bool true)], args := [d], vars := [g1, g2, g3, g4] }
  | _ => none }
def fnTopRow : OpenClaim := { program := "ytnnfkmjhaljplaagreatdoor", sum := "0ffbf75955e367105d1538504f72cb319fea72273642a9c2c55a217fd9902d61", func := "loop.example/g00800/laws.FnTop", spec := "fnTop", inPlace := ["slices.overlaps[loop.example/g00800/impl.Cell]", "slices.overlaps[loop.example/g00800/impl.WriteList]", "internal/reflectlite.TypeOf"], unfollowed := true, recurses := true, named := ["loop.example/g00800/impl.nibbleSums", "loop.example/g00800/impl.errOtherSum", "loop.example/g00800/impl.errNoSteps", "loop.example/g00800/impl.errNoFrame"], ifaces := true, plainKeys := false, apart := false, laid := [("loop.example/g00800/impl.nibbleSums", laid_loop_example_g00800_impl_nibbleSums), ("loop.example/g00800/impl.errNoFrame", laid_loop_example_g00800_impl_errNoFrame), ("loop.example/g00800/impl.errOtherSum", laid_loop_example_g00800_impl_errOtherSum), ("loop.example/g00800/impl.errNoSteps", laid_loop_example_g00800_impl_errNoSteps)] }
def FnTopSaid : Prop := fnTopRow.holds Tryz.pinned (OpenSpec.ofChange fnTopSpec)

/-- ITS FALSE NEIGHBOUR: 'it returns false'. Refute it at one input. -/
def fnTopWrong : ChangeSpec := { name := "fnTop", vars := ["loop.example/g00800/impl.nibbleSums", "loop.example/g00800/impl.errOtherSum", "loop.example/g00800/impl.errNoSteps", "loop.example/g00800/impl.errNoFrame"], fn := fun _ => fun
  | [d, g1, g2, g3, g4] => { results := [.lit (.bool false)], args := [d], vars := [g1, g2, g3, g4] }
  | _ => none }
def FnTopWrongFalsely : Prop := fnTopRow.holds Tryz.pinned (OpenSpec.ofChange fnTopWrong)

/-- 'laws.FnPipes': WHATEVER THE INPUT: true; the input reads as it did. -/
def fnPipesSpec : ChangeSpec := { name := "fnPipes", vars := ["loop.example/g00800/impl.errOtherSum", "loop.example/g00800/impl.errNoSteps", "loop.example/g00800/impl.errNoFrame", "loop.example/g00800/impl.nibbleSums"], fn := fun _ => fun
  | [d, g1, g2, g3, g4] => { results := [.lit (.bool true)], args := [d], vars := [g1, g2, g3, g4] }
  | _ => none }
def fnPipesRow : OpenClaim := { program := "ytnnfkmjhaljplaagreatdoor", sum := "0ffbf75955e367105d1538504f72cb319fea72273642a9c2c55a217fd9902d61", func := "loop.example/g00800/laws.FnPipes", spec := "fnPipes", inPlace := ["internal/reflectlite.TypeOf", "internal/abi.NoEscape", "internal/bytealg.CountString", "internal/bytealg.IndexByteString", "internal/bytealg.IndexString", "slices.overlaps[loop.example/g00800/impl.WriteList]"], unfollowed := true, recurses := true, named := ["loop.example/g00800/impl.errOtherSum", "loop.example/g00800/impl.errNoSteps", "loop.example/g00800/impl.errNoFrame", "loop.example/g00800/impl.nibbleSums", "internal/strconv.uint64pow10", "math/bits.deBruijn32tab", "math/bits.deBruijn64tab", "unicode/utf8.first", "unicode/utf8.acceptRanges", "internal/bytealg.MaxLen"], ifaces := true, plainKeys := false, apart := false, laid := [("math/bits.deBruijn32tab", laid_math_bits_deBruijn32tab), ("math/bits.deBruijn64tab", laid_math_bits_deBruijn64tab), ("internal/strconv.uint64pow10", laid_internal_strconv_uint64pow10), ("unicode/utf8.acceptRanges", laid_unicode_utf8_acceptRanges), ("loop.example/g00800/impl.nibbleSums", laid_loop_example_g00800_impl_nibbleSums), ("loop.example/g00800/impl.errNoFrame", laid_loop_example_g00800_impl_errNoFrame), ("loop.example/g00800/impl.errOtherSum", laid_loop_example_g00800_impl_errOtherSum), ("loop.example/g00800/impl.errNoSteps", laid_loop_example_g00800_impl_errNoSteps), ("unicode/utf8.first", laid_unicode_utf8_first)] }
def FnPipesSaid : Prop := fnPipesRow.holds Tryz.pinned (OpenSpec.ofChange fnPipesSpec)

/-- ITS FALSE NEIGHBOUR: 'it returns false'. Refute it at one input. -/
def fnPipesWrong : ChangeSpec := { name := "fnPipes", vars := ["loop.example/g00800/impl.errOtherSum", "loop.example/g00800/impl.errNoSteps", "loop.example/g00800/impl.errNoFrame", "loop.example/g00800/impl.nibbleSums"], fn := fun _ => fun
  | [d, g1, g2, g3, g4] => { results := [.lit (.bool false)], args := [d], vars := [g1, g2, g3, g4] }
  | _ => none }
def FnPipesWrongFalsely : Prop := fnPipesRow.holds Tryz.pinned (OpenSpec.ofChange fnPipesWrong)

/-- 'laws.FnExactCheckFile': WHATEVER THE INPUT: true; the input reads as it did. -/
def fnExactCheckFileSpec : ChangeSpec := { name := "fnExactCheckFile", vars := ["loop.example/g00800/impl.errOtherSum", "loop.example/g00800/impl.errNoSteps", "loop.example/g00800/impl.errNoFrame", "loop.example/g00800/impl.nibbleSums"], fn := fun _ => fun
  | [d1, d2, g1, g2, g3, g4] => { results := [.lit (.bool true)], args := [d1, d2], vars := [g1, g2, g3, g4] }
  | _ => none }
def fnExactCheckFileRow : OpenClaim := { program := "ytnnfkmjhaljplaagreatdoor", sum := "0ffbf75955e367105d1538504f72cb319fea72273642a9c2c55a217fd9902d61", func := "loop.example/g00800/laws.FnExactCheckFile", spec := "fnExactCheckFile", inPlace := ["internal/reflectlite.TypeOf", "slices.overlaps[loop.example/g00800/impl.WriteList]"], unfollowed := true, recurses := true, named := ["loop.example/g00800/impl.errOtherSum", "loop.example/g00800/impl.errNoSteps", "loop.example/g00800/impl.errNoFrame", "loop.example/g00800/impl.nibbleSums"], ifaces := true, plainKeys := false, apart := false, laid := [("loop.example/g00800/impl.nibbleSums", laid_loop_example_g00800_impl_nibbleSums), ("loop.example/g00800/impl.errNoFrame", laid_loop_example_g00800_impl_errNoFrame), ("loop.example/g00800/impl.errOtherSum", laid_loop_example_g00800_impl_errOtherSum), ("loop.example/g00800/impl.errNoSteps", laid_loop_example_g00800_impl_errNoSteps)] }
def FnExactCheckFileSaid : Prop := fnExactCheckFileRow.holds Tryz.pinned (OpenSpec.ofChange fnExactCheckFileSpec)

/-- ITS FALSE NEIGHBOUR: 'it returns false'. Refute it at one input. -/
def fnExactCheckFileWrong : ChangeSpec := { name := "fnExactCheckFile", vars := ["loop.example/g00800/impl.errOtherSum", "loop.example/g00800/impl.errNoSteps", "loop.example/g00800/impl.errNoFrame", "loop.example/g00800/impl.nibbleSums"], fn := fun _ => fun
  | [d1, d2, g1, g2, g3, g4] => { results := [.lit (.bool false)], args := [d1, d2], vars := [g1, g2, g3, g4] }
  | _ => none }
def FnExactCheckFileWrongFalsely : Prop := fnExactCheckFileRow.holds Tryz.pinned (OpenSpec.ofChange fnExactCheckFileWrong)

/-- 'laws.FnExactRunAll': WHATEVER THE INPUT: true; the input reads as it did. -/
def fnExactRunAllSpec : ChangeSpec := { name := "fnExactRunAll", vars := ["loop.example/g00800/impl.nibbleSums", "loop.example/g00800/impl.errOtherSum", "loop.example/g00800/impl.errNoSteps", "loop.example/g00800/impl.errNoFrame"], fn := fun _ => fun
  | [d1, d2, d3, d4, g1, g2, g3, g4] => { results := [.lit (.bool true)], args := [d1, d2, d3, d4], vars := [g1, g2, g3, g4] }
  | _ => none }
def fnExactRunAllRow : OpenClaim := { program := "ytnnfkmjhaljplaagreatdoor", sum := "0ffbf75955e367105d1538504f72cb319fea72273642a9c2c55a217fd9902d61", func := "loop.example/g00800/laws.FnExactRunAll", spec := "fnExactRunAll", inPlace := ["slices.overlaps[loop.example/g00800/impl.Cell]", "slices.overlaps[loop.example/g00800/impl.WriteList]", "internal/reflectlite.TypeOf"], unfollowed := true, recurses := true, named := ["loop.example/g00800/impl.nibbleSums", "loop.example/g00800/impl.errOtherSum", "loop.example/g00800/impl.errNoSteps", "loop.example/g00800/impl.errNoFrame"], ifaces := true, plainKeys := false, apart := false, laid := [("loop.example/g00800/impl.nibbleSums", laid_loop_example_g00800_impl_nibbleSums), ("loop.example/g00800/impl.errNoFrame", laid_loop_example_g00800_impl_errNoFrame), ("loop.example/g00800/impl.errOtherSum", laid_loop_example_g00800_impl_errOtherSum), ("loop.example/g00800/impl.errNoSteps", laid_loop_example_g00800_impl_errNoSteps)] }
def FnExactRunAllSaid : Prop := fnExactRunAllRow.holds Tryz.pinned (OpenSpec.ofChange fnExactRunAllSpec)

/-- ITS FALSE NEIGHBOUR: 'it returns false'. Refute it at one input. -/
def fnExactRunAllWrong : ChangeSpec := { name := "fnExactRunAll", vars := ["loop.example/g00800/impl.nibbleSums", "loop.example/g00800/impl.errOtherSum", "loop.example/g00800/impl.errNoSteps", "loop.example/g00800/impl.errNoFrame"], fn := fun _ => fun
  | [d1, d2, d3, d4, g1, g2, g3, g4] => { results := [.lit (.bool false)], args := [d1, d2, d3, d4], vars := [g1, g2, g3, g4] }
  | _ => none }
def FnExactRunAllWrongFalsely : Prop := fnExactRunAllRow.holds Tryz.pinned (OpenSpec.ofChange fnExactRunAllWrong)

/- THE SECOND FORM. 'bulk': how many values and letters a reading holds, each counted each time it is reached (what is shared counts as often as it is met; a slice's spare places count too). A statement '..UptoSaid' is the law's where the arguments, and the package variables that the reading takes, are together of bulk at most 1048576: NARROWER than '..Said'. Prove '..Said' where nothing that the law and all that it calls make is longer than what came in: it says more and counts as full. Else prove '..UptoSaid'. A law counts once. -/
mutual
def uptoBulk {H : Type} : DataW H → Nat
  | .lit (.string bytes) => bytes.length + 1
  | .lit _ => 1
  | .nil => 1
  | .ptr d => uptoBulk d + 1
  | .slice elems spare => uptoBulkAll elems + uptoBulkAll spare + 1
  | .agg parts => uptoBulkAll parts + 1
  | .iface _ d => uptoBulk d + 1
  | .map entries => uptoBulkEntries entries + 1
  | .held _ => 1
def uptoBulkAll {H : Type} : List (DataW H) → Nat
  | [] => 0
  | d :: r => uptoBulk d + uptoBulkAll r
def uptoBulkEntries {H : Type} : List (Lit × DataW H) → Nat
  | [] => 0
  | x :: r => uptoBulkEntry x + uptoBulkEntries r
def uptoBulkEntry {H : Type} : Lit × DataW H → Nat
  | (.string bytes, d) => bytes.length + uptoBulk d + 1
  | (_, d) => uptoBulk d + 1
 end
def uptoSmall : (H : Type) → List (DataW H) → Bool := fun _ ds => decide (uptoBulkAll ds ≤ 1048576)
def OpenSpec.upto (s : _root_.Go.ChangeSpec) : _root_.Go.OpenSpec := { _root_.Go.OpenSpec.ofChange s with cond := some uptoSmall }

/-- 'laws.FnTop', WHERE WHAT IT READS IS OF BULK AT MOST 1048576: true; the input reads as it did. -/
def fnTopUptoRow : OpenClaim := { program := "ytnnfkmjhaljplaagreatdoor", sum := "0ffbf75955e367105d1538504f72cb319fea72273642a9c2c55a217fd9902d61", func := "loop.example/g00800/laws.FnTop", spec := "fnTop", inPlace := ["slices.overlaps[loop.example/g00800/impl.Cell]", "slices.overlaps[loop.example/g00800/impl.WriteList]", "internal/reflectlite.TypeOf"], unfollowed := true, recurses := true, named := ["loop.example/g00800/impl.nibbleSums", "loop.example/g00800/impl.errOtherSum", "loop.example/g00800/impl.errNoSteps", "loop.example/g00800/impl.errNoFrame"], ifaces := true, plainKeys := false, apart := false, laid := [("loop.example/g00800/impl.nibbleSums", laid_loop_example_g00800_impl_nibbleSums), ("loop.example/g00800/impl.errNoFrame", laid_loop_example_g00800_impl_errNoFrame), ("loop.example/g00800/impl.errOtherSum", laid_loop_example_g00800_impl_errOtherSum), ("loop.example/g00800/impl.errNoSteps", laid_loop_example_g00800_impl_errNoSteps)], narrowed := true }
def FnTopUptoSaid : Prop := fnTopUptoRow.holds Tryz.pinned (OpenSpec.upto fnTopSpec)

/-- 'laws.FnPipes', WHERE WHAT IT READS IS OF BULK AT MOST 1048576: true; the input reads as it did. -/
def fnPipesUptoRow : OpenClaim := { program := "ytnnfkmjhaljplaagreatdoor", sum := "0ffbf75955e367105d1538504f72cb319fea72273642a9c2c55a217fd9902d61", func := "loop.example/g00800/laws.FnPipes", spec := "fnPipes", inPlace := ["internal/reflectlite.TypeOf", "internal/abi.NoEscape", "internal/bytealg.CountString", "internal/bytealg.IndexByteString", "internal/bytealg.IndexString", "slices.overlaps[loop.example/g00800/impl.WriteList]"], unfollowed := true, recurses := true, named := ["loop.example/g00800/impl.errOtherSum", "loop.example/g00800/impl.errNoSteps", "loop.example/g00800/impl.errNoFrame", "loop.example/g00800/impl.nibbleSums", "internal/strconv.uint64pow10", "math/bits.deBruijn32tab", "math/bits.deBruijn64tab", "unicode/utf8.first", "unicode/utf8.acceptRanges", "internal/bytealg.MaxLen"], ifaces := true, plainKeys := false, apart := false, laid := [("math/bits.deBruijn32tab", laid_math_bits_deBruijn32tab), ("math/bits.deBruijn64tab", laid_math_bits_deBruijn64tab), ("internal/strconv.uint64pow10", laid_internal_strconv_uint64pow10), ("unicode/utf8.acceptRanges", laid_unicode_utf8_acceptRanges), ("loop.example/g00800/impl.nibbleSums", laid_loop_example_g00800_impl_nibbleSums), ("loop.example/g00800/impl.errNoFrame", laid_loop_example_g00800_impl_errNoFrame), ("loop.example/g00800/impl.errOtherSum", laid_loop_example_g00800_impl_errOtherSum), ("loop.example/g00800/impl.errNoSteps", laid_loop_example_g00800_impl_errNoSteps), ("unicode/utf8.first", laid_unicode_utf8_first)], narrowed := true }
def FnPipesUptoSaid : Prop := fnPipesUptoRow.holds Tryz.pinned (OpenSpec.upto fnPipesSpec)

/-- 'laws.FnExactCheckFile', WHERE WHAT IT READS IS OF BULK AT MOST 1048576: true; the input reads as it did. -/
def fnExactCheckFileUptoRow : OpenClaim := { program := "ytnnfkmjhaljplaagreatdoor", sum := "0ffbf75955e367105d1538504f72cb319fea72273642a9c2c55a217fd9902d61", func := "loop.example/g00800/laws.FnExactCheckFile", spec := "fnExactCheckFile", inPlace := ["internal/reflectlite.TypeOf", "slices.overlaps[loop.example/g00800/impl.WriteList]"], unfollowed := true, recurses := true, named := ["loop.example/g00800/impl.errOtherSum", "loop.example/g00800/impl.errNoSteps", "loop.example/g00800/impl.errNoFrame", "loop.example/g00800/impl.nibbleSums"], ifaces := true, plainKeys := false, apart := false, laid := [("loop.example/g00800/impl.nibbleSums", laid_loop_example_g00800_impl_nibbleSums), ("loop.example/g00800/impl.errNoFrame", laid_loop_example_g00800_impl_errNoFrame), ("loop.example/g00800/impl.errOtherSum", laid_loop_example_g00800_impl_errOtherSum), ("loop.example/g00800/impl.errNoSteps", laid_loop_example_g00800_impl_errNoSteps)], narrowed := true }
def FnExactCheckFileUptoSaid : Prop := fnExactCheckFileUptoRow.holds Tryz.pinned (OpenSpec.upto fnExactCheckFileSpec)

/-- 'laws.FnExactRunAll', WHERE WHAT IT READS IS OF BULK AT MOST 1048576: true; the input reads as it did. -/
def fnExactRunAllUptoRow : OpenClaim := { program := "ytnnfkmjhaljplaagreatdoor", sum := "0ffbf75955e367105d1538504f72cb319fea72273642a9c2c55a217fd9902d61", func := "loop.example/g00800/laws.FnExactRunAll", spec := "fnExactRunAll", inPlace := ["slices.overlaps[loop.example/g00800/impl.Cell]", "slices.overlaps[loop.example/g00800/impl.WriteList]", "internal/reflectlite.TypeOf"], unfollowed := true, recurses := true, named := ["loop.example/g00800/impl.nibbleSums", "loop.example/g00800/impl.errOtherSum", "loop.example/g00800/impl.errNoSteps", "loop.example/g00800/impl.errNoFrame"], ifaces := true, plainKeys := false, apart := false, laid := [("loop.example/g00800/impl.nibbleSums", laid_loop_example_g00800_impl_nibbleSums), ("loop.example/g00800/impl.errNoFrame", laid_loop_example_g00800_impl_errNoFrame), ("loop.example/g00800/impl.errOtherSum", laid_loop_example_g00800_impl_errOtherSum), ("loop.example/g00800/impl.errNoSteps", laid_loop_example_g00800_impl_errNoSteps)], narrowed := true }
def FnExactRunAllUptoSaid : Prop := fnExactRunAllUptoRow.holds Tryz.pinned (OpenSpec.upto fnExactRunAllSpec)

end Rows
end Go.Proofs.YtnnfkmjhaljplaaGreatDoor
