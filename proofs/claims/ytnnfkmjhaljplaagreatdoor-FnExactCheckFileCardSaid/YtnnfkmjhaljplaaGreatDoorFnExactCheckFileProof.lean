/- The law 'FnExactCheckFile' answers true at every input and leaves its arguments as they were, where the program's table of sums and its errors lie as their initialisers lay them, which the card ties to the program's text; no other condition. -/
import Derived.Test.YtnnfkmjhaljplaaGreatDoorRows
import Derived.Test.YtnnfkmjhaljplaaGreatDoorClosed
import Derived.Test.YtnnfkmjhaljplaaGreatDoorTie
import Derived.Test.YtnnfkmjhaljplaaGreatDoorCards
import Derived.Test.YtnnfkmjhaljplaaGreatDoorM36
import Derived.LaidMore
import Derived.Test.YtnnfkmjhaljplaaGreatDoorM07
import Derived.Lib.LaidTab
import Derived.OpenVars
import Derived.SevenTiedAt
import Derived.Stop.Joined
import Derived.Test.YtnnfkmjhaljplaaGreatDoorM37
import Derived.WalkKit
import Derived.ProofKit
import Derived.OpenShut
import Derived.ShutString
import Derived.ChangeMaps5
import Derived.ChangeOld
import Derived.Below
namespace Go.Proofs.YtnnfkmjhaljplaaGreatDoor.fnExactCheckFile
open Go.ChangeShapes Go.WideShapes Go.ChangeAt Go.RowKit
set_option linter.unusedVariables false

theorem own : ownKnob Tryz.prog.godebug = none := by kernel_rfl
theorem laidOut : laidOutB Tryz.prog = true := by kernel_rfl

theorem cellsA : Tryz.prog.cellsOf 339 = 16 := by kernel_rfl
theorem cellsE : Tryz.prog.cellsOf 338 = 1 := by kernel_rfl
/-- The table that the row lists, as the walk reads it. -/
theorem tab_of {W : World} (h : laidMetH Tryz.prog Rows.fnExactCheckFileRow.laid W) : Tab W := by
  rw [MakeChecks.laidMetH_plain _ _ _ (by kernel_rfl)] at h
  have hI := Lib.tabIs_of_head (P := Tryz.prog) (W := W) (k := .u32) (zs := tabL) (g := 3) (by kernel_rfl) (by kernel_rfl) Tryz.underlying339 Tryz.underlying338 cellsE cellsA h
  intro i hi
  rw [← tab_eq i hi]
  exact hI.cell (g := 3) (by kernel_rfl) i hi
theorem star : "*" ++ "errors.errorString" = "*errors.errorString" := by decide
theorem rowE (u : TypeId) (h : Tryz.prog.typeName? 3 u = some "*errors.errorString") : u = 447 :=
  typeName_ptr_named (nm := "errors.errorString") (by rw [star]; kernel_rfl) (by kernel_rfl) (by decide) u (by rw [star]; exact h)
theorem cellsES : Tryz.prog.cellsOf 469 = 1 := by kernel_rfl
theorem cellsSt : Tryz.prog.cellsOf 9 = 1 := by kernel_rfl
theorem gN : Tryz.prog.globalNamed "loop.example/g00800/impl.errNoFrame" = some 2 := by kernel_rfl
theorem gNT : (Tryz.prog.globals[2]?).map (·.type) = some 267 := by kernel_rfl
theorem gS : Tryz.prog.globalNamed "loop.example/g00800/impl.errOtherSum" = some 0 := by kernel_rfl
theorem gST : (Tryz.prog.globals[0]?).map (·.type) = some 267 := by kernel_rfl
theorem gE : Tryz.prog.globalNamed "loop.example/g00800/impl.errNoSteps" = some 1 := by kernel_rfl
theorem gET : (Tryz.prog.globals[1]?).map (·.type) = some 267 := by kernel_rfl
/-- The errors that the row lists, as the walk reads them. -/
theorem sent_of {W : World} (h : laidMetH Tryz.prog Rows.fnExactCheckFileRow.laid W) : ∃ aN aS aE, Sent aN aS aE W ∧ W.var? Tryz.prog "loop.example/g00800/impl.errNoFrame" = some #[errV aN] ∧ W.var? Tryz.prog "loop.example/g00800/impl.errOtherSum" = some #[errV aS] ∧ W.var? Tryz.prog "loop.example/g00800/impl.errNoSteps" = some #[errV aE] := by
  rw [MakeChecks.laidMetH_plain _ _ _ (by kernel_rfl)] at h
  obtain ⟨a0, a1, a2, ⟨v0, v1, v2⟩, ⟨b0, b1, b2⟩, n01, n02, n12⟩ := laid_errors3 (laidMet.tail h) gN gNT gS gST gE gET Tryz.underlying267 rowE Tryz.underlying447 Tryz.underlying469 rfl rfl Tryz.underlying9 cellsES cellsSt
  exact ⟨a0, a1, a2, ⟨by simpa using World.var?_cell gN v0 0, by simpa using World.var?_cell gS v1 0, by simpa using World.var?_cell gE v2 0, b0, b1, b2, n01, n02, n12⟩, v0, v1, v2⟩

theorem door_met (os : Os) (args : Array Value) : laidMetH Tryz.prog Rows.fnExactCheckFileRow.laid ((World.doorLaid Tryz.prog 400 os).forCall (fun _ _ => 0) ⟨#[], args, []⟩).memory :=
  laidMetH_of_parts3 (fuel := 8) (laidMet_of_run' 8 (by kernel_rfl) (by kernel_rfl)) (by kernel_rfl) (by kernel_rfl)

/-! ### The row's step -/
set_option maxRecDepth 100000 in
theorem lifted (os : Os) (started : os.Started) (H : Type) (enc : TypeId × Value → H) :
    ReturnsInHanded {} Tryz.checked os 5 .any (fun w args => (Rows.fnExactCheckFileSpec.pre enc Tryz.prog Tryz.f5 [] false w args ∧ laidMetH Tryz.prog Rows.fnExactCheckFileRow.laid w) ∧ sizedMet enc Tryz.prog Tryz.f5 (OpenSpec.ofChange Rows.fnExactCheckFileSpec) false w args)
      (Rows.fnExactCheckFileSpec.post enc Tryz.prog Tryz.f5 false true false false) := by
  refine returnsInHanded_of_change_and (C := Tryz.checked) (X := fun w _ => laidMetH Tryz.prog Rows.fnExactCheckFileRow.laid w) (fun _ _ _ hh h => h.of_heap hh) own started (by kernel_rfl) Tryz.func5
    (ChangeSpec.witness_shaped (enc := enc) (C := Tryz.checked) (os := os) (X := fun w _ => laidMetH Tryz.prog Rows.fnExactCheckFileRow.laid w) false (World.doorLaid Tryz.prog 400 os) #[.slice none 0 0, .slice none 0 0] 8 rfl (World.shaped_of_RefB (by kernel_rfl) (by kernel_rfl)) (by kernel_rfl) (by kernel_rfl) (by kernel_rfl) (door_met os _)) ?_
  intro W base args ds gs before hval0 hW _ _ hL _
  have hval : ∀ (j : Nat) t v, Tryz.f5.params[j]? = some t → args[j]? = some v → Value.okWide Tryz.prog W .any base t v := hval0
  have hW' := hW
  obtain ⟨p, q, hA0, hV, hpq, hfz, hnd⟩ := hW
  have hA : DataW.TrodAll enc Tryz.prog W 0 (fun _ => true) true Tryz.f5.params.toList args.toList ds p := hA0
  rw [Tryz.params5] at hA hval
  obtain ⟨v0, vs0, d0, ds0, p0, q0, hargs, rfl, rfl, h0, r0r⟩ := trodAll_cons hA
  obtain ⟨v1, vs1, d1, ds1, p1, q1, rfl, rfl, rfl, h1, r1r⟩ := trodAll_cons r0r
  obtain ⟨rfl, rfl, rfl⟩ := trodAll_nil r1r
  obtain rfl : args = #[v0, v1] := by cases args; simp_all
  have hV2 := hV
  obtain ⟨aN, aS, aE, hS, vN, vS, vE⟩ := sent_of hL
  have hX0 := hV
  obtain ⟨y0, ys0, _, _, rfl, hY0, hX1⟩ := vars_split hX0
  obtain ⟨y1, ys1, _, _, rfl, hY1, hX2⟩ := vars_split hX1
  obtain ⟨y2, ys2, _, _, rfl, hY2, hX3⟩ := vars_split hX2
  obtain ⟨y3, ys3, _, _, rfl, hY3, hX4⟩ := vars_split hX3
  obtain ⟨rfl, _⟩ := trodVars_none hX4
  obtain rfl := (List.cons.inj (DataW.TrodVars.unique hY0 (vars_token enc gS gST Tryz.underlying267 vS trivial _ (show DataW.TrodVars enc Tryz.prog _ _ [] [] [] from rfl))).1).1
  obtain rfl := (List.cons.inj (DataW.TrodVars.unique hY1 (vars_token enc gE gET Tryz.underlying267 vE trivial _ (show DataW.TrodVars enc Tryz.prog _ _ [] [] [] from rfl))).1).1
  obtain rfl := (List.cons.inj (DataW.TrodVars.unique hY2 (vars_token enc gN gNT Tryz.underlying267 vN trivial _ (show DataW.TrodVars enc Tryz.prog _ _ [] [] [] from rfl))).1).1
  have hlts := hS.lts
  have k0 := h0
  have lt0 : ∀ x ∈ p0, x.block < W.heap.size := by obtain ⟨m, hm⟩ := k0; exact DataW.trod_lt m _ _ _ hm
  obtain ⟨a0, len0, cap0, rfl⟩ := okWide_slice Tryz.underlying22 (hval 0 22 v0 rfl rfl)
  obtain ⟨fuel0, hf0⟩ := h0
  obtain ⟨l0, rfl, hm0, r0, x0⟩ : ∃ l : List Int, len0 = l.length ∧ l.length ≤ maxLen ∧ Rd .u8 W W.heap.size a0 l ∧ ∀ n ∈ l, (Lit.int .u8 n).wf = true := by
    rcases open_ints Tryz.underlying22 Tryz.underlying5 (by kernel_rfl) hf0 with ⟨hcs, _⟩ | ⟨x, l, c, zs, hcs, _, hl, hm, hz, _, hcell, hwz⟩
    · simp [Value.cells] at hcs
      obtain ⟨rfl, rfl, rfl⟩ := hcs
      exact Rd.of_row (cap := 0) (zs := []) (.inl ⟨rfl, rfl, rfl, rfl⟩)
    · simp [Value.cells] at hcs
      obtain ⟨rfl, rfl, rfl⟩ := hcs
      exact Rd.of_row (zs := zs) (.inr ⟨_, rfl, hl, hm, by simpa using hz, hcell, hwz⟩)
  have k1 := h1
  have lt1 : ∀ x ∈ p1, x.block < W.heap.size := by obtain ⟨m, hm⟩ := k1; exact DataW.trod_lt m _ _ _ hm
  obtain ⟨a1, len1, cap1, rfl⟩ := okWide_slice Tryz.underlying70 (hval 1 70 v1 rfl rfl)
  obtain ⟨fuel1, hf1⟩ := h1
  obtain ⟨os1, rfl, hl1, hm1, r1⟩ := wls_of (a := a1) (len := len1) (cap := cap1) hf1
  clear hA0 hval0
  have hT := tab_of hL
  refine (FnExactCheckFile_walk l0 a0 cap0 os1 a1 cap1 W aN aS aE hm0 r0 (B8.of_wf x0) hT hS (by omega) r1).mono fun e W' ⟨he, bel⟩ => ?_
  subst he
  have hZ4 : DataW.TrodVars enc Tryz.prog W' (fun b => decide (b < W.heap.size)) [] [] [] := rfl
  obtain ⟨_, hZ3⟩ := vars_join (Below.trodVars laidOut bel (by kernel_rfl) hY3) hZ4
  obtain ⟨_, hZ2⟩ := vars_join (vars_token enc gN gNT Tryz.underlying267 (var?_below bel gN (by omega) vN) trivial _ (show DataW.TrodVars enc Tryz.prog _ _ [] [] [] from rfl)) hZ3
  obtain ⟨_, hZ1⟩ := vars_join (vars_token enc gE gET Tryz.underlying267 (var?_below bel gE (by omega) vE) trivial _ (show DataW.TrodVars enc Tryz.prog _ _ [] [] [] from rfl)) hZ2
  obtain ⟨_, hZ0⟩ := vars_join (vars_token enc gS gST Tryz.underlying267 (var?_below bel gS (by omega) vS) trivial _ (show DataW.TrodVars enc Tryz.prog _ _ [] [] [] from rfl)) hZ1
  exact ⟨_, rfl, _, _, _, [], _, _, hW', trodAll_mk1 (shut_bool Tryz.underlying4 _), (trodAll_cons_mk (Below.trod laidOut (by kernel_rfl) (of_decide_eq_true (by kernel_rfl)) k0 bel lt0) (trodAll_cons_mk (Below.trod laidOut (by kernel_rfl) (of_decide_eq_true (by kernel_rfl)) k1 bel lt1) trodAll_mk0)), hZ0, bel.frame _, fun h => by cases h⟩

theorem over : Rows.fnExactCheckFileRow.holds Tryz.pinned (OpenSpec.ofChange Rows.fnExactCheckFileSpec) :=
  OpenClaim.holds_of_wide 5 Tryz.f5 rfl rfl rfl rfl rfl rfl rfl ⟨rfl, rfl, rfl, rfl, rfl⟩ rfl rfl rfl rfl rfl (by kernel_rfl) Tryz.func5 closedCF
    (of_decide_eq_true (by kernel_rfl)) (by unfold Func.isWrapper; first | (rw [if_pos (by decide +kernel)]; kernel_rfl) | (rw [if_neg (by decide +kernel)]; exact ⟨rfl, rfl⟩))
    (fun os started H enc _ => lifted os started H enc)

/-- The row. -/
theorem row_holds : Rows.FnExactCheckFileSaid := over
/-- The tied card. -/
theorem proved : Rows.FnExactCheckFileCardSaid :=
  Claim7.holds_tied_plain_at .later [] [.data, .sentinel, .sentinel, .sentinel] true Rows.fnExactCheckFileCard.stood.harness true
    row_holds (fun _ h => by cases h) (by kernel_rfl) (fun _ h => by cases h) fnExactCheckFile_row_tie rfl ⟨rfl, rfl⟩ (by kernel_rfl) rfl
    (fun f fn hf hfn => by
      obtain rfl : f = 5 := Option.some.inj ((show Tryz.prog.funcNamed Rows.fnExactCheckFileRow.func = some 5 by kernel_rfl).symm.trans hf) |>.symm
      obtain rfl : fn = Tryz.f5 := (Option.some.inj (Tryz.func5.symm.trans hfn)).symm
      exact ⟨by kernel_rfl, fun j t ht => by
        have hall : (Tryz.f5.params.toList.all fun u => !Tryz.prog.wantsStandIn u) = true := by kernel_rfl
        have hm : t ∈ Tryz.f5.params.toList := by simpa using Array.mem_of_getElem? ht
        exact (show Tryz.prog.wantsStandIn t = false by simpa using List.all_eq_true.1 hall t hm)⟩)
    (by kernel_rfl)
#print axioms proved
end Go.Proofs.YtnnfkmjhaljplaaGreatDoor.fnExactCheckFile
