/- The law 'FnExactSpotsOf' answers true at every input and leaves its arguments as they were, where the program's table of sums and its errors lie as their initialisers lay them, which the card ties to the program's text; no other condition. -/
import Derived.Test.YtldepledinolmaaDoorRows
import Derived.Test.YtldepledinolmaaDoorTie
import Derived.Test.YtldepledinolmaaDoorCards
import Derived.Test.YtldepledinolmaaDoorLSpo
import Derived.LaidMore
import Derived.Test.YtldepledinolmaaDoorSentOne
import Derived.Lib.LaidTab
import Derived.OpenVars
import Derived.SevenTiedAt
import Derived.Stop.Joined
import Derived.Test.YtldepledinolmaaDoorOpen
import Derived.WalkKit
import Derived.ProofKit
import Derived.OpenShut
import Derived.ShutString
import Derived.ChangeMaps5
import Derived.ChangeOld
import Derived.Below
namespace Go.Proofs.YtldepledinolmaaDoor.fnExactSpotsOf
open Go.ChangeShapes Go.WideShapes Go.ChangeAt Go.RowKit
set_option linter.unusedVariables false

theorem own : ownKnob Tryd.prog.godebug = none := by kernel_rfl
theorem laidOut : laidOutB Tryd.prog = true := by kernel_rfl

theorem cellsA : Tryd.prog.cellsOf 123 = 16 := by kernel_rfl
theorem cellsE : Tryd.prog.cellsOf 122 = 1 := by kernel_rfl
/-- The table that the row lists, as the walk reads it. -/
theorem tab_of {W : World} (h : laidMetH Tryd.prog Rows.fnExactSpotsOfRow.laid W) : Tab W := by
  rw [MakeChecks.laidMetH_plain _ _ _ (by kernel_rfl)] at h
  have hI := Lib.tabIs_of_head (P := Tryd.prog) (W := W) (k := .u32) (zs := tabL) (g := 0) (by kernel_rfl) (by kernel_rfl) Tryd.underlying123 Tryd.underlying122 cellsE cellsA h
  intro i hi
  rw [← tab_eq i hi]
  exact hI.cell (g := 0) (by kernel_rfl) i hi
theorem star : "*" ++ "errors.errorString" = "*errors.errorString" := by decide
theorem rowE (u : TypeId) (h : Tryd.prog.typeName? 3 u = some "*errors.errorString") : u = 162 :=
  typeName_ptr_named (nm := "errors.errorString") (by rw [star]; kernel_rfl) (by kernel_rfl) (by decide) u (by rw [star]; exact h)
theorem cellsES : Tryd.prog.cellsOf 187 = 1 := by kernel_rfl
theorem cellsSt : Tryd.prog.cellsOf 9 = 1 := by kernel_rfl
theorem gN : Tryd.prog.globalNamed "loop.example/g00800/impl.errNoFrame" = some 1 := by kernel_rfl
theorem gNT : (Tryd.prog.globals[1]?).map (·.type) = some 109 := by kernel_rfl
/-- The error that the row lists, as the walk reads it. -/
theorem sent_of {W : World} (h : laidMetH Tryd.prog Rows.fnExactSpotsOfRow.laid W) : ∃ aN, W.cell? ⟨1, 0, none⟩ = some (errV aN) ∧ W.var? Tryd.prog "loop.example/g00800/impl.errNoFrame" = some #[errV aN] := by
  rw [MakeChecks.laidMetH_plain _ _ _ (by kernel_rfl)] at h
  obtain ⟨a0, v0⟩ := laid_errors1 (laidMet.tail h) gN gNT Tryd.underlying109 rowE Tryd.underlying162 Tryd.underlying187 rfl rfl Tryd.underlying9 cellsES cellsSt
  exact ⟨a0, by simpa using World.var?_cell gN v0 0, v0⟩

theorem door_met (os : Os) (args : Array Value) : laidMetH Tryd.prog Rows.fnExactSpotsOfRow.laid ((World.doorLaid Tryd.prog 400 os).forCall (fun _ _ => 0) ⟨#[], args, []⟩).memory :=
  laidMetH_of_parts3 (fuel := 8) (laidMet_of_run' 8 (by kernel_rfl) (by kernel_rfl)) (by kernel_rfl) (by kernel_rfl)

/-! ### The row's step -/
set_option maxRecDepth 100000 in
theorem lifted (os : Os) (started : os.Started) (H : Type) (enc : TypeId × Value → H) :
    ReturnsInHanded {} Tryd.checked os 4 .any (fun w args => (Rows.fnExactSpotsOfSpec.pre enc Tryd.prog Tryd.f4 [] false w args ∧ laidMetH Tryd.prog Rows.fnExactSpotsOfRow.laid w) ∧ sizedMet enc Tryd.prog Tryd.f4 (OpenSpec.ofChange Rows.fnExactSpotsOfSpec) false w args)
      (Rows.fnExactSpotsOfSpec.post enc Tryd.prog Tryd.f4 false true false false) := by
  refine returnsInHanded_of_change_and (C := Tryd.checked) (X := fun w _ => laidMetH Tryd.prog Rows.fnExactSpotsOfRow.laid w) (fun _ _ _ hh h => h.of_heap hh) own started (by kernel_rfl) Tryd.func4
    (ChangeSpec.witness_shaped (enc := enc) (C := Tryd.checked) (os := os) (X := fun w _ => laidMetH Tryd.prog Rows.fnExactSpotsOfRow.laid w) false (World.doorLaid Tryd.prog 400 os) #[.slice none 0 0, .int .i64 0] 8 rfl (World.shaped_of_RefB (by kernel_rfl) (by kernel_rfl)) (by kernel_rfl) (by kernel_rfl) (by kernel_rfl) (door_met os _)) ?_
  intro W base args ds gs before hval0 hW _ _ hL _
  have hval : ∀ (j : Nat) t v, Tryd.f4.params[j]? = some t → args[j]? = some v → Value.okWide Tryd.prog W .any base t v := hval0
  have hW' := hW
  obtain ⟨p, q, hA0, hV, hpq, hfz, hnd⟩ := hW
  have hA : DataW.TrodAll enc Tryd.prog W 0 (fun _ => true) true Tryd.f4.params.toList args.toList ds p := hA0
  rw [Tryd.params4] at hA hval
  obtain ⟨v0, vs0, d0, ds0, p0, q0, hargs, rfl, rfl, h0, r0r⟩ := trodAll_cons hA
  obtain ⟨v1, vs1, d1, ds1, p1, q1, rfl, rfl, rfl, h1, r1r⟩ := trodAll_cons r0r
  obtain ⟨rfl, rfl, rfl⟩ := trodAll_nil r1r
  obtain rfl : args = #[v0, v1] := by cases args; simp_all
  have hV2 := hV
  obtain ⟨aN, hN, vN⟩ := sent_of hL
  have hX0 := hV
  obtain ⟨y0, ys0, _, _, rfl, hY0, hX1⟩ := vars_split hX0
  obtain ⟨y1, ys1, _, _, rfl, hY1, hX2⟩ := vars_split hX1
  obtain ⟨rfl, _⟩ := trodVars_none hX2
  obtain rfl := (List.cons.inj (DataW.TrodVars.unique hY1 (vars_token enc gN gNT Tryd.underlying109 vN trivial _ (show DataW.TrodVars enc Tryd.prog _ _ [] [] [] from rfl))).1).1
  have hlts : 1 < W.heap.size := block_lt_of_cell hN
  have k0 := h0
  have lt0 : ∀ x ∈ p0, x.block < W.heap.size := by obtain ⟨m, hm⟩ := k0; exact DataW.trod_lt m _ _ _ hm
  obtain ⟨a0, len0, cap0, rfl⟩ := okWide_slice Tryd.underlying35 (hval 0 35 v0 rfl rfl)
  obtain ⟨fuel0, hf0⟩ := h0
  obtain ⟨t0, rfl, hl0, hm0, r0, o0⟩ := trace_of (a := a0) (len := len0) (cap := cap0) hf0
  have k1 := h1
  have lt1 : ∀ x ∈ p1, x.block < W.heap.size := by obtain ⟨m, hm⟩ := k1; exact DataW.trod_lt m _ _ _ hm
  obtain ⟨z1, rfl, rfl, rfl, w1⟩ := open_int Tryd.underlying2 (hval 1 2 v1 rfl rfl) h1
  clear hA0 hval0
  have hT := tab_of hL
  refine (FnExactSpotsOf_walk t0 a0 cap0 z1 W hl0 hm0 r0 aN hT hN).mono fun e W' ⟨he, bel⟩ => ?_
  subst he
  have hZ2 : DataW.TrodVars enc Tryd.prog W' (fun b => decide (b < W.heap.size)) [] [] [] := rfl
  obtain ⟨_, hZ1⟩ := vars_join (vars_token enc gN gNT Tryd.underlying109 (var?_below bel gN (by omega) vN) trivial _ (show DataW.TrodVars enc Tryd.prog _ _ [] [] [] from rfl)) hZ2
  obtain ⟨_, hZ0⟩ := vars_join (Below.trodVars laidOut bel (by kernel_rfl) hY0) hZ1
  exact ⟨_, rfl, _, _, _, [], _, _, hW', trodAll_mk1 (shut_bool Tryd.underlying4 _), (trodAll_cons_mk (Below.trod laidOut (by kernel_rfl) (of_decide_eq_true (by kernel_rfl)) k0 bel lt0) (trodAll_cons_mk (Below.trod laidOut (by kernel_rfl) (of_decide_eq_true (by kernel_rfl)) k1 bel lt1) trodAll_mk0)), hZ0, bel.frame _, fun h => by cases h⟩

theorem over : Rows.fnExactSpotsOfRow.holds Tryd.pinned (OpenSpec.ofChange Rows.fnExactSpotsOfSpec) :=
  OpenClaim.holds_of_wide 4 Tryd.f4 rfl rfl rfl rfl rfl rfl rfl ⟨rfl, rfl, rfl, rfl, rfl⟩ rfl rfl rfl rfl rfl (by kernel_rfl) Tryd.func4 (by kernel_rfl)
    (of_decide_eq_true (by kernel_rfl)) (by unfold Func.isWrapper; first | (rw [if_pos (by decide +kernel)]; kernel_rfl) | (rw [if_neg (by decide +kernel)]; exact ⟨rfl, rfl⟩))
    (fun os started H enc _ => lifted os started H enc)

/-- The row. -/
theorem row_holds : Rows.FnExactSpotsOfSaid := over
/-- The tied card. -/
theorem proved : Rows.FnExactSpotsOfCardSaid :=
  Claim7.holds_tied_plain_at .later [] [.data, .sentinel] true Rows.fnExactSpotsOfCard.stood.harness true
    row_holds (fun _ h => by cases h) (by kernel_rfl) (fun _ h => by cases h) fnExactSpotsOf_row_tie rfl ⟨rfl, rfl⟩ (by kernel_rfl) rfl
    (fun f fn hf hfn => by
      obtain rfl : f = 4 := Option.some.inj ((show Tryd.prog.funcNamed Rows.fnExactSpotsOfRow.func = some 4 by kernel_rfl).symm.trans hf) |>.symm
      obtain rfl : fn = Tryd.f4 := (Option.some.inj (Tryd.func4.symm.trans hfn)).symm
      exact ⟨by kernel_rfl, fun j t ht => by
        have hall : (Tryd.f4.params.toList.all fun u => !Tryd.prog.wantsStandIn u) = true := by kernel_rfl
        have hm : t ∈ Tryd.f4.params.toList := by simpa using Array.mem_of_getElem? ht
        exact (show Tryd.prog.wantsStandIn t = false by simpa using List.all_eq_true.1 hall t hm)⟩)
    (by kernel_rfl)
#print axioms proved
end Go.Proofs.YtldepledinolmaaDoor.fnExactSpotsOf
