/- The contract of DoOp, in the program. The contract of a machine's copy, in the model. The contract of DoOp, in the model. -/
import Derived.Test.YtifijhfeeammkaaGNew
import Derived.Test.YtifijhfeeammkaaGBus
import Derived.Test.YtifijhfeeammkaaGMac
import Derived.Test.YtifijhfeeammkaaGMsi
import Derived.Test.YtifijhfeeammkaaGMdl
import Derived.Test.YtifijhfeeammkaaCopyT
import Derived.Test.YtifijhfeeammkaaGMsf
namespace Go.Proofs.Ytifijhfeeammkaa
open Go.RowKit

/-- What DoOp tells, as mathematics. -/
noncomputable def doC (m : Mac) (core : Int) (o : Ev) : Int := if macF m = 0 then (if 0 ≤ core ∧ core ≤ (m.cs.length : Int) - 1 then (if opF o = 0 then (if m.mem.length ≤ 30 then 0 else 2) else opF o) else 3) else macF m
noncomputable def doR (m : Mac) (core : Int) (o : Ev) : Int × Mac × Int := if doC m core o = 0 then (0, doM m core.toNat o) else (doC m core o, ⟨[], []⟩, 0)
theorem doR_ok {m : Mac} {core : Int} {o : Ev} (h : doC m core o = 0) : doR m core o = (0, doM m core.toNat o) := if_pos h
theorem doR_no {m : Mac} {core : Int} {o : Ev} (h : ¬ doC m core o = 0) : doR m core o = (doC m core o, ⟨[], []⟩, 0) := if_neg h
section
variable {m : Mac} {core : Int} {o : Ev}
theorem doC_m (h : ¬ macF m = 0) : doC m core o = macF m := if_neg h
theorem doC_c (h : macF m = 0) (h2 : ¬ (0 ≤ core ∧ core ≤ (m.cs.length : Int) - 1)) : doC m core o = 3 := by unfold doC; rw [if_pos h, if_neg h2]
theorem doC_o (h : macF m = 0) (h2 : 0 ≤ core ∧ core ≤ (m.cs.length : Int) - 1) (h3 : ¬ opF o = 0) : doC m core o = opF o := by unfold doC; rw [if_pos h, if_pos h2, if_neg h3]
theorem doC_l (h : macF m = 0) (h2 : 0 ≤ core ∧ core ≤ (m.cs.length : Int) - 1) (h3 : opF o = 0) (h4 : ¬ m.mem.length ≤ 30) : doC m core o = 2 := by unfold doC; rw [if_pos h, if_pos h2, if_pos h3, if_neg h4]
theorem doC_ok (h : macF m = 0) (h2 : 0 ≤ core ∧ core ≤ (m.cs.length : Int) - 1) (h3 : opF o = 0) (h4 : m.mem.length ≤ 30) : doC m core o = 0 := by unfold doC; rw [if_pos h, if_pos h2, if_pos h3, if_pos h4]
theorem doC_zero (h : doC m core o = 0) : macF m = 0 ∧ (0 ≤ core ∧ core ≤ (m.cs.length : Int) - 1) ∧ opF o = 0 ∧ m.mem.length ≤ 30 := by
  by_cases h1 : macF m = 0
  · by_cases h2 : 0 ≤ core ∧ core ≤ (m.cs.length : Int) - 1
    · by_cases h3 : opF o = 0
      · by_cases h4 : m.mem.length ≤ 30
        · exact ⟨h1, h2, h3, h4⟩
        · rw [doC_l h1 h2 h3 h4] at h; omega
      · rw [doC_o h1 h2 h3] at h; exact absurd h h3
    · rw [doC_c h1 h2] at h; omega
  · rw [doC_m h1] at h; exact absurd h h1
end

set_option maxRecDepth 100000 in
set_option maxHeartbeats 1600000 in
theorem doFault_any (m : Mac) (core : Int) (o : Ev) (A A' : Option Addr) (c c' : Nat) (w : World) (h1 : m.cs.length ≤ maxLen) (h2 : m.mem.length ≤ maxLen) (hc : -9223372036854775808 ≤ core ∧ core ≤ 9223372036854775807) (h : RdMac w w.heap.size A A' m) :
    Calls Try.prog 64 #[macV A m.cs.length c A' m.mem.length c', .int .i64 core, evV o.k o.a o.v] w fun e w' => e = .returned (.int .i64 (doC m core o)) ∧ Below w.heap.size w w' := by
  obtain ⟨F, hF⟩ : ∃ F, F = doC m core o := ⟨_, rfl⟩
  rw [← hF]
  have HF := hide hF
  clear hF
  obtain ⟨W, hW⟩ : ∃ W, W = (w.alloc (Obj.cells #[.slice A m.cs.length c, .slice A' m.mem.length c'] 27)).alloc (Obj.cells #[.int .i64 o.k, .int .i64 o.a, .int .i64 o.v] 29) := ⟨_, rfl⟩
  obtain ⟨k1, k2, hz, B0⟩ := two_new _ _ _ _ _ W hW
  have hR := (h.below B0).lt
  have HW := hide hW
  clear hW
  have MF := hide (implMacF_any m A A' c c' W h1 h2 hR)
  have OF := hide (fun W => implOpF_any o.k o.a o.v W)
  have q0 := (k1.cell 0).trans (rfl : _ = some (Value.slice A m.cs.length c))
  have q1 := (k1.cell 1).trans (rfl : _ = some (Value.slice A' m.mem.length c'))
  go_enter Try.func64, Try.ntmps64
  go_upto_region 1 with fail
  rw [← HW.out]
  go_wp2_with fail
  refine MF.out.mono ?_
  rintro e w1 ⟨rfl, b1⟩
  have j1 := k1.kept b1
  have j2 := k2.kept b1
  have B1 := B0.trans (b1.mono B0.size)
  clear q0 q1 k1 k2 MF b1
  by_cases hm : macF m = 0
  · have hgd := macF_zero hm
    have hn4 : 1 ≤ m.cs.length ∧ m.cs.length ≤ 4 := by have := hgd.1.nL; omega
    have hm32 := hgd.2
    obtain ⟨hn1, hn4⟩ := hn4
    rw [hm]
    have q0 := (j1.cell 0).trans (rfl : _ = some (Value.slice A m.cs.length c))
    by_cases hcr : 0 ≤ core ∧ core ≤ (m.cs.length : Int) - 1
    · go_wp2_with fail
      refine (allWithin_one _ _ 0 ((m.cs.length : Int) - 1) core _ (by simp [go_sem]) hcr).mono ?_
      rintro e w2 ⟨rfl, rfl⟩
      have j22 := j2.alloc (.cells #[.int .i64 core] 2)
      have j12 := j1.alloc (.cells #[.int .i64 core] 2)
      have B2 := B1.alloc B1.size (.cells #[.int .i64 core] 2)
      clear q0 j1 j2 B1
      generalize w1.alloc (.cells #[.int .i64 core] 2) = V at *
      have p0 := (j22.cell 0).trans (rfl : _ = some (Value.int .i64 o.k))
      have p1 := (j22.cell 1).trans (rfl : _ = some (Value.int .i64 o.a))
      have p2 := (j22.cell 2).trans (rfl : _ = some (Value.int .i64 o.v))
      go_wp2_with fail
      refine (OF.out _).mono ?_
      rintro e w3 ⟨rfl, b3⟩
      have j13 := j12.kept b3
      have B3 := B2.trans (b3.mono B2.size)
      have q1 := (j13.cell 1).trans (rfl : _ = some (Value.slice A' m.mem.length c'))
      clear p0 p1 p2 j22 j12 B2 b3
      by_cases ho : opF o = 0
      · rw [ho]
        by_cases hl : m.mem.length ≤ 30
        · have HE := hide (HF.out.trans (doC_ok hm hcr ho hl))
          have hd : decide (m.mem.length ≤ 30) = true := decide_eq_true hl
          go_wp2
          go_ret
          exact ⟨by rw [HE.out]; rfl, B3⟩
        · have HE := hide (HF.out.trans (doC_l hm hcr ho hl))
          have hd : decide (m.mem.length ≤ 30) = false := decide_eq_false hl
          go_wp2
          go_ret
          exact ⟨by rw [HE.out]; rfl, B3⟩
      · have HE := hide (HF.out.trans (doC_o hm hcr ho))
        have g0 : (opF o != 0) = true := bne_iff_ne.2 ho
        have g1 : (opF o == 0) = false := beq_eq_false_iff_ne.2 ho
        go_wp2
        go_ret
        exact ⟨by rw [HE.out]; rfl, B3⟩
    · have HE := hide (HF.out.trans (doC_c hm hcr))
      go_wp2_with fail
      refine (allWithin_not _ _ 0 ((m.cs.length : Int) - 1) core _ (by simp [go_sem]) (by omega)).mono ?_
      rintro e w2 ⟨rfl, rfl⟩
      go_wp2
      go_ret
      exact ⟨by rw [HE.out]; rfl, B1.alloc B1.size _⟩
  · have HE := hide (HF.out.trans (doC_m hm))
    have g0 : (macF m != 0) = true := bne_iff_ne.2 hm
    have g1 : (macF m == 0) = false := beq_eq_false_iff_ne.2 hm
    go_wp2
    go_ret
    exact ⟨by rw [HE.out]; rfl, B1⟩

set_option maxRecDepth 100000 in
set_option maxHeartbeats 1600000 in
theorem implDo_any (m : Mac) (core : Int) (o : Ev) (A A' : Option Addr) (c c' : Nat) (w : World) (h1 : m.cs.length ≤ maxLen) (h2 : m.mem.length ≤ maxLen) (hc : -9223372036854775808 ≤ core ∧ core ≤ 9223372036854775807) (h : RdMac w w.heap.size A A' m) :
    Calls Try.prog 15 #[macV A m.cs.length c A' m.mem.length c', .int .i64 core, evV o.k o.a o.v] w (MrPost (doR m core o) w) := by
  unfold MrPost
  obtain ⟨C, M2, v2, hC⟩ : ∃ C M2 v2, doR m core o = (C, M2, v2) := ⟨_, _, _, rfl⟩
  rw [hC]
  have HC := hide hC
  clear hC
  obtain ⟨W, hW⟩ : ∃ W, W = ((w.alloc (Obj.cells #[.slice A m.cs.length c, .slice A' m.mem.length c'] 27)).alloc (Obj.cells #[.int .i64 o.k, .int .i64 o.a, .int .i64 o.v] 29)).alloc (Obj.cells #[.int .i64 0, .slice none 0 0, .slice none 0 0, .int .i64 0] 33) := ⟨_, rfl⟩
  obtain ⟨k1, k2, k3, hz, B0⟩ := three_new _ _ _ _ _ _ _ W hW
  have hR := (h.below B0).lt
  have HW := hide hW
  clear hW
  have DF := hide (doFault_any m core o A A' c c' W h1 h2 hc hR)
  have q0 := (k1.cell 0).trans (rfl : _ = some (Value.slice A m.cs.length c))
  have q1 := (k1.cell 1).trans (rfl : _ = some (Value.slice A' m.mem.length c'))
  have p0 := (k2.cell 0).trans (rfl : _ = some (Value.int .i64 o.k))
  have p1 := (k2.cell 1).trans (rfl : _ = some (Value.int .i64 o.a))
  have p2 := (k2.cell 2).trans (rfl : _ = some (Value.int .i64 o.v))
  go_enter Try.func15, Try.ntmps15
  go_upto_region 1 with fail
  rw [← HW.out]
  go_wp2_with fail
  refine DF.out.mono ?_
  rintro e w1 ⟨rfl, b1⟩
  have R1 := (hR.below b1).lt
  replace k1 := k1.kept b1
  replace k2 := k2.kept b1
  replace k3 := k3.kept b1
  have B1 := B0.trans (b1.mono B0.size)
  have z1 := b1.size
  clear q0 q1 p0 p1 p2 DF hR B0
  by_cases h0 : doC m core o = 0
  · have e0 := HC.out
    rw [doR_ok h0] at e0
    rw [h0]
    obtain ⟨hm, hcr, ho, hl⟩ := doC_zero h0
    obtain ⟨G, _⟩ := macF_zero hm
    obtain ⟨L, hL⟩ : ∃ L, L = (m.cs.getD 0 []).length := ⟨_, rfl⟩
    rw [← hL] at G
    obtain ⟨i0, rfl⟩ := Int.eq_ofNat_of_zero_le hcr.1
    have hi0 : i0 < m.cs.length := by omega
    have hpd := pDo_eq G hi0 ho
    have hdid := do_ok G hi0 ho
    have HB := hide (busOf_any m A A' c c' w1 G (by omega) R1)
    unfold BusOfPost at HB
    rw [Int.toNat_natCast] at e0
    simp only [Prod.mk.injEq] at e0
    obtain ⟨rfl, e2⟩ := e0
    rw [e2] at hpd hdid
    have G2 := hdid.good
    have HPD := hide hpd
    have HD := hide hdid
    clear hpd hdid e2 hcr hL h0 hm hl
    have q0 := (k1.cell 0).trans (rfl : _ = some (Value.slice A m.cs.length c))
    have q1 := (k1.cell 1).trans (rfl : _ = some (Value.slice A' m.mem.length c'))
    go_wp2_with fail
    refine HB.out.mono ?_
    rintro e w2 ⟨gv, cg, pm, vm, us, rfl, hb, b2⟩
    clear HB q0 q1
    replace k1 := k1.kept b2
    replace k2 := k2.kept b2
    replace k3 := k3.kept b2
    have B2 := B1.trans (b2.mono B1.size)
    have z2 := b2.size
    have kb := Bk.new w2 #[.slice (some ⟨gv, 0, none⟩) m.cs.length cg, .pointer (some ⟨pm, 0, none⟩)] 102
    have hb3 := hb.alloc (Obj.cells #[.slice (some ⟨gv, 0, none⟩) m.cs.length cg, .pointer (some ⟨pm, 0, none⟩)] 102)
    have B3 := B2.alloc B2.size (Obj.cells #[.slice (some ⟨gv, 0, none⟩) m.cs.length cg, .pointer (some ⟨pm, 0, none⟩)] 102)
    have nS : ¬ BusS pm vm us w2.heap.size := fun e => by have := hb.low e; omega
    replace k2 := k2.alloc (Obj.cells #[.slice (some ⟨gv, 0, none⟩) m.cs.length cg, .pointer (some ⟨pm, 0, none⟩)] 102)
    replace k3 := k3.alloc (Obj.cells #[.slice (some ⟨gv, 0, none⟩) m.cs.length cg, .pointer (some ⟨pm, 0, none⟩)] 102)
    obtain ⟨X, hX⟩ : ∃ X, X = w2.alloc (Obj.cells #[.slice (some ⟨gv, 0, none⟩) m.cs.length cg, .pointer (some ⟨pm, 0, none⟩)] 102) := ⟨_, rfl⟩
    rw [← hX] at kb hb3 B3 k2 k3
    have hzX : w2.heap.size < X.heap.size := kb.lt
    have HX := hide hX
    have DO := hide (busDo_any hb3 G hi0 ho)
    rw [HPD.out] at DO
    have nS3 : ∀ k, k < w1.heap.size → ¬ BusS pm vm us k := fun k hk e => by have := hb.low e; omega
    have HLow := hide (fun x (hx : BusS pm vm us x) => (hb.low hx).1)
    clear hX hb B2 b2
    have x0 := (kb.cell 0).trans (rfl : _ = some (Value.slice (some ⟨gv, 0, none⟩) m.cs.length cg))
    have x1 := (kb.cell 1).trans (rfl : _ = some (Value.pointer (some ⟨pm, 0, none⟩)))
    have p0 := (k2.cell 0).trans (rfl : _ = some (Value.int .i64 o.k))
    have p1 := (k2.cell 1).trans (rfl : _ = some (Value.int .i64 o.a))
    have p2 := (k2.cell 2).trans (rfl : _ = some (Value.int .i64 o.v))
    go_upto_region 5 with fail
    rw [← HX.out]
    go_wp2_with fail
    refine DO.out.mono ?_
    rintro e w3 ⟨rfl, vm2, hb4, mv, bt⟩
    clear DO x0 x1 p0 p1 p2 hb3
    have kb4 := bt.bk kb nS
    have k34 := bt.bk k3 (nS3 _ (by omega))
    have B4 := B3.trans (bt.below (B := w.heap.size) (by omega) (fun x hx => by have := HLow.out x hx; omega))
    have MC := hide (busMachine_any hb4 G2)
    have x0 := (kb4.cell 0).trans (rfl : _ = some (Value.slice (some ⟨gv, 0, none⟩) m.cs.length cg))
    have x1 := (kb4.cell 1).trans (rfl : _ = some (Value.pointer (some ⟨pm, 0, none⟩)))
    clear hb4 bt mv kb k2 k3 B3 kb4
    go_wp2_with fail
    refine MC.out.mono ?_
    rintro e w4 ⟨A5, c5, AM5, cM5, us5, hv5, rfl, om, b5⟩
    have k35 := k34.kept b5
    have B5 := B4.trans (b5.mono B4.size)
    have z0 := (k35.cell 0).trans (rfl : _ = some (Value.int .i64 0))
    have z1 := (k35.cell 1).trans (rfl : _ = some (Value.slice none 0 0))
    have z2 := (k35.cell 2).trans (rfl : _ = some (Value.slice none 0 0))
    have z3 := (k35.cell 3).trans (rfl : _ = some (Value.int .i64 0))
    have f0 := k35.frozen 0
    have f1 := k35.frozen 1
    have f2 := k35.frozen 2
    have f3 := k35.frozen 3
    have HOM := hide om
    clear om x0 x1 MC
    go_wp2
    refine bodyPost_ret (v := mrV 0 A5 M2.cs.length c5 AM5 M2.mem.length cM5 v2) (by simp [results, Try.results15, go_sem, z0, z1, z2, z3]) rfl ?_
    refine ⟨A5, c5, AM5, cM5, us5, rfl, ?_, (((B5.setCell (by simp only; omega) _).setCell (by simp only; omega) _).setCell (by simp only; omega) _).setCell (by simp only; omega) _⟩
    refine OwnMac.mono (base := w1.heap.size) ?_ (by omega)
    exact (((HOM.out.set_ (by omega) _).set_ (by omega) _).set_ (by omega) _).set_ (by omega) _
  · have e0 := HC.out
    rw [doR_no h0] at e0
    obtain ⟨F, hF⟩ : ∃ F, F = doC m core o := ⟨_, rfl⟩
    rw [← hF] at h0 e0 ⊢
    clear hF HC
    simp only [Prod.mk.injEq] at e0
    obtain ⟨rfl, rfl, rfl⟩ := e0
    have g0 : (F != 0) = true := bne_iff_ne.2 h0
    have g1 : (F == 0) = false := beq_eq_false_iff_ne.2 h0
    have z0 := (k3.cell 0).trans (rfl : _ = some (Value.int .i64 0))
    have z1 := (k3.cell 1).trans (rfl : _ = some (Value.slice none 0 0))
    have z2 := (k3.cell 2).trans (rfl : _ = some (Value.slice none 0 0))
    have z3 := (k3.cell 3).trans (rfl : _ = some (Value.int .i64 0))
    have f0 := k3.frozen 0
    have f1 := k3.frozen 1
    have f2 := k3.frozen 2
    have f3 := k3.frozen 3
    go_wp2
    refine bodyPost_ret (v := mrV F none 0 0 none 0 0 0) (by simp [results, Try.results15, go_sem, z0, z1, z2, z3]) rfl ?_
    have HBB := fun (x0 x1 x2 x3 : Value) => (((B1.setCell (p := ⟨w.heap.size + 1 + 1, 0, none⟩) (by simp only; omega) x0).setCell (p := ⟨w.heap.size + 1 + 1, 1, none⟩) (by simp only; omega) x1).setCell (p := ⟨w.heap.size + 1 + 1, 2, none⟩) (by simp only; omega) x2).setCell (p := ⟨w.heap.size + 1 + 1, 3, none⟩) (by simp only; omega) x3
    first
      | exact ⟨none, 0, none, 0, [], rfl, OwnMac.nil_ _ _, HBB _ _ _ _⟩
      | exact ⟨none, 0, none, 0, rfl, ⟨[], OwnMac.nil_ _ _⟩, HBB _ _ _ _⟩
end Go.Proofs.Ytifijhfeeammkaa
namespace Go.Proofs.Ytifijhfeeammkaa
open Go.RowKit

/-- While a machine is copied: R is the result's block, p the new machine's. -/
structure CpM (w0 w : World) (R p : Nat) (mem : List Cel) (vm vo : Value) (t : List (List Ev)) (us : List Value) : Prop where
  cs : OwnTLine w (p + 1) vo t us
  res : Bk w R #[.slice none 0 0, .slice none 0 0] 27
  out : Bk w p #[vo, vm] 27
  mem : w.ownsRow (R + 1) 120 2 vm mem.length (cels mem)
  far : ∀ b, vm.ownBlock = some b → b < p
  nums : R < p
  old : Below R w0 w
section
variable {w0 w w' : World} {R p : Nat} {mem : List Cel} {vm vo v' u : Value} {t : List (List Ev)} {us : List Value} {l : List Ev}
theorem CpM.below (h : CpM w0 w R p mem vm vo t us) (hb : Below w.heap.size w w') : CpM w0 w' R p mem vm vo t us :=
  ⟨h.cs.below hb, h.res.kept hb, h.out.kept hb, own_below h.mem hb (Nat.le_refl _), h.far, h.nums, h.old.trans (hb.mono (by have := h.res.lt; omega))⟩
theorem CpM.push (h : CpM w0 w R p mem vm vo t us) (hu : w.ownsRow (p + 1) 115 3 u l.length (evs l)) (hf : ∀ b, u.ownBlock = some b → vo.ownBlock ≠ some b ∧ ∀ (i : Nat) (u' : Value), us[i]? = some u' → u'.ownBlock ≠ some b)
    (ho : w'.ownsRow (p + 1) 112 1 v' (t.length + 1) (us ++ [u])) (hg : w.grownBy w' vo.ownBlock) (hat : v'.ownBlock = vo.ownBlock ∨ v'.ownBlock = some w.heap.size) :
    CpM w0 (w'.setCell ⟨p, 0, none⟩ v') R p mem vm v' (t ++ [l]) (us ++ [u]) := by
  have hn := h.nums
  have hpl := h.out.lt
  have hsep : ∀ k, k < p + 1 → some k ≠ vo.ownBlock := fun k hk e => by have := h.cs.row.lt k e.symm; omega
  refine ⟨(h.cs.push hu hf ho hg hat).set7 (by omega) _, (h.res.grown hg (hsep R (by omega))).far (p := ⟨p, 0, none⟩) (by simp only; omega) _, ?_, ?_, h.far, hn, ?_⟩
  · have := (h.out.grown hg (hsep p (by omega))).set_ 0 v'
    simpa using this
  · exact ownsRow_setCell_other (h.mem.kept hg (own_sep fun b hb e => hsep b (by have := h.far b hb; omega) e.symm)) (fun e => by have := h.far _ e; simp only at this; omega) _
  · exact (h.old.trans ⟨hg.os, hg.tape, hg.output, hg.size, fun k hk => hg.block k (by omega) (hsep k (by omega))⟩).setCell (by simp only; omega) _
end

set_option maxRecDepth 100000 in
set_option maxHeartbeats 3200000 in
theorem l7CopyU_any {q : Nat} (m : Mac) (A A' : Option Addr) (c c' : Nat) (w : World) (hn : m.cs.length ≤ 20) (hL20 : ∀ l ∈ m.cs, l.length ≤ 20) (hm : m.mem.length ≤ 1000) (kq : Bk w q #[.slice A m.cs.length c, .slice A' m.mem.length c'] 27) (h : RdMac w w.heap.size A A' m) :
    Calls Try.prog 69 #[.pointer (some ⟨q, 0, none⟩)] w fun e w' => ∃ B d B' d' us, e = .returned (macV B m.cs.length d B' m.mem.length d') ∧ OwnMac w' w.heap.size (.slice B m.cs.length d) (.slice B' m.mem.length d') m us ∧ Below w.heap.size w w' := by
  obtain ⟨i0, hi, hz0, hz1, hz2⟩ := info_parts info_cell
  obtain ⟨i1, hj, hy0, hy1, hy2⟩ := info_parts info_line
  obtain ⟨i2, hl, hx0, hx1, hx2⟩ := info_parts info_lines
  have hql := kq.lt
  have q0 := (kq.cell 0).trans (rfl : _ = some (Value.slice A m.cs.length c))
  have q1 := (kq.cell 1).trans (rfl : _ = some (Value.slice A' m.mem.length c'))
  obtain ⟨R, hR⟩ : ∃ R, R = w.heap.size := ⟨_, rfl⟩
  have HR := hide hR
  -- what stands behind the memory's copy
  have mid : ∀ (A3 : Option Addr) (c3 : Nat) (w3 : World), w3.ownsRow (R + 1) 120 2 (.slice A3 m.mem.length c3) m.mem.length (cels m.mem) → ((w.alloc (Obj.cells #[.slice none 0 0, .slice none 0 0] 27)).alloc (Obj.cells #[] 120)).grownBy w3 (some (R + 1)) →
      w3.cell? ⟨q, 0, none⟩ = some (.slice A m.cs.length c) ∧ q < w3.heap.size ∧ CpM w (w3.alloc (Obj.cells #[.slice none 0 0, .slice A3 m.mem.length c3] 27)) R w3.heap.size m.mem (.slice A3 m.mem.length c3) (.slice none 0 0) (m.cs.take 0) [] := fun A3 c3 w3 o3 g3 => by
    obtain ⟨k1, k2, hz, B0⟩ := two_new w #[.slice none 0 0, .slice none 0 0] #[] 27 120 _ rfl
    rw [← hR] at k1 k2 hz B0
    have j1 := k1.grown g3 (by simp)
    have B3 : Below R w w3 := B0.grown g3 (by omega) (fun k e => by cases e; omega)
    have hz3 := g3.size
    have B4 := B3.alloc (by omega) (Obj.cells #[.slice none 0 0, .slice A3 m.mem.length c3] 27)
    refine ⟨(B3.cell (p := ⟨q, 0, none⟩) (by simp only; omega)).trans q0, by omega, ⟨OwnTLine.nil_ _ _, j1.alloc _, Bk.new _ _ _, o3.alloc _, fun b e => (o3.lt b e).2, by omega, B4⟩⟩
  have HMID := hide mid
  have HH := hide h.cs
  have HRM := hide h.mem
  have HKQ := hide kq
  have rO : ∀ V : World, V.heap.size = w.heap.size + 1 → (V.alloc (Obj.cells #[] 120)).ownsRow (R + 1) 120 2 (.slice (some ⟨w.heap.size + 1, 0, none⟩) 0 0) 0 [] := fun V hV => by
    have := World.ownsRow_lit (base := R + 1) (e := 120) (size := 2) V #[] 0 (by omega) (by simp) rfl
    rw [hV] at this
    exact this
  have r1 := rO (w.alloc (Obj.cells #[.slice none 0 0, .slice none 0 0] 27)) (by simp)
  have hmx : 0 + m.mem.length ≤ maxLen := by unfold maxLen; omega
  have h16 : (0 + m.mem.length) * 16 ≤ 140737488355328 := by omega
  have rM := (h.mem.alloc (Nat.le_refl _) (Obj.cells #[.slice none 0 0, .slice none 0 0] 27)).alloc (by simp) (Obj.cells #[] 120)
  have hbz : R + 1 ≤ ((w.alloc (Obj.cells #[.slice none 0 0, .slice none 0 0] 27)).alloc (Obj.cells #[] 120)).heap.size := by simp; omega
  clear mid h kq rO hR
  go_enter Try.func69, Try.ntmps69
  go_wp2_with (at_builtin; refine wpList_append_rc _ rfl _ _ 25 rfl (R + 1) 120 i0 (.agg #[.int .i64 0, .int .i64 0]) 16 Try.underlying25 hi hz0 hz1 hz2 rfl (.slice (some ⟨w.heap.size + 1, 0, none⟩) 0 0) 0 [] rfl r1 A' m.mem c' w.heap.size rfl rM hmx h16 hbz ?_; intro v3 w3 o3 g3 hat3; rw [Nat.zero_add, List.nil_append] at o3; obtain ⟨A3, c3, rfl⟩ := own_shape o3; have HMM := HMID.out A3 c3 w3 o3 (by rw [HR.out]; exact g3); obtain ⟨q3, hq3, D0⟩ := HMM; clear o3 g3 hat3)
  rw [← HR.out]
  clear q0 q1 q3 r1 rM hmx h16 hbz
  obtain ⟨W4, hW4⟩ : ∃ W4, W4 = w3.alloc (Obj.cells #[.slice none 0 0, .slice A3 m.mem.length c3] 27) := ⟨_, rfl⟩
  rw [← hW4] at D0 ⊢
  obtain ⟨p, hp⟩ : ∃ p, p = w3.heap.size := ⟨_, rfl⟩
  rw [← hp] at D0 ⊢
  clear hW4 hp hq3
  go_loopw [17] (fun s wr => ∃ (i : Nat) (vo : Value) (us : List Value), i ≤ m.cs.length ∧ s = .int .i64 i ∧ CpM w wr R p m.mem (.slice A3 m.mem.length c3) vo (m.cs.take i) us) (fun s _ => m.cs.length - (intOf s).toNat)
  case atStart => exact ⟨0, _, _, Nat.zero_le _, rfl, D0⟩
  case round =>
    clear D0
    obtain ⟨i, vo, us, hin, rfl, D⟩ := hrel
    obtain ⟨wo, hwo⟩ : ∃ x, x = wr := ⟨_, rfl⟩
    subst hwo
    by_cases hlt : i < m.cs.length
    · obtain ⟨b, off, a, d, hA, hbb, hcw, hle, hcm, hrw⟩ := HH.out.get hlt
      subst hA
      obtain ⟨l, hld⟩ : ∃ l, l = m.cs[i] := ⟨_, rfl⟩
      have hll : l.length ≤ 20 := by rw [hld]; exact hL20 _ (List.getElem_mem hlt)
      have HT := hide (show m.cs.take (i + 1) = m.cs.take i ++ [l] by rw [List.take_succ_eq_append_getElem hlt, ← hld])
      rw [← hld] at hcw hrw
      have hti : (m.cs.take i).length = i := by rw [List.length_take]; omega
      have orow := D.cs.row
      rw [hti] at orow
      obtain ⟨Ao, co, rfl⟩ := own_shape orow
      have hkq : Bk wo q #[.slice (some ⟨b, off, none⟩) m.cs.length c, .slice A' m.mem.length c'] 27 := HKQ.out.below D.old (by rw [HR.out]; exact hql)
      have s0 : wo.drew.cell? ⟨p, 0, none⟩ = some (.slice Ao i co) := (D.out.cell 0).trans rfl
      have a0 : wo.drew.cell? ⟨q, 0, none⟩ = some (.slice (some ⟨b, off, none⟩) m.cs.length c) := (hkq.cell 0).trans rfl
      have a1 : wo.drew.cell? ⟨b, off + i, none⟩ = some (.slice a l.length d) := (D.old.cell (p := ⟨b, off + i, none⟩) (by rw [HR.out]; exact hbb)).trans hcw
      have D1 := D.below (Below.refl _ _).drew
      have rl0 : RdE wo.drew wo.drew.heap.size a l := ((hrw.below (by rw [← HR.out]; exact D1.old)).more (by have := D1.old.size; have := HR.out; omega)).lt
      have hpl := D1.out.lt
      have hqR : q < R := by rw [HR.out]; exact hql
      have hbR : b < R := by rw [HR.out]; exact hbb
      have hRp := D1.nums
      have HTI := hide hti
      have HLL := hide hll
      clear hti hcw hrw hkq D orow hld hll
      go_wp2_with fail
      refine wp_region_F 12 (fun w' => w'.cell? ⟨q, 0, none⟩ = some (Value.slice (some ⟨b, off, none⟩) m.cs.length c) ∧ w'.cell? ⟨b, off + i, none⟩ = some (Value.slice a l.length d)) (fun w' => w'.cell? ⟨p, 0, none⟩ = some (Value.slice Ao i co)) (by kernel_rfl) ⟨⟨a0, a1⟩, s0⟩ (fun hHeld => ?_)
      try simp only [Act.put, List.setIfInBounds_toArray, List.set_cons_zero, List.set_cons_succ]
      clear s0 a0 a1
      generalize wo.drew = Z at *
      refine wpAnyF_take (i := 0) (v := ?_) (by (simp only [List.getElem?_toArray, List.getElem?_cons_zero]; rfl)) (by kernel_rfl) (by kernel_rfl) (by kernel_rfl) (by decide) (by exact fun _ _ _ h => h) ⟨hHeld.1, .inr hHeld.2⟩ (Or.inl ⟨by rfl, ?_⟩) ?_
      rotate_left
      · (intro w' _; go_simp <;> with_reducible rfl)
      try simp only [Act.put, List.setIfInBounds_toArray, List.set_cons_zero, List.set_cons_succ]
      refine wpAnyF_load (i := 1) (v := ?_) (by (simp only [List.getElem?_toArray, List.getElem?_cons_succ, List.getElem?_cons_zero]; rfl)) (by kernel_rfl) (by kernel_rfl) (by kernel_rfl) (by decide) (by exact fun _ _ _ h => h) hHeld (by kernel_rfl) (by kernel_rfl) (Or.inl ⟨by rfl, ?_⟩) ?_
      rotate_left
      · (intro w' hSw; (try dsimp only at hSw); obtain hSb0 := hSw; go_simp <;> with_reducible rfl)
      try simp only [Act.put, List.setIfInBounds_toArray, List.set_cons_zero, List.set_cons_succ]
      refine wpAnyF_take (i := 3) (v := ?_) (by (simp only [List.getElem?_toArray, List.getElem?_cons_succ, List.getElem?_cons_zero]; rfl)) (by kernel_rfl) (by kernel_rfl) (by kernel_rfl) (by decide) (by exact fun _ _ _ h => h) ⟨hHeld.1, .inr hHeld.2⟩ (Or.inl ⟨by rfl, ?_⟩) ?_
      rotate_left
      · (intro w' _; go_simp <;> with_reducible rfl)
      try simp only [Act.put, List.setIfInBounds_toArray, List.set_cons_zero, List.set_cons_succ]
      refine wpAnyF_take (i := 4) (v := ?_) (by (simp only [List.getElem?_toArray, List.getElem?_cons_succ, List.getElem?_cons_zero]; rfl)) (by kernel_rfl) (by kernel_rfl) (by kernel_rfl) (by decide) (by exact fun _ _ _ h => h) ⟨hHeld.1, .inr hHeld.2⟩ (Or.inl ⟨by rfl, ?_⟩) ?_
      rotate_left
      · (intro w' _; go_simp <;> with_reducible rfl)
      try simp only [Act.put, List.setIfInBounds_toArray, List.set_cons_zero, List.set_cons_succ]
      refine wpAnyF_take (i := 5) (v := ?_) (by (simp only [List.getElem?_toArray, List.getElem?_cons_succ, List.getElem?_cons_zero]; rfl)) (by kernel_rfl) (by kernel_rfl) (by kernel_rfl) (by decide) (by exact fun _ _ _ h => h) ⟨hHeld.1, .inr hHeld.2⟩ (Or.inl ⟨by rfl, ?_⟩) ?_
      rotate_left
      · (intro w' _; go_simp <;> with_reducible rfl)
      try simp only [Act.put, List.setIfInBounds_toArray, List.set_cons_zero, List.set_cons_succ]
      refine wpAnyF_keep (i := 6) (v := ?_) (by (simp only [List.getElem?_toArray, List.getElem?_cons_succ, List.getElem?_cons_zero]; rfl)) (by kernel_rfl) (by kernel_rfl) (by kernel_rfl) (by decide) (by exact fun _ _ _ h => h) ⟨hHeld.1, .inr hHeld.2⟩ (Or.inl ⟨by rfl, ?_⟩) ?_
      rotate_left
      · (intro w' hSw; (try dsimp only at hSw); obtain ⟨hSa0, hSa1⟩ := hSw; go_simp <;> with_reducible rfl)
      try simp only [Act.put, List.setIfInBounds_toArray, List.set_cons_zero, List.set_cons_succ]
      refine wpAnyF_take (i := 7) (v := ?_) (by (simp only [List.getElem?_toArray, List.getElem?_cons_succ, List.getElem?_cons_zero]; rfl)) (by kernel_rfl) (by kernel_rfl) (by kernel_rfl) (by decide) (by exact fun _ _ _ h => h) ⟨hHeld.1, .inr hHeld.2⟩ (Or.inl ⟨by rfl, ?_⟩) ?_
      rotate_left
      · (intro w' _; go_simp <;> with_reducible rfl)
      try simp only [Act.put, List.setIfInBounds_toArray, List.set_cons_zero, List.set_cons_succ]
      refine wpAnyF_take (i := 8) (v := ?_) (by (simp only [List.getElem?_toArray, List.getElem?_cons_succ, List.getElem?_cons_zero]; rfl)) (by kernel_rfl) (by kernel_rfl) (by kernel_rfl) (by decide) (by exact fun _ _ _ h => h) ⟨hHeld.1, .inr hHeld.2⟩ (Or.inl ⟨by rfl, ?_⟩) ?_
      rotate_left
      · (intro w' _; go_simp <;> with_reducible rfl)
      try simp only [Act.put, List.setIfInBounds_toArray, List.set_cons_zero, List.set_cons_succ]
      refine wpAnyF_keep (i := 9) (v := ?_) (by (simp only [List.getElem?_toArray, List.getElem?_cons_succ, List.getElem?_cons_zero]; rfl)) (by kernel_rfl) (by kernel_rfl) (by kernel_rfl) (by decide) (by exact fun _ _ _ h => h) ⟨hHeld.1, .inr hHeld.2⟩ (Or.inl ⟨by rfl, ?_⟩) ?_
      rotate_left
      · (intro w' hSw; (try dsimp only at hSw); obtain ⟨hSa0, hSa1⟩ := hSw; go_simp <;> with_reducible rfl)
      try simp only [Act.put, List.setIfInBounds_toArray, List.set_cons_zero, List.set_cons_succ]
      refine wpAnyF_ready (rs := [2]) (by kernel_rfl) (by simp) ?_
      refine AllReadyF.cons (by (simp only [List.getElem?_toArray, List.getElem?_cons_succ, List.getElem?_cons_zero]; rfl)) (fun K hK => ?_) AllReadyF.nil
      go_simp
      have bz := (Below.refl Z.heap.size Z).alloc (Nat.le_refl _) (Obj.cells #[] 115)
      have D2 := D1.below bz
      have rl1 := (rl0.below bz).lt
      have oL : (Z.alloc (Obj.cells #[] 115)).ownsRow Z.heap.size 115 3 (.slice (some ⟨Z.heap.size, 0, none⟩) 0 0) 0 [] := World.ownsRow_lit Z #[] 0 (Nat.le_refl _) (by simp) rfl
      have hzz : Z.heap.size ≤ (Z.alloc (Obj.cells #[] 115)).heap.size := by simp
      have hpz : p < Z.heap.size := hpl
      refine hK.out _ _ ⟨⟨cell_kept bz hHeld.1.1, cell_kept bz hHeld.1.2⟩, (cell_kept bz hHeld.2)⟩ (fun hNew => ?_)
      clear hK K hHeld
      have hHeld := hNew
      clear hNew
      try simp only [Act.put, List.setIfInBounds_toArray, List.set_cons_zero, List.set_cons_succ]
      clear rl0 hpl
      refine wpAnyF_ready (rs := [10]) (by kernel_rfl) (by simp) ?_
      refine AllReadyF.cons (by (simp only [List.getElem?_toArray, List.getElem?_cons_succ, List.getElem?_cons_zero]; rfl)) (fun K hK => ?_) AllReadyF.nil
      refine step_append_re _ (by rfl) (.tmp 22) (.tmp 29) 112 (by rfl) Z.heap.size 115 i1 (.agg #[.int .i64 0, .int .i64 0, .int .i64 0]) 24 Try.underlying112 hj hy0 hy1 hy2 rfl (.slice (some ⟨Z.heap.size, 0, none⟩) 0 0) 0 [] (by rfl) oL a l d (Z.alloc (Obj.cells #[] 115)).heap.size (by rfl) rl1 (by have := HLL.out; unfold maxLen; omega) (by have := HLL.out; omega) hzz ?_
      intro v3 w5 o5 g5 hat5
      rw [Nat.zero_add, List.nil_append] at o5
      have bz2 : Below Z.heap.size (Z.alloc (Obj.cells #[] 115)) w5 := grown_below oL g5 (by simp) (Nat.le_refl _)
      have D3 := D1.below (bz.trans bz2)
      have hf3 := D1.cs.freshL o5
      obtain ⟨A6, c6, rfl⟩ := own_shape o5
      have o5p : w5.ownsRow (p + 1) 115 3 (.slice A6 l.length c6) l.length (evs l) := own_mono o5 (by omega)
      refine hK.out _ _ ⟨⟨(bz2.cell (p := ⟨q, 0, none⟩) (by simp only; omega)).trans hHeld.1.1, (bz2.cell (p := ⟨b, off + i, none⟩) (by simp only; omega)).trans hHeld.1.2⟩, ((D3.out.cell 0).trans rfl)⟩ (fun hNew => ?_)
      clear hK K hHeld
      have hHeld := hNew
      clear hNew
      try simp only [Act.put, List.setIfInBounds_toArray, List.set_cons_zero, List.set_cons_succ]
      clear rl1 oL g5 hat5 bz2 bz D2 D1 o5
      refine wpAnyF_ready (rs := [11]) (by kernel_rfl) (by simp) ?_
      refine AllReadyF.cons (by (simp only [List.getElem?_toArray, List.getElem?_cons_succ, List.getElem?_cons_zero]; rfl)) (fun K hK => ?_) AllReadyF.nil
      go_simp
      have by_ := (Below.refl w5.heap.size w5).alloc (Nat.le_refl _) (Obj.cells #[.slice A6 l.length c6] 112)
      have D4 := D3.below by_
      have o6 := o5p.alloc (Obj.cells #[.slice A6 l.length c6] 112)
      have orow := D4.cs.row
      rw [HTI.out] at orow
      have hz4 := D4.out.lt
      refine hK.out _ _ ⟨⟨cell_kept by_ hHeld.1.1, cell_kept by_ hHeld.1.2⟩, ((D4.out.cell 0).trans rfl)⟩ (fun hNew => ?_)
      clear hK K hHeld
      have hHeld := hNew
      clear hNew
      try simp only [Act.put, List.setIfInBounds_toArray, List.set_cons_zero, List.set_cons_succ]
      clear D3 o5p
      refine wpAnyF_ready (rs := [12]) (by kernel_rfl) (by simp) ?_
      refine AllReadyF.last (by (simp only [List.getElem?_toArray, List.getElem?_cons_succ, List.getElem?_cons_zero]; rfl)) (by kernel_rfl) (fun K hK => ?_) AllReadyF.nil
      refine step_append_at _ (by rfl) (.tmp 21) (.tmp 31) 24 (by rfl) (p + 1) 112 i2 (.slice none 0 0) 1 24 Try.underlying24 hl hx0 hx1 hx2 rfl (by decide) (.slice Ao i co) i us (by rfl) orow ⟨w5.heap.size, 0, none⟩ 1 1 [.slice A6 l.length c6] (by rfl) rfl (cells_one1 _ _ _) (by intro u hu; rw [List.mem_singleton] at hu; rw [hu]; rfl) (by unfold maxLen; omega) (by omega) (by omega) ?_
      intro v7 w7 o7 g7 hat7
      have a7 : Below (p + 1) (w5.alloc (Obj.cells #[.slice A6 l.length c6] 112)) w7 := grown_below orow g7 (by omega) (Nat.le_refl _)
      have hP := D4.push (l := l) o6 hf3 (by rw [HTI.out]; exact o7) g7 hat7
      rw [← HT.out] at hP
      have k7 := D4.out.grown g7 (fun e => by have := orow.lt _ e.symm; omega)
      obtain ⟨A7, c7, rfl⟩ := own_shape o7
      have f7 := k7.frozen 0
      have e7 := (k7.cell 0).trans (rfl : _ = some (Value.slice Ao i co))
      have HP := hide hP
      have HA7 := hide (show (w7.setCell ⟨p, 0, none⟩ (.slice A7 (i + 1) c7)).cell? ⟨q, 0, none⟩ = some (Value.slice (some ⟨b, off, none⟩) m.cs.length c) ∧ (w7.setCell ⟨p, 0, none⟩ (.slice A7 (i + 1) c7)).cell? ⟨b, off + i, none⟩ = some (Value.slice a l.length d) from ⟨(World.cell?_setCell_far w7 ⟨p, 0, none⟩ ⟨q, 0, none⟩ (.slice A7 (i + 1) c7) (by simp only; omega)).trans ((a7.cell (p := ⟨q, 0, none⟩) (by simp only; omega)).trans hHeld.1.1), (World.cell?_setCell_far w7 ⟨p, 0, none⟩ ⟨b, off + i, none⟩ (.slice A7 (i + 1) c7) (by simp only; omega)).trans ((a7.cell (p := ⟨b, off + i, none⟩) (by simp only; omega)).trans hHeld.1.2)⟩)
      clear o7 g7 hat7 hP k7 D4 o6
      refine hK.out _ _ ⟨(a7.cell (p := ⟨q, 0, none⟩) (by simp only; omega)).trans hHeld.1.1, (a7.cell (p := ⟨b, off + i, none⟩) (by simp only; omega)).trans hHeld.1.2⟩ ?_
      clear hK K
      try simp only [Act.put, List.setIfInBounds_toArray, List.set_cons_zero, List.set_cons_succ]
      refine wpAnyF_take (i := 13) (v := ?_) (by (simp only [List.getElem?_toArray, List.getElem?_cons_succ, List.getElem?_cons_zero]; rfl)) (by kernel_rfl) (by kernel_rfl) (by kernel_rfl) (by decide) (by exact fun _ _ _ h => h) ⟨⟨(a7.cell (p := ⟨q, 0, none⟩) (by simp only; omega)).trans hHeld.1.1, (a7.cell (p := ⟨b, off + i, none⟩) (by simp only; omega)).trans hHeld.1.2⟩, .inl (by kernel_rfl)⟩ (Or.inl ⟨by rfl, ?_⟩) ?_
      rotate_left
      · (intro w' _; go_simp <;> with_reducible rfl)
      try simp only [Act.put, List.setIfInBounds_toArray, List.set_cons_zero, List.set_cons_succ]
      refine wpAnyF_ready (rs := [14]) (by kernel_rfl) (by simp) ?_
      refine AllReadyF.last (by (simp only [List.getElem?_toArray, List.getElem?_cons_succ, List.getElem?_cons_zero]; rfl)) (by kernel_rfl) (fun K hK => ?_) AllReadyF.nil
      go_simp
      refine hK.out _ _ HA7.out ?_
      clear hK K
      try simp only [Act.put, List.setIfInBounds_toArray, List.set_cons_zero, List.set_cons_succ]
      refine wpAnyF_done (by kernel_rfl) ?_ _
      go_wp2
      go_roundw
      case rel => exact ⟨i + 1, _, _, by omega, by go_num, HP.out⟩
      case measure => simp [intOf]; omega
    · obtain rfl : i = m.cs.length := by omega
      rw [List.take_length] at D
      obtain ⟨Ao, co, rfl⟩ := own_shape D.cs.row
      have y0 := (D.out.cell 0).trans (rfl : _ = some (Value.slice Ao m.cs.length co))
      have y1 := (D.out.cell 1).trans (rfl : _ = some (Value.slice A3 m.mem.length c3))
      have z0 := (D.res.cell 0).trans (rfl : _ = some (Value.slice none 0 0))
      have z1 := (D.res.cell 1).trans (rfl : _ = some (Value.slice none 0 0))
      have f0 := D.res.frozen 0
      have f1 := D.res.frozen 1
      have HD := hide D
      clear D
      go_wp2
      refine bodyPost_ret (v := macV Ao m.cs.length co A3 m.mem.length c3) (by simp [results, Try.results69, go_sem, z0, z1]) rfl ?_
      rw [← HR.out]
      have hnn := HD.out.nums
      refine ⟨Ao, co, A3, c3, us, rfl, ⟨?_, ?_, fun b e => ?_⟩, (HD.out.old.setCell (Nat.le_refl _) _).setCell (Nat.le_refl _) _⟩
      · exact ((HD.out.cs.set7 (by omega) _).set7 (by omega) _).mono (by omega)
      · exact own_mono (ownsRow_setCell_below (ownsRow_setCell_below HD.out.mem (a := ⟨R, 0, none⟩) (Nat.lt_succ_self R) _) (a := ⟨R, 1, none⟩) (Nat.lt_succ_self R) _) (Nat.le_succ _)
      · have h1 := HD.out.far b e
        refine ⟨fun e2 => ?_, fun u hu e2 => ?_⟩
        · have := HD.out.cs.row.lt b e2; omega
        · obtain ⟨j, hj⟩ := List.getElem?_of_mem hu
          obtain ⟨_, h2, _⟩ := HD.out.cs.at_ hj
          have := h2.lt b e2; omega
theorem l7Copy_any {n L q : Nat} (m : Mac) (A A' : Option Addr) (c c' : Nat) (w : World) (hs : Shp7 n L m.cs) (hn : n ≤ 20) (hL : L ≤ 20) (hm : m.mem.length ≤ 1000) (kq : Bk w q #[.slice A m.cs.length c, .slice A' m.mem.length c'] 27) (h : RdMac w w.heap.size A A' m) :
    Calls Try.prog 69 #[.pointer (some ⟨q, 0, none⟩)] w fun e w' => ∃ B d B' d' us, e = .returned (macV B m.cs.length d B' m.mem.length d') ∧ OwnMac w' w.heap.size (.slice B m.cs.length d) (.slice B' m.mem.length d') m us ∧ Below w.heap.size w w' :=
  l7CopyU_any m A A' c c' w (by rw [hs.1]; exact hn) (fun l hl => by rw [hs.2 l hl]; exact hL) hm kq h
end Go.Proofs.Ytifijhfeeammkaa
namespace Go.Proofs.Ytifijhfeeammkaa
open Go.RowKit

set_option maxRecDepth 100000 in
set_option maxHeartbeats 3200000 in
theorem specDo_any (m : Mac) (core : Int) (o : Ev) (A A' : Option Addr) (c c' : Nat) (w : World) (h1 : m.cs.length ≤ maxLen) (h2 : m.mem.length ≤ maxLen) (h : RdMac w w.heap.size A A' m) :
    Calls Try.prog 16 #[macV A m.cs.length c A' m.mem.length c', .int .i64 core, evV o.k o.a o.v] w (MrPost (doR m core o) w) := by
  unfold MrPost
  obtain ⟨C, M2, v2, hC⟩ : ∃ C M2 v2, doR m core o = (C, M2, v2) := ⟨_, _, _, rfl⟩
  rw [hC]
  have HC := hide hC
  clear hC
  obtain ⟨W, hW⟩ : ∃ W, W = ((w.alloc (Obj.cells #[.slice A m.cs.length c, .slice A' m.mem.length c'] 27)).alloc (Obj.cells #[.int .i64 o.k, .int .i64 o.a, .int .i64 o.v] 29)).alloc (Obj.cells #[.int .i64 0, .slice none 0 0, .slice none 0 0, .int .i64 0] 33) := ⟨_, rfl⟩
  obtain ⟨k1, k2, k3, hz, B0⟩ := three_new _ _ _ _ _ _ _ W hW
  have hR := (h.below B0).lt
  have HW := hide hW
  clear hW
  have MF := hide (specMacF_any m A A' c c' W h1 h2 hR)
  have OF := hide (fun W => specOpF_any o.k o.a o.v W)
  have q0 := (k1.cell 0).trans (rfl : _ = some (Value.slice A m.cs.length c))
  have q1 := (k1.cell 1).trans (rfl : _ = some (Value.slice A' m.mem.length c'))
  have bad : ∀ V : World, Bk V (w.heap.size + 1 + 1) #[.int .i64 0, .slice none 0 0, .slice none 0 0, .int .i64 0] 33 → Below w.heap.size w V → ∀ (x0 x1 x2 x3 : Value), Below w.heap.size w ((((V.setCell ⟨w.heap.size + 1 + 1, 0, none⟩ x0).setCell ⟨w.heap.size + 1 + 1, 1, none⟩ x1).setCell ⟨w.heap.size + 1 + 1, 2, none⟩ x2).setCell ⟨w.heap.size + 1 + 1, 3, none⟩ x3) := fun V _ hb x0 x1 x2 x3 => (((hb.setCell (by simp only; omega) x0).setCell (by simp only; omega) x1).setCell (by simp only; omega) x2).setCell (by simp only; omega) x3
  have HBAD := hide bad
  clear bad
  go_enter Try.func16, Try.ntmps16
  go_upto_region 1 with fail
  rw [← HW.out]
  go_wp2_with fail
  refine MF.out.mono ?_
  rintro e w1 ⟨rfl, b1⟩
  have R1 := (hR.below b1).lt
  replace k1 := k1.kept b1
  replace k2 := k2.kept b1
  replace k3 := k3.kept b1
  have B1 := B0.trans (b1.mono B0.size)
  have z1 := b1.size
  clear q0 q1 MF hR B0 b1
  by_cases hm : macF m = 0
  · rw [hm]
    obtain ⟨G, hm32⟩ := macF_zero hm
    have hn4 : 1 ≤ m.cs.length ∧ m.cs.length ≤ 4 := by have := G.nL; omega
    obtain ⟨hn1, hn4⟩ := hn4
    obtain ⟨L, hL⟩ : ∃ L, L = (m.cs.getD 0 []).length := ⟨_, rfl⟩
    rw [← hL] at G
    have q0 := (k1.cell 0).trans (rfl : _ = some (Value.slice A m.cs.length c))
    by_cases hcr : 0 ≤ core ∧ core ≤ (m.cs.length : Int) - 1
    · have LI := hide (fun V => l1In_yes core 0 ((m.cs.length : Int) - 1) V hcr)
      have HG := hide G
      clear hL G
      go_wp2_with fail
      refine (LI.out _).mono ?_
      rintro e w2 ⟨rfl, rfl⟩
      clear q0 LI
      have p0 := (k2.cell 0).trans (rfl : _ = some (Value.int .i64 o.k))
      have p1 := (k2.cell 1).trans (rfl : _ = some (Value.int .i64 o.a))
      have p2 := (k2.cell 2).trans (rfl : _ = some (Value.int .i64 o.v))
      go_wp2_with fail
      refine (OF.out _).mono ?_
      rintro e w3 ⟨rfl, b3⟩
      have R3 := (R1.below b3).lt
      replace k1 := k1.kept b3
      replace k2 := k2.kept b3
      replace k3 := k3.kept b3
      have B3 := B1.trans (b3.mono B1.size)
      have z3 := b3.size
      clear p0 p1 p2 b3 R1 B1 OF
      have q1 := (k1.cell 1).trans (rfl : _ = some (Value.slice A' m.mem.length c'))
      by_cases ho : opF o = 0
      · rw [show opF ⟨o.k, o.a, o.v⟩ = 0 from ho]
        by_cases hl : m.mem.length ≤ 30
        · have e0 := HC.out
          rw [doR_ok (doC_ok hm hcr ho hl)] at e0
          have hd : decide (m.mem.length ≤ 30) = true := decide_eq_true hl
          obtain ⟨i0, rfl⟩ := Int.eq_ofNat_of_zero_le hcr.1
          rw [Int.toNat_natCast] at e0
          simp only [Prod.mk.injEq] at e0
          obtain ⟨rfl, e2⟩ := e0
          have hi0 : i0 < m.cs.length := by omega
          have hdid := do_ok HG.out hi0 ho
          rw [e2] at hdid
          have G2 := hdid.good
          have CP := hide (l7Copy_any m A A' c c' w3 HG.out.shp (by omega) (by have := HG.out.nL; omega) (by omega) k1 R3)
          have HE2 := hide e2
          have HHO := hide ho
          have HHL := hide hl
          clear e2 hdid ho hcr hm hm32 hd
          go_wp2_with fail
          refine CP.out.mono ?_
          rintro e w4 ⟨Bc, dc, Bm, dm, us, rfl, om, b4⟩
          replace k2 := k2.kept b4
          replace k3 := k3.kept b4
          have B4 := B3.trans (b4.mono B3.size)
          have z4 := b4.size
          have orow := om.cs.row
          obtain ⟨gv, cg, cur, hBc, hgb, _⟩ := own_open orow (by omega)
          simp only [Value.slice.injEq, true_and] at hBc
          obtain ⟨rfl, rfl⟩ := hBc
          have kx := Bk.new w4 #[.slice (some ⟨gv, 0, none⟩) m.cs.length dc, .slice Bm m.mem.length dm] 27
          have M4 : Mdl (w4.alloc (Obj.cells #[.slice (some ⟨gv, 0, none⟩) m.cs.length dc, .slice Bm m.mem.length dm] 27)) w3.heap.size w4.heap.size gv dc m (.slice Bm m.mem.length dm) us := by
            refine ⟨kx, om.alloc _, z4, ?_, fun e => ?_, fun u hu e => ?_⟩
            · have := (orow.lt gv rfl).2; omega
            · have := (om.mem.lt _ e).2; omega
            · have := own_boundLine om.cs u hu _ e; omega
          replace k2 := k2.alloc (Obj.cells #[.slice (some ⟨gv, 0, none⟩) m.cs.length dc, .slice Bm m.mem.length dm] 27)
          replace k3 := k3.alloc (Obj.cells #[.slice (some ⟨gv, 0, none⟩) m.cs.length dc, .slice Bm m.mem.length dm] 27)
          have B5 := B4.alloc B4.size (Obj.cells #[.slice (some ⟨gv, 0, none⟩) m.cs.length dc, .slice Bm m.mem.length dm] 27)
          obtain ⟨X, hX⟩ : ∃ X, X = w4.alloc (Obj.cells #[.slice (some ⟨gv, 0, none⟩) m.cs.length dc, .slice Bm m.mem.length dm] 27) := ⟨_, rfl⟩
          rw [← hX] at kx M4 B5 k2 k3
          have HX := hide hX
          obtain ⟨g, hg⟩ : ∃ g, g = w4.heap.size := ⟨_, rfl⟩
          rw [← hg] at kx M4
          have HGG := hide hg
          have hlow : ∀ k, MdlS g us k → w3.heap.size ≤ k := fun k hk => (M4.low hk).1
          have hq3 : w.heap.size + 1 + 1 < w3.heap.size := by have := z1; have := z3; omega
          have DO := hide (l7Do_any M4 HG.out hi0 HHO.out (by have := HHL.out; omega) k2 (fun e => by have := hlow _ e; omega))
          rw [HE2.out] at DO
          have HLOW := hide hlow
          clear hX hg om orow kx M4 b4 B4 hlow CP q1
          go_upto_region 12 with fail
          rw [← HX.out, ← HGG.out]
          go_wp2_with fail
          refine DO.out.mono ?_
          rintro e w5 ⟨rfl, vm2, M5, bt⟩
          obtain ⟨AM5, cM5, rfl⟩ := M5.shape
          have k35 := bt.bk k3 (fun e => by have := HLOW.out _ e; omega)
          have B6 := B5.trans (bt.below (B := w.heap.size) (by have := B5.size; omega) (fun x hx => by have := HLOW.out x hx; omega))
          have hMn : M2.cs.length = m.cs.length := G2.shp.1
          have x0 := (M5.box.cell 0).trans (rfl : _ = some (Value.slice (some ⟨gv, 0, none⟩) M2.cs.length dc))
          have x1 := (M5.box.cell 1).trans (rfl : _ = some (Value.slice AM5 M2.mem.length cM5))
          have z0 := (k35.cell 0).trans (rfl : _ = some (Value.int .i64 0))
          have z1' := (k35.cell 1).trans (rfl : _ = some (Value.slice none 0 0))
          have z2 := (k35.cell 2).trans (rfl : _ = some (Value.slice none 0 0))
          have z3' := (k35.cell 3).trans (rfl : _ = some (Value.int .i64 0))
          have f0 := k35.frozen 0
          have f1 := k35.frozen 1
          have f2 := k35.frozen 2
          have f3 := k35.frozen 3
          have HOM := hide M5.own
          have HK := hide k35
          clear M5 bt DO hMn k35
          go_wp2
          refine bodyPost_ret (v := mrV 0 (some ⟨gv, 0, none⟩) M2.cs.length dc AM5 M2.mem.length cM5 v2) (by simp [results, Try.results16, go_sem, z0, z1', z2, z3']) rfl ?_
          refine ⟨some ⟨gv, 0, none⟩, dc, AM5, cM5, us, rfl, ?_, HBAD.out _ HK.out B6 _ _ _ _⟩
          refine OwnMac.mono (base := w3.heap.size) ?_ (by omega)
          exact (((HOM.out.set_ (by omega) _).set_ (by omega) _).set_ (by omega) _).set_ (by omega) _
        · have hd : decide (m.mem.length ≤ 30) = false := decide_eq_false hl
          have hC2 := doC_l hm hcr ho hl
          have e0 := HC.out
          have hne : ¬ doC m core o = 0 := by rw [hC2]; first | assumption | decide
          rw [doR_no hne, hC2] at e0
          simp only [Prod.mk.injEq] at e0
          obtain ⟨rfl, rfl, rfl⟩ := e0
          have z0 := (k3.cell 0).trans (rfl : _ = some (Value.int .i64 0))
          have z1' := (k3.cell 1).trans (rfl : _ = some (Value.slice none 0 0))
          have z2 := (k3.cell 2).trans (rfl : _ = some (Value.slice none 0 0))
          have z3' := (k3.cell 3).trans (rfl : _ = some (Value.int .i64 0))
          have f0 := k3.frozen 0
          have f1 := k3.frozen 1
          have f2 := k3.frozen 2
          have f3 := k3.frozen 3
          have HBB := hide (HBAD.out _ k3 B3)
          clear HC hC2 hne
          go_wp2
          refine bodyPost_ret (v := mrV (2) none 0 0 none 0 0 0) (by simp [results, Try.results16, go_sem, z0, z1', z2, z3']) rfl ?_
          first
            | exact ⟨none, 0, none, 0, [], rfl, OwnMac.nil_ _ _, HBB.out _ _ _ _⟩
            | exact ⟨none, 0, none, 0, rfl, ⟨[], OwnMac.nil_ _ _⟩, HBB.out _ _ _ _⟩
      · have g0 : (opF ⟨o.k, o.a, o.v⟩ != 0) = true := bne_iff_ne.2 ho
        have g1 : (opF ⟨o.k, o.a, o.v⟩ == 0) = false := beq_eq_false_iff_ne.2 ho
        have hC2 := doC_o hm hcr ho
        have e0 := HC.out
        have hne : ¬ doC m core o = 0 := by rw [hC2]; first | assumption | decide
        rw [doR_no hne, hC2] at e0
        simp only [Prod.mk.injEq] at e0
        obtain ⟨rfl, rfl, rfl⟩ := e0
        have z0 := (k3.cell 0).trans (rfl : _ = some (Value.int .i64 0))
        have z1' := (k3.cell 1).trans (rfl : _ = some (Value.slice none 0 0))
        have z2 := (k3.cell 2).trans (rfl : _ = some (Value.slice none 0 0))
        have z3' := (k3.cell 3).trans (rfl : _ = some (Value.int .i64 0))
        have f0 := k3.frozen 0
        have f1 := k3.frozen 1
        have f2 := k3.frozen 2
        have f3 := k3.frozen 3
        have HBB := hide (HBAD.out _ k3 B3)
        clear HC hC2 hne
        go_wp2
        refine bodyPost_ret (v := mrV (opF ⟨o.k, o.a, o.v⟩) none 0 0 none 0 0 0) (by simp [results, Try.results16, go_sem, z0, z1', z2, z3']) rfl ?_
        first
          | exact ⟨none, 0, none, 0, [], rfl, OwnMac.nil_ _ _, HBB.out _ _ _ _⟩
          | exact ⟨none, 0, none, 0, rfl, ⟨[], OwnMac.nil_ _ _⟩, HBB.out _ _ _ _⟩
    · have LI := hide (fun V => l1In_no core 0 ((m.cs.length : Int) - 1) V (by omega))
      have hC2 := doC_c hm hcr (o := o)
      go_wp2_with fail
      refine (LI.out _).mono ?_
      rintro e w2 ⟨rfl, rfl⟩
      have e0 := HC.out
      have hne : ¬ doC m core o = 0 := by rw [hC2]; first | assumption | decide
      rw [doR_no hne, hC2] at e0
      simp only [Prod.mk.injEq] at e0
      obtain ⟨rfl, rfl, rfl⟩ := e0
      have z0 := (k3.cell 0).trans (rfl : _ = some (Value.int .i64 0))
      have z1' := (k3.cell 1).trans (rfl : _ = some (Value.slice none 0 0))
      have z2 := (k3.cell 2).trans (rfl : _ = some (Value.slice none 0 0))
      have z3' := (k3.cell 3).trans (rfl : _ = some (Value.int .i64 0))
      have f0 := k3.frozen 0
      have f1 := k3.frozen 1
      have f2 := k3.frozen 2
      have f3 := k3.frozen 3
      have HBB := hide (HBAD.out _ k3 B1)
      clear HC hC2 hne
      go_wp2
      refine bodyPost_ret (v := mrV (3) none 0 0 none 0 0 0) (by simp [results, Try.results16, go_sem, z0, z1', z2, z3']) rfl ?_
      first
        | exact ⟨none, 0, none, 0, [], rfl, OwnMac.nil_ _ _, HBB.out _ _ _ _⟩
        | exact ⟨none, 0, none, 0, rfl, ⟨[], OwnMac.nil_ _ _⟩, HBB.out _ _ _ _⟩
  · have g0 : (macF m != 0) = true := bne_iff_ne.2 hm
    have g1 : (macF m == 0) = false := beq_eq_false_iff_ne.2 hm
    have hC2 := doC_m hm (core := core) (o := o)
    have e0 := HC.out
    have hne : ¬ doC m core o = 0 := by rw [hC2]; first | assumption | decide
    rw [doR_no hne, hC2] at e0
    simp only [Prod.mk.injEq] at e0
    obtain ⟨rfl, rfl, rfl⟩ := e0
    have z0 := (k3.cell 0).trans (rfl : _ = some (Value.int .i64 0))
    have z1' := (k3.cell 1).trans (rfl : _ = some (Value.slice none 0 0))
    have z2 := (k3.cell 2).trans (rfl : _ = some (Value.slice none 0 0))
    have z3' := (k3.cell 3).trans (rfl : _ = some (Value.int .i64 0))
    have f0 := k3.frozen 0
    have f1 := k3.frozen 1
    have f2 := k3.frozen 2
    have f3 := k3.frozen 3
    have HBB := hide (HBAD.out _ k3 B1)
    clear HC hC2 hne
    go_wp2
    refine bodyPost_ret (v := mrV (macF m) none 0 0 none 0 0 0) (by simp [results, Try.results16, go_sem, z0, z1', z2, z3']) rfl ?_
    first
      | exact ⟨none, 0, none, 0, [], rfl, OwnMac.nil_ _ _, HBB.out _ _ _ _⟩
      | exact ⟨none, 0, none, 0, rfl, ⟨[], OwnMac.nil_ _ _⟩, HBB.out _ _ _ _⟩
end Go.Proofs.Ytifijhfeeammkaa
