/- The walk of the exact law of DoOp. -/
import Derived.Test.YtifijhfeeammkaaLNew
import Derived.Test.YtifijhfeeammkaaGDo
import Derived.Test.YtifijhfeeammkaaGMac
import Derived.Test.YtifijhfeeammkaaGMcs
import Derived.Test.YtifijhfeeammkaaGOp
import Derived.Deep.RegionHeld3
import Derived.Deep.DeepCutAuto
namespace Go.Proofs.Ytifijhfeeammkaa
open Go.RowKit

theorem OwnMac.boundAll {w : World} {base : Nat} {v v' : Value} {m : Mac} {us : List Value} (h : OwnMac w base v v' m us) : ∀ u ∈ v :: v' :: us, ∀ b, u.ownBlock = some b → base ≤ b ∧ b < w.heap.size := fun u hu b hb => by
  rcases List.mem_cons.1 hu with rfl | hu
  · exact h.cs.row.lt b hb
  · exact h.bound u hu b hb
theorem OwnMac.but {w w' : World} {base : Nat} {v v' : Value} {m : Mac} {us : List Value} {S : Nat → Prop} (h : OwnMac w base v v' m us) (hb : But S w w') (hs : ∀ u ∈ v :: v' :: us, ∀ b, u.ownBlock = some b → ¬ S b) : OwnMac w' base v v' m us :=
  ⟨⟨hb.own h.cs.row (hs v (by simp)), fun i hi => by
    obtain ⟨u, h1, h2, h3⟩ := h.cs.rows i hi
    exact ⟨u, h1, hb.own h2 (hs u (by simp [List.mem_of_getElem? h1])), h3⟩, h.cs.apart⟩, hb.own h.mem (hs v' (by simp)), h.far⟩
theorem keepA {W V V' : World} {b1 b2 i1 i2 i3 i4 i5 : Nat} {x1 x2 x3 x4 x5 : Value} {B : Nat} (hb : Below B V V') (h : V.cell? ⟨b1, i1, none⟩ = some x1 ∧ V.cell? ⟨b1, i2, none⟩ = some x2 ∧ V.cell? ⟨b2, i3, none⟩ = some x3 ∧ V.cell? ⟨b2, i4, none⟩ = some x4 ∧ V.cell? ⟨b2, i5, none⟩ = some x5 ∧ Below B W V) (h1 : b1 < B := by omega) (h2 : b2 < B := by omega) :
    V'.cell? ⟨b1, i1, none⟩ = some x1 ∧ V'.cell? ⟨b1, i2, none⟩ = some x2 ∧ V'.cell? ⟨b2, i3, none⟩ = some x3 ∧ V'.cell? ⟨b2, i4, none⟩ = some x4 ∧ V'.cell? ⟨b2, i5, none⟩ = some x5 ∧ Below B W V' :=
  ⟨(hb.cell (p := ⟨b1, i1, none⟩) h1).trans h.1, (hb.cell (p := ⟨b1, i2, none⟩) h1).trans h.2.1, (hb.cell (p := ⟨b2, i3, none⟩) h2).trans h.2.2.1, (hb.cell (p := ⟨b2, i4, none⟩) h2).trans h.2.2.2.1, (hb.cell (p := ⟨b2, i5, none⟩) h2).trans h.2.2.2.2.1, h.2.2.2.2.2.trans hb⟩
theorem doR_few (m : Mac) (core : Int) (o : Ev) : (doR m core o).2.1.cs.length ≤ 4 ∧ (doR m core o).2.1.mem.length ≤ 40 ∧ sumT (doR m core o).2.1.cs ≤ 16 := by
  by_cases h : doC m core o = 0
  · rw [doR_ok h]
    obtain ⟨h1, h2, h3, h4⟩ := doC_zero h
    obtain ⟨G, _⟩ := macF_zero h1
    have hd := do_ok G (c := core.toNat) (by omega) h3
    have hl := hd.len
    refine ⟨?_, by simp only; omega, good_sum hd.good⟩
    have := hd.good.nL.2.1
    have := hd.good.shp.1
    simp only
    omega
  · rw [doR_no h]
    simp [sumT]

set_option maxRecDepth 100000 in
set_option maxHeartbeats 3200000 in
theorem FnExactDoOp_walk (m : Mac) (A A' : Option Addr) (c c' : Nat) (core : Int) (o : Ev) (w : World) (hc : m.cs.length ≤ maxLen) (hm : m.mem.length ≤ maxLen) (h : RdMac w w.heap.size A A' m) (hcr : -9223372036854775808 ≤ core ∧ core ≤ 9223372036854775807) :
    Calls Try.prog 9 #[macV A m.cs.length c A' m.mem.length c', .int .i64 core, evV o.k o.a o.v] w fun e w' => e = .returned (.bool true) ∧ Below w.heap.size w w' := by
  obtain ⟨W, hW⟩ : ∃ W, W = (w.alloc (Obj.cells #[Value.slice A m.cs.length c, Value.slice A' m.mem.length c'] 73)).alloc (Obj.cells #[Value.int .i64 o.k, Value.int .i64 o.a, Value.int .i64 o.v] 62) := ⟨_, rfl⟩
  have HW := hide hW
  obtain ⟨K, O, hz, B⟩ := two_new _ _ _ _ _ W hW
  clear hW
  by_cases hS : sizM m ≤ 1048576
  · have HL := hide (mac_fit hS (Nat.le_refl _))
    have hendm : endMac 1 m ≤ 1073741824 := by unfold sizM at hS; unfold endMac endT; omega
    have htm : m.cs.length ≤ 1048576 := by unfold sizM at hS; omega
    have SP := hide (fun A A' c c' w => specDo_any m core o A A' c c' w hc hm)
    have IM := hide (fun A A' c c' w => implDo_any m core o A A' c c' w hc hm hcr)
    unfold MrPost at SP IM
    have hf := doR_few m core o
    obtain ⟨a, ha⟩ : ∃ a, a = (doR m core o).1 := ⟨_, rfl⟩
    obtain ⟨m', hm2⟩ : ∃ m', m' = (doR m core o).2.1 := ⟨_, rfl⟩
    obtain ⟨v, hv⟩ : ∃ v, v = (doR m core o).2.2 := ⟨_, rfl⟩
    rw [← ha, ← hm2, ← hv] at SP IM
    rw [← hm2] at hf
    clear ha hm2 hv
    have h1 : m'.cs.length ≤ maxLen := by unfold maxLen; omega
    have h2 : m'.mem.length ≤ maxLen := by unfold maxLen; omega
    have ht : m'.cs.length ≤ 1048576 := by omega
    have hend : endMac 1 m' ≤ 1073741824 := by unfold endMac endT; omega
    clear hf
    have R := h.below B
    have zw := B.size
    have TO := hide (fun W (hW : RdMac W W.heap.size A A' m) => toMachine_own m A A' c c' W HL.out.1 HL.out.2 hW)
    have TP := hide (fun W => toOp_any o.k o.a o.v W)
    go_enter Try.func9, Try.ntmps9
    go_wp2_with fail
    rw [← HW.out]
    refine (szMachine_fit m A A' c c' 1048576 _ hS (Nat.le_refl _) (R.more (by omega))).mono ?_
    rintro e w1 ⟨rfl, b_1⟩
    have z_1 := Below.size b_1
    replace K := K.kept b_1
    replace O := O.kept b_1
    replace B := B.trans (b_1.mono B.size)
    replace R := R.below (b_1.mono (by omega))
    clear b_1
    have q0_0 := (K.cell 0).trans (rfl : _ = some (Value.slice A m.cs.length c))
    have q0_1 := (K.cell 1).trans (rfl : _ = some (Value.slice A' m.mem.length c'))
    have q1_0 := (O.cell 0).trans (rfl : _ = some (Value.int .i64 o.k))
    have q1_1 := (O.cell 1).trans (rfl : _ = some (Value.int .i64 o.a))
    have q1_2 := (O.cell 2).trans (rfl : _ = some (Value.int .i64 o.v))
    go_wp2_with fail
    go_cut [8] (fun s wx => ∃ (b_ : Nat) (A_ : Option Addr) (c_ : Nat) (Ap_ : Option Addr) (cp_ : Nat) (us_ : List Value), s = .pointer (some ⟨b_, 0, none⟩) ∧ w1.heap.size ≤ b_ ∧ Bk wx b_ #[.int .i64 a, .slice A_ m'.cs.length c_, .slice Ap_ m'.mem.length cp_, .int .i64 v] 33 ∧ OwnMac wx w1.heap.size (.slice A_ m'.cs.length c_) (.slice Ap_ m'.mem.length cp_) m' us_ ∧ (∀ u ∈ (.slice A_ m'.cs.length c_ :: .slice Ap_ m'.mem.length cp_ :: us_ : List Value), u.ownBlock ≠ some b_) ∧ Below w1.heap.size w1 wx)
    case first =>
      refine wp_region_F 99 (fun w' => w'.cell? ⟨w.heap.size, 0, none⟩ = some (Value.slice A m.cs.length c) ∧ w'.cell? ⟨w.heap.size, 1, none⟩ = some (Value.slice A' m.mem.length c') ∧ w'.cell? ⟨w.heap.size + 1, 0, none⟩ = some (Value.int .i64 o.k) ∧ w'.cell? ⟨w.heap.size + 1, 1, none⟩ = some (Value.int .i64 o.a) ∧ w'.cell? ⟨w.heap.size + 1, 2, none⟩ = some (Value.int .i64 o.v) ∧ Below w1.heap.size w1 w') (fun w' => True) (by kernel_rfl) ⟨⟨q0_0, q0_1, q1_0, q1_1, q1_2, (Below.refl _ _).drew⟩, trivial⟩ (fun hHeld => ?_)
      try simp only [Act.put, List.setIfInBounds_toArray, List.set_cons_zero, List.set_cons_succ]
      clear q0_0 q0_1 q1_0 q1_1 q1_2
      have bV := hHeld.1.2.2.2.2.2
      generalize w1.drew = V at *
      skip
      refine wpAnyF_keep (i := 0) (v := ?_) (by (simp only [List.getElem?_toArray, List.getElem?_cons_zero]; rfl)) (by kernel_rfl) (by kernel_rfl) (by kernel_rfl) (by decide) (by exact fun _ _ _ h => h) ⟨hHeld.1, .inr trivial⟩ (Or.inl ⟨by rfl, ?_⟩) ?_
      rotate_left
      · (intro w' hSw; (try dsimp only at hSw); obtain ⟨hSa0, hSa1, hSa2, hSa3, hSa4, hSa5⟩ := hSw; go_simp <;> with_reducible rfl)
      try simp only [Act.put, List.setIfInBounds_toArray, List.set_cons_zero, List.set_cons_succ]
      refine wpAnyF_take (i := 2) (v := ?_) (by (simp only [List.getElem?_toArray, List.getElem?_cons_succ, List.getElem?_cons_zero]; rfl)) (by kernel_rfl) (by kernel_rfl) (by kernel_rfl) (by decide) (by exact fun _ _ _ h => h) ⟨hHeld.1, .inr trivial⟩ (Or.inl ⟨by rfl, ?_⟩) ?_
      rotate_left
      · (intro w' _; go_simp <;> with_reducible rfl)
      try simp only [Act.put, List.setIfInBounds_toArray, List.set_cons_zero, List.set_cons_succ]
      refine wpAnyF_keep (i := 3) (v := ?_) (by (simp only [List.getElem?_toArray, List.getElem?_cons_succ, List.getElem?_cons_zero]; rfl)) (by kernel_rfl) (by kernel_rfl) (by kernel_rfl) (by decide) (by exact fun _ _ _ h => h) ⟨hHeld.1, .inr trivial⟩ (Or.inl ⟨by rfl, ?_⟩) ?_
      rotate_left
      · (intro w' hSw; (try dsimp only at hSw); obtain ⟨hSa0, hSa1, hSa2, hSa3, hSa4, hSa5⟩ := hSw; go_simp <;> with_reducible rfl)
      try simp only [Act.put, List.setIfInBounds_toArray, List.set_cons_zero, List.set_cons_succ]
      refine wpAnyF_ready (rs := [1, 6]) (by kernel_rfl) (by simp) ?_
      refine AllReadyF.cons (by (simp only [List.getElem?_toArray, List.getElem?_cons_succ, List.getElem?_cons_zero]; rfl)) (fun K hK => ?_) ?_
      · go_simp
        go_at_call 45
        refine (TO.out _ ((R.below (bV.mono (by omega))).more (by have := bV.size; omega))).mono ?_
        rintro e V1 ⟨gM, gMp, usM, rfl, oM, bM⟩
        have xM := oM.rd
        clear oM
        have bS : Below w1.heap.size V V1 := bM.mono bV.size
        replace bV := bV.trans bS
        have hA := keepA bS hHeld.1
        refine hK.out _ _ ⟨hA, trivial⟩ (fun hNew => ?_)
        clear hK K hHeld bS bM hA
        have hHeld := hNew
        clear hNew
        try simp only [Act.put, List.setIfInBounds_toArray, List.set_cons_zero, List.set_cons_succ]
        refine wpAnyF_ready (rs := [4, 6]) (by kernel_rfl) (by simp) ?_
        refine AllReadyF.cons (by (simp only [List.getElem?_toArray, List.getElem?_cons_succ, List.getElem?_cons_zero]; rfl)) (fun K hK => ?_) ?_
        · go_simp
          go_at_call 40
          refine (TP.out _).mono ?_
          rintro e V2 ⟨rfl, bM⟩
          replace xM := (xM.below bM).lt
          have bS : Below w1.heap.size V1 V2 := bM.mono bV.size
          replace bV := bV.trans bS
          have hA := keepA bS hHeld.1
          refine hK.out _ _ ⟨hA, trivial⟩ (fun hNew => ?_)
          clear hK K hHeld bS bM hA
          have hHeld := hNew
          clear hNew
          try simp only [Act.put, List.setIfInBounds_toArray, List.set_cons_zero, List.set_cons_succ]
          refine wpAnyF_ready (rs := [5, 6]) (by kernel_rfl) (by simp) ?_
          refine AllReadyF.cons (by (simp only [List.getElem?_toArray, List.getElem?_cons_succ, List.getElem?_cons_zero]; rfl)) (fun K hK => ?_) ?_
          · go_simp
            go_at_call 16
            refine (SP.out _ _ _ _ _ xM).mono ?_
            rintro e V3 ⟨AD, cD, ApD, cpD, usD, rfl, oD, bM⟩
            replace oD := oD.mono (b' := w1.heap.size) bV.size
            replace xM := (xM.below bM).lt
            have bS : Below w1.heap.size V2 V3 := bM.mono bV.size
            replace bV := bV.trans bS
            have hA := keepA bS hHeld.1
            refine hK.out _ _ ⟨hA, trivial⟩ (fun hNew => ?_)
            clear hK K hHeld bS bM hA
            have hHeld := hNew
            clear hNew
            try simp only [Act.put, List.setIfInBounds_toArray, List.set_cons_zero, List.set_cons_succ]
            refine wpAnyF_ready (rs := [6]) (by kernel_rfl) (by simp) ?_
            refine AllReadyF.cons (by (simp only [List.getElem?_toArray, List.getElem?_cons_succ, List.getElem?_cons_zero]; rfl)) (fun K hK => ?_) AllReadyF.nil
            go_simp
            have bS : Below w1.heap.size V3 (V3.alloc (Obj.cells #[.int .i64 0, .slice none 0 0, .slice none 0 0, .int .i64 0] 33)) := (Below.refl _ _).alloc (by have := bV.size; omega) _
            have bS2 : Below V3.heap.size V3 (V3.alloc (Obj.cells #[.int .i64 0, .slice none 0 0, .slice none 0 0, .int .i64 0] 33)) := (Below.refl _ _).alloc (Nat.le_refl _) _
            have kA := Bk.new V3 #[.int .i64 0, .slice none 0 0, .slice none 0 0, .int .i64 0] 33
            have hbA : w1.heap.size ≤ V3.heap.size := bV.size
            replace bV := bV.trans bS
            have hA := keepA bS hHeld.1
            replace xM := (xM.below bS2).lt
            have apD : ∀ u ∈ (.slice AD m'.cs.length cD :: .slice ApD m'.mem.length cpD :: usD : List Value), u.ownBlock ≠ some V3.heap.size := fun u hu e => by have := (oD.boundAll u hu _ e).2; omega
            replace oD := oD.below bS2
            refine hK.out _ _ ⟨hA, trivial⟩ (fun hNew => ?_)
            clear hK K hHeld bS bS2 hA
            have hHeld := hNew
            clear hNew
            try simp only [Act.put, List.setIfInBounds_toArray, List.set_cons_zero, List.set_cons_succ]
            obtain ⟨bA, hbAe⟩ : ∃ bA, bA = V3.heap.size := ⟨_, rfl⟩
            obtain ⟨V4, hV4⟩ : ∃ V', V' = V3.alloc (Obj.cells #[.int .i64 0, .slice none 0 0, .slice none 0 0, .int .i64 0] 33) := ⟨_, rfl⟩
            rw [← hbAe] at hbA kA apD ⊢
            rw [← hV4] at kA bV hHeld xM oD ⊢
            clear hV4 hbAe
            refine wpAnyF_ready (rs := [7]) (by kernel_rfl) (by simp) ?_
            refine AllReadyF.cons (by (simp only [List.getElem?_toArray, List.getElem?_cons_succ, List.getElem?_cons_zero]; rfl)) (fun K hK => ?_) AllReadyF.nil
            have z0 := (kA.cell 0).trans (rfl : _ = some (Value.int .i64 0))
            have z1 := (kA.cell 1).trans (rfl : _ = some (Value.slice none 0 0))
            have z2 := (kA.cell 2).trans (rfl : _ = some (Value.slice none 0 0))
            have z3 := (kA.cell 3).trans (rfl : _ = some (Value.int .i64 0))
            have f0 := kA.frozen 0
            have f1 := kA.frozen 1
            have f2 := kA.frozen 2
            have f3 := kA.frozen 3
            go_simp
            clear z0 z1 z2 z3 f0 f1 f2 f3
            replace kA := (((kA.set_ 0 (.int .i64 a)).set_ 1 (.slice AD m'.cs.length cD)).set_ 2 (.slice ApD m'.mem.length cpD)).set_ 3 (.int .i64 v)
            simp only [List.setIfInBounds_toArray, List.set_cons_zero, List.set_cons_succ] at kA
            have gB : But (fun x => x = bA) V4 ((((V4.setCell ⟨bA, 0, none⟩ (.int .i64 a)).setCell ⟨bA, 1, none⟩ (.slice AD m'.cs.length cD)).setCell ⟨bA, 2, none⟩ (.slice ApD m'.mem.length cpD)).setCell ⟨bA, 3, none⟩ (.int .i64 v)) := ((((But.refl (fun x => x = bA) V4).set_ rfl 0 _).set_ rfl 1 _).set_ rfl 2 _).set_ rfl 3 _
            replace oD := oD.but gB (fun u hu b e1 e2 => apD u hu (by rw [e1, e2]))
            have bS : Below w1.heap.size V4 _ := gB.below (by have := bV.size; omega) (fun x e1 => by omega)
            replace bV := bV.trans bS
            have hA := keepA bS hHeld.1
            refine hK.out _ _ ⟨hA, trivial⟩ (fun hNew => ?_)
            clear hK K hHeld gB bS hA
            have hHeld := hNew
            clear hNew
            try simp only [Act.put, List.setIfInBounds_toArray, List.set_cons_zero, List.set_cons_succ]
            refine wpAnyF_done (by kernel_rfl) ?_ _
            go_wp2_with fail
            go_meet
            exact ⟨_, _, _, _, _, _, rfl, hbA, kA, oD, apD, bV⟩
          refine AllReadyF.cons (by (simp only [List.getElem?_toArray, List.getElem?_cons_succ, List.getElem?_cons_zero]; rfl)) (fun K hK => ?_) AllReadyF.nil
          go_simp
          have bS : Below w1.heap.size V2 (V2.alloc (Obj.cells #[.int .i64 0, .slice none 0 0, .slice none 0 0, .int .i64 0] 33)) := (Below.refl _ _).alloc (by have := bV.size; omega) _
          have bS2 : Below V2.heap.size V2 (V2.alloc (Obj.cells #[.int .i64 0, .slice none 0 0, .slice none 0 0, .int .i64 0] 33)) := (Below.refl _ _).alloc (Nat.le_refl _) _
          have kA := Bk.new V2 #[.int .i64 0, .slice none 0 0, .slice none 0 0, .int .i64 0] 33
          have hbA : w1.heap.size ≤ V2.heap.size := bV.size
          replace bV := bV.trans bS
          have hA := keepA bS hHeld.1
          replace xM := (xM.below bS2).lt
          refine hK.out _ _ ⟨hA, trivial⟩ (fun hNew => ?_)
          clear hK K hHeld bS bS2 hA
          have hHeld := hNew
          clear hNew
          try simp only [Act.put, List.setIfInBounds_toArray, List.set_cons_zero, List.set_cons_succ]
          obtain ⟨bA, hbAe⟩ : ∃ bA, bA = V2.heap.size := ⟨_, rfl⟩
          obtain ⟨V3, hV3⟩ : ∃ V', V' = V2.alloc (Obj.cells #[.int .i64 0, .slice none 0 0, .slice none 0 0, .int .i64 0] 33) := ⟨_, rfl⟩
          rw [← hbAe] at hbA kA ⊢
          rw [← hV3] at kA bV hHeld xM ⊢
          clear hV3 hbAe
          refine wpAnyF_ready (rs := [5]) (by kernel_rfl) (by simp) ?_
          refine AllReadyF.cons (by (simp only [List.getElem?_toArray, List.getElem?_cons_succ, List.getElem?_cons_zero]; rfl)) (fun K hK => ?_) AllReadyF.nil
          go_simp
          go_at_call 16
          refine (SP.out _ _ _ _ _ xM).mono ?_
          rintro e V4 ⟨AD, cD, ApD, cpD, usD, rfl, oD, bM⟩
          have apD : ∀ u ∈ (.slice AD m'.cs.length cD :: .slice ApD m'.mem.length cpD :: usD : List Value), u.ownBlock ≠ some bA := fun u hu e => by have := (oD.boundAll u hu _ e).1; have := kA.lt; omega
          replace oD := oD.mono (b' := w1.heap.size) bV.size
          replace kA := kA.kept bM
          replace xM := (xM.below bM).lt
          have bS : Below w1.heap.size V3 V4 := bM.mono bV.size
          replace bV := bV.trans bS
          have hA := keepA bS hHeld.1
          refine hK.out _ _ ⟨hA, trivial⟩ (fun hNew => ?_)
          clear hK K hHeld bS bM hA
          have hHeld := hNew
          clear hNew
          try simp only [Act.put, List.setIfInBounds_toArray, List.set_cons_zero, List.set_cons_succ]
          refine wpAnyF_ready (rs := [7]) (by kernel_rfl) (by simp) ?_
          refine AllReadyF.cons (by (simp only [List.getElem?_toArray, List.getElem?_cons_succ, List.getElem?_cons_zero]; rfl)) (fun K hK => ?_) AllReadyF.nil
          have z0 := (kA.cell 0).trans (rfl : _ = some (Value.int .i64 0))
          have z1 := (kA.cell 1).trans (rfl : _ = some (Value.slice none 0 0))
          have z2 := (kA.cell 2).trans (rfl : _ = some (Value.slice none 0 0))
          have z3 := (kA.cell 3).trans (rfl : _ = some (Value.int .i64 0))
          have f0 := kA.frozen 0
          have f1 := kA.frozen 1
          have f2 := kA.frozen 2
          have f3 := kA.frozen 3
          go_simp
          clear z0 z1 z2 z3 f0 f1 f2 f3
          replace kA := (((kA.set_ 0 (.int .i64 a)).set_ 1 (.slice AD m'.cs.length cD)).set_ 2 (.slice ApD m'.mem.length cpD)).set_ 3 (.int .i64 v)
          simp only [List.setIfInBounds_toArray, List.set_cons_zero, List.set_cons_succ] at kA
          have gB : But (fun x => x = bA) V4 ((((V4.setCell ⟨bA, 0, none⟩ (.int .i64 a)).setCell ⟨bA, 1, none⟩ (.slice AD m'.cs.length cD)).setCell ⟨bA, 2, none⟩ (.slice ApD m'.mem.length cpD)).setCell ⟨bA, 3, none⟩ (.int .i64 v)) := ((((But.refl (fun x => x = bA) V4).set_ rfl 0 _).set_ rfl 1 _).set_ rfl 2 _).set_ rfl 3 _
          replace oD := oD.but gB (fun u hu b e1 e2 => apD u hu (by rw [e1, e2]))
          have bS : Below w1.heap.size V4 _ := gB.below (by have := bV.size; omega) (fun x e1 => by omega)
          replace bV := bV.trans bS
          have hA := keepA bS hHeld.1
          refine hK.out _ _ ⟨hA, trivial⟩ (fun hNew => ?_)
          clear hK K hHeld gB bS hA
          have hHeld := hNew
          clear hNew
          try simp only [Act.put, List.setIfInBounds_toArray, List.set_cons_zero, List.set_cons_succ]
          refine wpAnyF_done (by kernel_rfl) ?_ _
          go_wp2_with fail
          go_meet
          exact ⟨_, _, _, _, _, _, rfl, hbA, kA, oD, apD, bV⟩
        refine AllReadyF.cons (by (simp only [List.getElem?_toArray, List.getElem?_cons_succ, List.getElem?_cons_zero]; rfl)) (fun K hK => ?_) AllReadyF.nil
        go_simp
        have bS : Below w1.heap.size V1 (V1.alloc (Obj.cells #[.int .i64 0, .slice none 0 0, .slice none 0 0, .int .i64 0] 33)) := (Below.refl _ _).alloc (by have := bV.size; omega) _
        have bS2 : Below V1.heap.size V1 (V1.alloc (Obj.cells #[.int .i64 0, .slice none 0 0, .slice none 0 0, .int .i64 0] 33)) := (Below.refl _ _).alloc (Nat.le_refl _) _
        have kA := Bk.new V1 #[.int .i64 0, .slice none 0 0, .slice none 0 0, .int .i64 0] 33
        have hbA : w1.heap.size ≤ V1.heap.size := bV.size
        replace bV := bV.trans bS
        have hA := keepA bS hHeld.1
        replace xM := (xM.below bS2).lt
        refine hK.out _ _ ⟨hA, trivial⟩ (fun hNew => ?_)
        clear hK K hHeld bS bS2 hA
        have hHeld := hNew
        clear hNew
        try simp only [Act.put, List.setIfInBounds_toArray, List.set_cons_zero, List.set_cons_succ]
        obtain ⟨bA, hbAe⟩ : ∃ bA, bA = V1.heap.size := ⟨_, rfl⟩
        obtain ⟨V2, hV2⟩ : ∃ V', V' = V1.alloc (Obj.cells #[.int .i64 0, .slice none 0 0, .slice none 0 0, .int .i64 0] 33) := ⟨_, rfl⟩
        rw [← hbAe] at hbA kA ⊢
        rw [← hV2] at kA bV hHeld xM ⊢
        clear hV2 hbAe
        refine wpAnyF_ready (rs := [4]) (by kernel_rfl) (by simp) ?_
        refine AllReadyF.cons (by (simp only [List.getElem?_toArray, List.getElem?_cons_succ, List.getElem?_cons_zero]; rfl)) (fun K hK => ?_) AllReadyF.nil
        go_simp
        go_at_call 40
        refine (TP.out _).mono ?_
        rintro e V3 ⟨rfl, bM⟩
        replace kA := kA.kept bM
        replace xM := (xM.below bM).lt
        have bS : Below w1.heap.size V2 V3 := bM.mono bV.size
        replace bV := bV.trans bS
        have hA := keepA bS hHeld.1
        refine hK.out _ _ ⟨hA, trivial⟩ (fun hNew => ?_)
        clear hK K hHeld bS bM hA
        have hHeld := hNew
        clear hNew
        try simp only [Act.put, List.setIfInBounds_toArray, List.set_cons_zero, List.set_cons_succ]
        refine wpAnyF_ready (rs := [5]) (by kernel_rfl) (by simp) ?_
        refine AllReadyF.cons (by (simp only [List.getElem?_toArray, List.getElem?_cons_succ, List.getElem?_cons_zero]; rfl)) (fun K hK => ?_) AllReadyF.nil
        go_simp
        go_at_call 16
        refine (SP.out _ _ _ _ _ xM).mono ?_
        rintro e V4 ⟨AD, cD, ApD, cpD, usD, rfl, oD, bM⟩
        have apD : ∀ u ∈ (.slice AD m'.cs.length cD :: .slice ApD m'.mem.length cpD :: usD : List Value), u.ownBlock ≠ some bA := fun u hu e => by have := (oD.boundAll u hu _ e).1; have := kA.lt; omega
        replace oD := oD.mono (b' := w1.heap.size) bV.size
        replace kA := kA.kept bM
        replace xM := (xM.below bM).lt
        have bS : Below w1.heap.size V3 V4 := bM.mono bV.size
        replace bV := bV.trans bS
        have hA := keepA bS hHeld.1
        refine hK.out _ _ ⟨hA, trivial⟩ (fun hNew => ?_)
        clear hK K hHeld bS bM hA
        have hHeld := hNew
        clear hNew
        try simp only [Act.put, List.setIfInBounds_toArray, List.set_cons_zero, List.set_cons_succ]
        refine wpAnyF_ready (rs := [7]) (by kernel_rfl) (by simp) ?_
        refine AllReadyF.cons (by (simp only [List.getElem?_toArray, List.getElem?_cons_succ, List.getElem?_cons_zero]; rfl)) (fun K hK => ?_) AllReadyF.nil
        have z0 := (kA.cell 0).trans (rfl : _ = some (Value.int .i64 0))
        have z1 := (kA.cell 1).trans (rfl : _ = some (Value.slice none 0 0))
        have z2 := (kA.cell 2).trans (rfl : _ = some (Value.slice none 0 0))
        have z3 := (kA.cell 3).trans (rfl : _ = some (Value.int .i64 0))
        have f0 := kA.frozen 0
        have f1 := kA.frozen 1
        have f2 := kA.frozen 2
        have f3 := kA.frozen 3
        go_simp
        clear z0 z1 z2 z3 f0 f1 f2 f3
        replace kA := (((kA.set_ 0 (.int .i64 a)).set_ 1 (.slice AD m'.cs.length cD)).set_ 2 (.slice ApD m'.mem.length cpD)).set_ 3 (.int .i64 v)
        simp only [List.setIfInBounds_toArray, List.set_cons_zero, List.set_cons_succ] at kA
        have gB : But (fun x => x = bA) V4 ((((V4.setCell ⟨bA, 0, none⟩ (.int .i64 a)).setCell ⟨bA, 1, none⟩ (.slice AD m'.cs.length cD)).setCell ⟨bA, 2, none⟩ (.slice ApD m'.mem.length cpD)).setCell ⟨bA, 3, none⟩ (.int .i64 v)) := ((((But.refl (fun x => x = bA) V4).set_ rfl 0 _).set_ rfl 1 _).set_ rfl 2 _).set_ rfl 3 _
        replace oD := oD.but gB (fun u hu b e1 e2 => apD u hu (by rw [e1, e2]))
        have bS : Below w1.heap.size V4 _ := gB.below (by have := bV.size; omega) (fun x e1 => by omega)
        replace bV := bV.trans bS
        have hA := keepA bS hHeld.1
        refine hK.out _ _ ⟨hA, trivial⟩ (fun hNew => ?_)
        clear hK K hHeld gB bS hA
        have hHeld := hNew
        clear hNew
        try simp only [Act.put, List.setIfInBounds_toArray, List.set_cons_zero, List.set_cons_succ]
        refine wpAnyF_done (by kernel_rfl) ?_ _
        go_wp2_with fail
        go_meet
        exact ⟨_, _, _, _, _, _, rfl, hbA, kA, oD, apD, bV⟩
      refine AllReadyF.cons (by (simp only [List.getElem?_toArray, List.getElem?_cons_succ, List.getElem?_cons_zero]; rfl)) (fun K hK => ?_) AllReadyF.nil
      go_simp
      have bS : Below w1.heap.size V (V.alloc (Obj.cells #[.int .i64 0, .slice none 0 0, .slice none 0 0, .int .i64 0] 33)) := (Below.refl _ _).alloc (by have := bV.size; omega) _
      have bS2 : Below V.heap.size V (V.alloc (Obj.cells #[.int .i64 0, .slice none 0 0, .slice none 0 0, .int .i64 0] 33)) := (Below.refl _ _).alloc (Nat.le_refl _) _
      have kA := Bk.new V #[.int .i64 0, .slice none 0 0, .slice none 0 0, .int .i64 0] 33
      have hbA : w1.heap.size ≤ V.heap.size := bV.size
      replace bV := bV.trans bS
      have hA := keepA bS hHeld.1
      refine hK.out _ _ ⟨hA, trivial⟩ (fun hNew => ?_)
      clear hK K hHeld bS bS2 hA
      have hHeld := hNew
      clear hNew
      try simp only [Act.put, List.setIfInBounds_toArray, List.set_cons_zero, List.set_cons_succ]
      obtain ⟨bA, hbAe⟩ : ∃ bA, bA = V.heap.size := ⟨_, rfl⟩
      obtain ⟨V1, hV1⟩ : ∃ V', V' = V.alloc (Obj.cells #[.int .i64 0, .slice none 0 0, .slice none 0 0, .int .i64 0] 33) := ⟨_, rfl⟩
      rw [← hbAe] at hbA kA ⊢
      rw [← hV1] at kA bV hHeld ⊢
      clear hV1 hbAe
      refine wpAnyF_ready (rs := [1]) (by kernel_rfl) (by simp) ?_
      refine AllReadyF.cons (by (simp only [List.getElem?_toArray, List.getElem?_cons_succ, List.getElem?_cons_zero]; rfl)) (fun K hK => ?_) AllReadyF.nil
      go_simp
      go_at_call 45
      refine (TO.out _ ((R.below (bV.mono (by omega))).more (by have := bV.size; omega))).mono ?_
      rintro e V2 ⟨gM, gMp, usM, rfl, oM, bM⟩
      have xM := oM.rd
      clear oM
      replace kA := kA.kept bM
      have bS : Below w1.heap.size V1 V2 := bM.mono bV.size
      replace bV := bV.trans bS
      have hA := keepA bS hHeld.1
      refine hK.out _ _ ⟨hA, trivial⟩ (fun hNew => ?_)
      clear hK K hHeld bS bM hA
      have hHeld := hNew
      clear hNew
      try simp only [Act.put, List.setIfInBounds_toArray, List.set_cons_zero, List.set_cons_succ]
      refine wpAnyF_ready (rs := [4]) (by kernel_rfl) (by simp) ?_
      refine AllReadyF.cons (by (simp only [List.getElem?_toArray, List.getElem?_cons_succ, List.getElem?_cons_zero]; rfl)) (fun K hK => ?_) AllReadyF.nil
      go_simp
      go_at_call 40
      refine (TP.out _).mono ?_
      rintro e V3 ⟨rfl, bM⟩
      replace kA := kA.kept bM
      replace xM := (xM.below bM).lt
      have bS : Below w1.heap.size V2 V3 := bM.mono bV.size
      replace bV := bV.trans bS
      have hA := keepA bS hHeld.1
      refine hK.out _ _ ⟨hA, trivial⟩ (fun hNew => ?_)
      clear hK K hHeld bS bM hA
      have hHeld := hNew
      clear hNew
      try simp only [Act.put, List.setIfInBounds_toArray, List.set_cons_zero, List.set_cons_succ]
      refine wpAnyF_ready (rs := [5]) (by kernel_rfl) (by simp) ?_
      refine AllReadyF.cons (by (simp only [List.getElem?_toArray, List.getElem?_cons_succ, List.getElem?_cons_zero]; rfl)) (fun K hK => ?_) AllReadyF.nil
      go_simp
      go_at_call 16
      refine (SP.out _ _ _ _ _ xM).mono ?_
      rintro e V4 ⟨AD, cD, ApD, cpD, usD, rfl, oD, bM⟩
      have apD : ∀ u ∈ (.slice AD m'.cs.length cD :: .slice ApD m'.mem.length cpD :: usD : List Value), u.ownBlock ≠ some bA := fun u hu e => by have := (oD.boundAll u hu _ e).1; have := kA.lt; omega
      replace oD := oD.mono (b' := w1.heap.size) bV.size
      replace kA := kA.kept bM
      replace xM := (xM.below bM).lt
      have bS : Below w1.heap.size V3 V4 := bM.mono bV.size
      replace bV := bV.trans bS
      have hA := keepA bS hHeld.1
      refine hK.out _ _ ⟨hA, trivial⟩ (fun hNew => ?_)
      clear hK K hHeld bS bM hA
      have hHeld := hNew
      clear hNew
      try simp only [Act.put, List.setIfInBounds_toArray, List.set_cons_zero, List.set_cons_succ]
      refine wpAnyF_ready (rs := [7]) (by kernel_rfl) (by simp) ?_
      refine AllReadyF.cons (by (simp only [List.getElem?_toArray, List.getElem?_cons_succ, List.getElem?_cons_zero]; rfl)) (fun K hK => ?_) AllReadyF.nil
      have z0 := (kA.cell 0).trans (rfl : _ = some (Value.int .i64 0))
      have z1 := (kA.cell 1).trans (rfl : _ = some (Value.slice none 0 0))
      have z2 := (kA.cell 2).trans (rfl : _ = some (Value.slice none 0 0))
      have z3 := (kA.cell 3).trans (rfl : _ = some (Value.int .i64 0))
      have f0 := kA.frozen 0
      have f1 := kA.frozen 1
      have f2 := kA.frozen 2
      have f3 := kA.frozen 3
      go_simp
      clear z0 z1 z2 z3 f0 f1 f2 f3
      replace kA := (((kA.set_ 0 (.int .i64 a)).set_ 1 (.slice AD m'.cs.length cD)).set_ 2 (.slice ApD m'.mem.length cpD)).set_ 3 (.int .i64 v)
      simp only [List.setIfInBounds_toArray, List.set_cons_zero, List.set_cons_succ] at kA
      have gB : But (fun x => x = bA) V4 ((((V4.setCell ⟨bA, 0, none⟩ (.int .i64 a)).setCell ⟨bA, 1, none⟩ (.slice AD m'.cs.length cD)).setCell ⟨bA, 2, none⟩ (.slice ApD m'.mem.length cpD)).setCell ⟨bA, 3, none⟩ (.int .i64 v)) := ((((But.refl (fun x => x = bA) V4).set_ rfl 0 _).set_ rfl 1 _).set_ rfl 2 _).set_ rfl 3 _
      replace oD := oD.but gB (fun u hu b e1 e2 => apD u hu (by rw [e1, e2]))
      have bS : Below w1.heap.size V4 _ := gB.below (by have := bV.size; omega) (fun x e1 => by omega)
      replace bV := bV.trans bS
      have hA := keepA bS hHeld.1
      refine hK.out _ _ ⟨hA, trivial⟩ (fun hNew => ?_)
      clear hK K hHeld gB bS hA
      have hHeld := hNew
      clear hNew
      try simp only [Act.put, List.setIfInBounds_toArray, List.set_cons_zero, List.set_cons_succ]
      refine wpAnyF_done (by kernel_rfl) ?_ _
      go_wp2_with fail
      go_meet
      exact ⟨_, _, _, _, _, _, rfl, hbA, kA, oD, apD, bV⟩
    case rest =>
      obtain ⟨b0, A0, c0, A0p, c0p, us0, rfl, hb0, k0, o0, ap0, C_⟩ := hcut
      clear q0_0 q0_1 q1_0 q1_1 q1_2
      have z_2 := Below.size C_
      replace K := K.kept C_
      replace O := O.kept C_
      replace B := B.trans (C_.mono B.size)
      replace R := R.below (C_.mono (by omega))
      clear C_
      have r0 := o0.rd
      clear o0 ap0
      obtain ⟨B3, hB3⟩ : ∃ B3, B3 = wc.heap.size := ⟨_, rfl⟩
      have k0lt := k0.lt
      rw [← hB3] at r0 k0lt
      have zB3 : w.heap.size + 1 < B3 := by have := O.lt; omega
      have q0_0 := (K.cell 0).trans (rfl : _ = some (Value.slice A m.cs.length c))
      have q0_1 := (K.cell 1).trans (rfl : _ = some (Value.slice A' m.mem.length c'))
      go_wp2_with fail
      refine (TO.out _ (R.more (by omega))).mono ?_
      rintro e w3 ⟨g3, g3p, us3, rfl, o3, b_3⟩
      clear q0_0 q0_1
      have z_3 := Below.size b_3
      replace K := K.kept b_3
      replace O := O.kept b_3
      replace B := B.trans (b_3.mono B.size)
      replace R := R.below (b_3.mono (by omega))
      replace k0 := k0.kept b_3
      replace r0 := r0.below (b_3.mono (by omega))
      clear b_3
      have x3 := o3.rd
      have hb3 := o3.boundAll
      rw [← hB3] at hb3
      have e_ := (Below.refl w3.heap.size w3).alloc (Nat.le_refl _) (Obj.cells #[Value.slice (some ⟨g3, 0, none⟩) m.cs.length m.cs.length, Value.slice (some ⟨g3p, 0, none⟩) m.mem.length m.mem.length] 27)
      have zz_3 : (w3.alloc (Obj.cells #[Value.slice (some ⟨g3, 0, none⟩) m.cs.length m.cs.length, Value.slice (some ⟨g3p, 0, none⟩) m.mem.length m.mem.length] 27)).heap.size = w3.heap.size + 1 := by simp
      have z_4 := Below.size e_
      replace K := K.kept e_
      replace O := O.kept e_
      replace B := B.trans (e_.mono B.size)
      replace R := R.below (e_.mono (by omega))
      replace k0 := k0.kept e_
      replace r0 := r0.below (e_.mono (by omega))
      replace x3 := (x3.below e_).lt
      replace o3 := o3.below e_
      clear e_
      have X := Bk.new w3 #[Value.slice (some ⟨g3, 0, none⟩) m.cs.length m.cs.length, Value.slice (some ⟨g3p, 0, none⟩) m.mem.length m.mem.length] 27
      obtain ⟨W3, hW3⟩ : ∃ W3, W3 = w3.alloc (Obj.cells #[Value.slice (some ⟨g3, 0, none⟩) m.cs.length m.cs.length, Value.slice (some ⟨g3p, 0, none⟩) m.mem.length m.mem.length] 27) := ⟨_, rfl⟩
      have HW3 := hide hW3
      have zW3 : W3.heap.size = w3.heap.size + 1 := by rw [hW3]; simp
      rw [← hW3] at K O B R k0 r0 x3 o3 X
      clear hW3
      skip
      have q0_0 := (X.cell 0).trans (rfl : _ = some (Value.slice (some ⟨g3, 0, none⟩) m.cs.length m.cs.length))
      have q0_1 := (X.cell 1).trans (rfl : _ = some (Value.slice (some ⟨g3p, 0, none⟩) m.mem.length m.mem.length))
      have q1_0 := (O.cell 0).trans (rfl : _ = some (Value.int .i64 o.k))
      have q1_1 := (O.cell 1).trans (rfl : _ = some (Value.int .i64 o.a))
      have q1_2 := (O.cell 2).trans (rfl : _ = some (Value.int .i64 o.v))
      go_wp2_with fail
      rw [← HW3.out]
      go_cut [10] (fun s wx => ∃ (b_ : Nat) (A_ : Option Addr) (c_ : Nat) (Ap_ : Option Addr) (cp_ : Nat) (us_ : List Value), s = .pointer (some ⟨b_, 0, none⟩) ∧ W3.heap.size ≤ b_ ∧ Bk wx b_ #[.int .i64 a, .slice A_ m'.cs.length c_, .slice Ap_ m'.mem.length cp_, .int .i64 v] 33 ∧ OwnMac wx W3.heap.size (.slice A_ m'.cs.length c_) (.slice Ap_ m'.mem.length cp_) m' us_ ∧ (∀ u ∈ (.slice A_ m'.cs.length c_ :: .slice Ap_ m'.mem.length cp_ :: us_ : List Value), u.ownBlock ≠ some b_) ∧ Below W3.heap.size W3 wx)
      case first =>
        refine wp_region_F 99 (fun w' => w'.cell? ⟨w3.heap.size, 0, none⟩ = some (Value.slice (some ⟨g3, 0, none⟩) m.cs.length m.cs.length) ∧ w'.cell? ⟨w3.heap.size, 1, none⟩ = some (Value.slice (some ⟨g3p, 0, none⟩) m.mem.length m.mem.length) ∧ w'.cell? ⟨w.heap.size + 1, 0, none⟩ = some (Value.int .i64 o.k) ∧ w'.cell? ⟨w.heap.size + 1, 1, none⟩ = some (Value.int .i64 o.a) ∧ w'.cell? ⟨w.heap.size + 1, 2, none⟩ = some (Value.int .i64 o.v) ∧ Below W3.heap.size W3 w') (fun w' => True) (by kernel_rfl) ⟨⟨q0_0, q0_1, q1_0, q1_1, q1_2, (Below.refl _ _).drew⟩, trivial⟩ (fun hHeld => ?_)
        try simp only [Act.put, List.setIfInBounds_toArray, List.set_cons_zero, List.set_cons_succ]
        clear q0_0 q0_1 q1_0 q1_1 q1_2
        have bV := hHeld.1.2.2.2.2.2
        generalize W3.drew = V at *
        skip
        refine wpAnyF_keep (i := 0) (v := ?_) (by (simp only [List.getElem?_toArray, List.getElem?_cons_zero]; rfl)) (by kernel_rfl) (by kernel_rfl) (by kernel_rfl) (by decide) (by exact fun _ _ _ h => h) ⟨hHeld.1, .inr trivial⟩ (Or.inl ⟨by rfl, ?_⟩) ?_
        rotate_left
        · (intro w' hSw; (try dsimp only at hSw); obtain ⟨hSa0, hSa1, hSa2, hSa3, hSa4, hSa5⟩ := hSw; go_simp <;> with_reducible rfl)
        try simp only [Act.put, List.setIfInBounds_toArray, List.set_cons_zero, List.set_cons_succ]
        refine wpAnyF_take (i := 1) (v := ?_) (by (simp only [List.getElem?_toArray, List.getElem?_cons_succ, List.getElem?_cons_zero]; rfl)) (by kernel_rfl) (by kernel_rfl) (by kernel_rfl) (by decide) (by exact fun _ _ _ h => h) ⟨hHeld.1, .inr trivial⟩ (Or.inl ⟨by rfl, ?_⟩) ?_
        rotate_left
        · (intro w' _; go_simp <;> with_reducible rfl)
        try simp only [Act.put, List.setIfInBounds_toArray, List.set_cons_zero, List.set_cons_succ]
        refine wpAnyF_keep (i := 2) (v := ?_) (by (simp only [List.getElem?_toArray, List.getElem?_cons_succ, List.getElem?_cons_zero]; rfl)) (by kernel_rfl) (by kernel_rfl) (by kernel_rfl) (by decide) (by exact fun _ _ _ h => h) ⟨hHeld.1, .inr trivial⟩ (Or.inl ⟨by rfl, ?_⟩) ?_
        rotate_left
        · (intro w' hSw; (try dsimp only at hSw); obtain ⟨hSa0, hSa1, hSa2, hSa3, hSa4, hSa5⟩ := hSw; go_simp <;> with_reducible rfl)
        try simp only [Act.put, List.setIfInBounds_toArray, List.set_cons_zero, List.set_cons_succ]
        refine wpAnyF_ready (rs := [3, 5]) (by kernel_rfl) (by simp) ?_
        refine AllReadyF.cons (by (simp only [List.getElem?_toArray, List.getElem?_cons_succ, List.getElem?_cons_zero]; rfl)) (fun K hK => ?_) ?_
        · go_simp
          go_at_call 40
          refine (TP.out _).mono ?_
          rintro e V1 ⟨rfl, bM⟩
          have bS : Below W3.heap.size V V1 := bM.mono bV.size
          replace bV := bV.trans bS
          have hA := keepA bS hHeld.1
          refine hK.out _ _ ⟨hA, trivial⟩ (fun hNew => ?_)
          clear hK K hHeld bS bM hA
          have hHeld := hNew
          clear hNew
          try simp only [Act.put, List.setIfInBounds_toArray, List.set_cons_zero, List.set_cons_succ]
          refine wpAnyF_ready (rs := [4, 5]) (by kernel_rfl) (by simp) ?_
          refine AllReadyF.cons (by (simp only [List.getElem?_toArray, List.getElem?_cons_succ, List.getElem?_cons_zero]; rfl)) (fun K hK => ?_) ?_
          · go_simp
            go_at_call 15
            refine (IM.out _ _ _ _ _ (x3.below bV).lt).mono ?_
            rintro e V2 ⟨AD, cD, ApD, cpD, usD, rfl, oD, bM⟩
            replace oD := oD.mono (b' := W3.heap.size) bV.size
            have bS : Below W3.heap.size V1 V2 := bM.mono bV.size
            replace bV := bV.trans bS
            have hA := keepA bS hHeld.1
            refine hK.out _ _ ⟨hA, trivial⟩ (fun hNew => ?_)
            clear hK K hHeld bS bM hA
            have hHeld := hNew
            clear hNew
            try simp only [Act.put, List.setIfInBounds_toArray, List.set_cons_zero, List.set_cons_succ]
            refine wpAnyF_ready (rs := [5]) (by kernel_rfl) (by simp) ?_
            refine AllReadyF.cons (by (simp only [List.getElem?_toArray, List.getElem?_cons_succ, List.getElem?_cons_zero]; rfl)) (fun K hK => ?_) AllReadyF.nil
            go_simp
            have bS : Below W3.heap.size V2 (V2.alloc (Obj.cells #[.int .i64 0, .slice none 0 0, .slice none 0 0, .int .i64 0] 33)) := (Below.refl _ _).alloc (by have := bV.size; omega) _
            have bS2 : Below V2.heap.size V2 (V2.alloc (Obj.cells #[.int .i64 0, .slice none 0 0, .slice none 0 0, .int .i64 0] 33)) := (Below.refl _ _).alloc (Nat.le_refl _) _
            have kA := Bk.new V2 #[.int .i64 0, .slice none 0 0, .slice none 0 0, .int .i64 0] 33
            have hbA : W3.heap.size ≤ V2.heap.size := bV.size
            replace bV := bV.trans bS
            have hA := keepA bS hHeld.1
            have apD : ∀ u ∈ (.slice AD m'.cs.length cD :: .slice ApD m'.mem.length cpD :: usD : List Value), u.ownBlock ≠ some V2.heap.size := fun u hu e => by have := (oD.boundAll u hu _ e).2; omega
            replace oD := oD.below bS2
            refine hK.out _ _ ⟨hA, trivial⟩ (fun hNew => ?_)
            clear hK K hHeld bS bS2 hA
            have hHeld := hNew
            clear hNew
            try simp only [Act.put, List.setIfInBounds_toArray, List.set_cons_zero, List.set_cons_succ]
            obtain ⟨bA, hbAe⟩ : ∃ bA, bA = V2.heap.size := ⟨_, rfl⟩
            obtain ⟨V3, hV3⟩ : ∃ V', V' = V2.alloc (Obj.cells #[.int .i64 0, .slice none 0 0, .slice none 0 0, .int .i64 0] 33) := ⟨_, rfl⟩
            rw [← hbAe] at hbA kA apD ⊢
            rw [← hV3] at kA bV hHeld oD ⊢
            clear hV3 hbAe
            refine wpAnyF_ready (rs := [6]) (by kernel_rfl) (by simp) ?_
            refine AllReadyF.cons (by (simp only [List.getElem?_toArray, List.getElem?_cons_succ, List.getElem?_cons_zero]; rfl)) (fun K hK => ?_) AllReadyF.nil
            have z0 := (kA.cell 0).trans (rfl : _ = some (Value.int .i64 0))
            have z1 := (kA.cell 1).trans (rfl : _ = some (Value.slice none 0 0))
            have z2 := (kA.cell 2).trans (rfl : _ = some (Value.slice none 0 0))
            have z3 := (kA.cell 3).trans (rfl : _ = some (Value.int .i64 0))
            have f0 := kA.frozen 0
            have f1 := kA.frozen 1
            have f2 := kA.frozen 2
            have f3 := kA.frozen 3
            go_simp
            clear z0 z1 z2 z3 f0 f1 f2 f3
            replace kA := (((kA.set_ 0 (.int .i64 a)).set_ 1 (.slice AD m'.cs.length cD)).set_ 2 (.slice ApD m'.mem.length cpD)).set_ 3 (.int .i64 v)
            simp only [List.setIfInBounds_toArray, List.set_cons_zero, List.set_cons_succ] at kA
            have gB : But (fun x => x = bA) V3 ((((V3.setCell ⟨bA, 0, none⟩ (.int .i64 a)).setCell ⟨bA, 1, none⟩ (.slice AD m'.cs.length cD)).setCell ⟨bA, 2, none⟩ (.slice ApD m'.mem.length cpD)).setCell ⟨bA, 3, none⟩ (.int .i64 v)) := ((((But.refl (fun x => x = bA) V3).set_ rfl 0 _).set_ rfl 1 _).set_ rfl 2 _).set_ rfl 3 _
            replace oD := oD.but gB (fun u hu b e1 e2 => apD u hu (by rw [e1, e2]))
            have bS : Below W3.heap.size V3 _ := gB.below (by have := bV.size; omega) (fun x e1 => by omega)
            replace bV := bV.trans bS
            have hA := keepA bS hHeld.1
            refine hK.out _ _ ⟨hA, trivial⟩ (fun hNew => ?_)
            clear hK K hHeld gB bS hA
            have hHeld := hNew
            clear hNew
            try simp only [Act.put, List.setIfInBounds_toArray, List.set_cons_zero, List.set_cons_succ]
            refine wpAnyF_done (by kernel_rfl) ?_ _
            go_wp2_with fail
            go_meet
            exact ⟨_, _, _, _, _, _, rfl, hbA, kA, oD, apD, bV⟩
          refine AllReadyF.cons (by (simp only [List.getElem?_toArray, List.getElem?_cons_succ, List.getElem?_cons_zero]; rfl)) (fun K hK => ?_) AllReadyF.nil
          go_simp
          have bS : Below W3.heap.size V1 (V1.alloc (Obj.cells #[.int .i64 0, .slice none 0 0, .slice none 0 0, .int .i64 0] 33)) := (Below.refl _ _).alloc (by have := bV.size; omega) _
          have bS2 : Below V1.heap.size V1 (V1.alloc (Obj.cells #[.int .i64 0, .slice none 0 0, .slice none 0 0, .int .i64 0] 33)) := (Below.refl _ _).alloc (Nat.le_refl _) _
          have kA := Bk.new V1 #[.int .i64 0, .slice none 0 0, .slice none 0 0, .int .i64 0] 33
          have hbA : W3.heap.size ≤ V1.heap.size := bV.size
          replace bV := bV.trans bS
          have hA := keepA bS hHeld.1
          refine hK.out _ _ ⟨hA, trivial⟩ (fun hNew => ?_)
          clear hK K hHeld bS bS2 hA
          have hHeld := hNew
          clear hNew
          try simp only [Act.put, List.setIfInBounds_toArray, List.set_cons_zero, List.set_cons_succ]
          obtain ⟨bA, hbAe⟩ : ∃ bA, bA = V1.heap.size := ⟨_, rfl⟩
          obtain ⟨V2, hV2⟩ : ∃ V', V' = V1.alloc (Obj.cells #[.int .i64 0, .slice none 0 0, .slice none 0 0, .int .i64 0] 33) := ⟨_, rfl⟩
          rw [← hbAe] at hbA kA ⊢
          rw [← hV2] at kA bV hHeld ⊢
          clear hV2 hbAe
          refine wpAnyF_ready (rs := [4]) (by kernel_rfl) (by simp) ?_
          refine AllReadyF.cons (by (simp only [List.getElem?_toArray, List.getElem?_cons_succ, List.getElem?_cons_zero]; rfl)) (fun K hK => ?_) AllReadyF.nil
          go_simp
          go_at_call 15
          refine (IM.out _ _ _ _ _ (x3.below bV).lt).mono ?_
          rintro e V3 ⟨AD, cD, ApD, cpD, usD, rfl, oD, bM⟩
          have apD : ∀ u ∈ (.slice AD m'.cs.length cD :: .slice ApD m'.mem.length cpD :: usD : List Value), u.ownBlock ≠ some bA := fun u hu e => by have := (oD.boundAll u hu _ e).1; have := kA.lt; omega
          replace oD := oD.mono (b' := W3.heap.size) bV.size
          replace kA := kA.kept bM
          have bS : Below W3.heap.size V2 V3 := bM.mono bV.size
          replace bV := bV.trans bS
          have hA := keepA bS hHeld.1
          refine hK.out _ _ ⟨hA, trivial⟩ (fun hNew => ?_)
          clear hK K hHeld bS bM hA
          have hHeld := hNew
          clear hNew
          try simp only [Act.put, List.setIfInBounds_toArray, List.set_cons_zero, List.set_cons_succ]
          refine wpAnyF_ready (rs := [6]) (by kernel_rfl) (by simp) ?_
          refine AllReadyF.cons (by (simp only [List.getElem?_toArray, List.getElem?_cons_succ, List.getElem?_cons_zero]; rfl)) (fun K hK => ?_) AllReadyF.nil
          have z0 := (kA.cell 0).trans (rfl : _ = some (Value.int .i64 0))
          have z1 := (kA.cell 1).trans (rfl : _ = some (Value.slice none 0 0))
          have z2 := (kA.cell 2).trans (rfl : _ = some (Value.slice none 0 0))
          have z3 := (kA.cell 3).trans (rfl : _ = some (Value.int .i64 0))
          have f0 := kA.frozen 0
          have f1 := kA.frozen 1
          have f2 := kA.frozen 2
          have f3 := kA.frozen 3
          go_simp
          clear z0 z1 z2 z3 f0 f1 f2 f3
          replace kA := (((kA.set_ 0 (.int .i64 a)).set_ 1 (.slice AD m'.cs.length cD)).set_ 2 (.slice ApD m'.mem.length cpD)).set_ 3 (.int .i64 v)
          simp only [List.setIfInBounds_toArray, List.set_cons_zero, List.set_cons_succ] at kA
          have gB : But (fun x => x = bA) V3 ((((V3.setCell ⟨bA, 0, none⟩ (.int .i64 a)).setCell ⟨bA, 1, none⟩ (.slice AD m'.cs.length cD)).setCell ⟨bA, 2, none⟩ (.slice ApD m'.mem.length cpD)).setCell ⟨bA, 3, none⟩ (.int .i64 v)) := ((((But.refl (fun x => x = bA) V3).set_ rfl 0 _).set_ rfl 1 _).set_ rfl 2 _).set_ rfl 3 _
          replace oD := oD.but gB (fun u hu b e1 e2 => apD u hu (by rw [e1, e2]))
          have bS : Below W3.heap.size V3 _ := gB.below (by have := bV.size; omega) (fun x e1 => by omega)
          replace bV := bV.trans bS
          have hA := keepA bS hHeld.1
          refine hK.out _ _ ⟨hA, trivial⟩ (fun hNew => ?_)
          clear hK K hHeld gB bS hA
          have hHeld := hNew
          clear hNew
          try simp only [Act.put, List.setIfInBounds_toArray, List.set_cons_zero, List.set_cons_succ]
          refine wpAnyF_done (by kernel_rfl) ?_ _
          go_wp2_with fail
          go_meet
          exact ⟨_, _, _, _, _, _, rfl, hbA, kA, oD, apD, bV⟩
        refine AllReadyF.cons (by (simp only [List.getElem?_toArray, List.getElem?_cons_succ, List.getElem?_cons_zero]; rfl)) (fun K hK => ?_) AllReadyF.nil
        go_simp
        have bS : Below W3.heap.size V (V.alloc (Obj.cells #[.int .i64 0, .slice none 0 0, .slice none 0 0, .int .i64 0] 33)) := (Below.refl _ _).alloc (by have := bV.size; omega) _
        have bS2 : Below V.heap.size V (V.alloc (Obj.cells #[.int .i64 0, .slice none 0 0, .slice none 0 0, .int .i64 0] 33)) := (Below.refl _ _).alloc (Nat.le_refl _) _
        have kA := Bk.new V #[.int .i64 0, .slice none 0 0, .slice none 0 0, .int .i64 0] 33
        have hbA : W3.heap.size ≤ V.heap.size := bV.size
        replace bV := bV.trans bS
        have hA := keepA bS hHeld.1
        refine hK.out _ _ ⟨hA, trivial⟩ (fun hNew => ?_)
        clear hK K hHeld bS bS2 hA
        have hHeld := hNew
        clear hNew
        try simp only [Act.put, List.setIfInBounds_toArray, List.set_cons_zero, List.set_cons_succ]
        obtain ⟨bA, hbAe⟩ : ∃ bA, bA = V.heap.size := ⟨_, rfl⟩
        obtain ⟨V1, hV1⟩ : ∃ V', V' = V.alloc (Obj.cells #[.int .i64 0, .slice none 0 0, .slice none 0 0, .int .i64 0] 33) := ⟨_, rfl⟩
        rw [← hbAe] at hbA kA ⊢
        rw [← hV1] at kA bV hHeld ⊢
        clear hV1 hbAe
        refine wpAnyF_ready (rs := [3]) (by kernel_rfl) (by simp) ?_
        refine AllReadyF.cons (by (simp only [List.getElem?_toArray, List.getElem?_cons_succ, List.getElem?_cons_zero]; rfl)) (fun K hK => ?_) AllReadyF.nil
        go_simp
        go_at_call 40
        refine (TP.out _).mono ?_
        rintro e V2 ⟨rfl, bM⟩
        replace kA := kA.kept bM
        have bS : Below W3.heap.size V1 V2 := bM.mono bV.size
        replace bV := bV.trans bS
        have hA := keepA bS hHeld.1
        refine hK.out _ _ ⟨hA, trivial⟩ (fun hNew => ?_)
        clear hK K hHeld bS bM hA
        have hHeld := hNew
        clear hNew
        try simp only [Act.put, List.setIfInBounds_toArray, List.set_cons_zero, List.set_cons_succ]
        refine wpAnyF_ready (rs := [4]) (by kernel_rfl) (by simp) ?_
        refine AllReadyF.cons (by (simp only [List.getElem?_toArray, List.getElem?_cons_succ, List.getElem?_cons_zero]; rfl)) (fun K hK => ?_) AllReadyF.nil
        go_simp
        go_at_call 15
        refine (IM.out _ _ _ _ _ (x3.below bV).lt).mono ?_
        rintro e V3 ⟨AD, cD, ApD, cpD, usD, rfl, oD, bM⟩
        have apD : ∀ u ∈ (.slice AD m'.cs.length cD :: .slice ApD m'.mem.length cpD :: usD : List Value), u.ownBlock ≠ some bA := fun u hu e => by have := (oD.boundAll u hu _ e).1; have := kA.lt; omega
        replace oD := oD.mono (b' := W3.heap.size) bV.size
        replace kA := kA.kept bM
        have bS : Below W3.heap.size V2 V3 := bM.mono bV.size
        replace bV := bV.trans bS
        have hA := keepA bS hHeld.1
        refine hK.out _ _ ⟨hA, trivial⟩ (fun hNew => ?_)
        clear hK K hHeld bS bM hA
        have hHeld := hNew
        clear hNew
        try simp only [Act.put, List.setIfInBounds_toArray, List.set_cons_zero, List.set_cons_succ]
        refine wpAnyF_ready (rs := [6]) (by kernel_rfl) (by simp) ?_
        refine AllReadyF.cons (by (simp only [List.getElem?_toArray, List.getElem?_cons_succ, List.getElem?_cons_zero]; rfl)) (fun K hK => ?_) AllReadyF.nil
        have z0 := (kA.cell 0).trans (rfl : _ = some (Value.int .i64 0))
        have z1 := (kA.cell 1).trans (rfl : _ = some (Value.slice none 0 0))
        have z2 := (kA.cell 2).trans (rfl : _ = some (Value.slice none 0 0))
        have z3 := (kA.cell 3).trans (rfl : _ = some (Value.int .i64 0))
        have f0 := kA.frozen 0
        have f1 := kA.frozen 1
        have f2 := kA.frozen 2
        have f3 := kA.frozen 3
        go_simp
        clear z0 z1 z2 z3 f0 f1 f2 f3
        replace kA := (((kA.set_ 0 (.int .i64 a)).set_ 1 (.slice AD m'.cs.length cD)).set_ 2 (.slice ApD m'.mem.length cpD)).set_ 3 (.int .i64 v)
        simp only [List.setIfInBounds_toArray, List.set_cons_zero, List.set_cons_succ] at kA
        have gB : But (fun x => x = bA) V3 ((((V3.setCell ⟨bA, 0, none⟩ (.int .i64 a)).setCell ⟨bA, 1, none⟩ (.slice AD m'.cs.length cD)).setCell ⟨bA, 2, none⟩ (.slice ApD m'.mem.length cpD)).setCell ⟨bA, 3, none⟩ (.int .i64 v)) := ((((But.refl (fun x => x = bA) V3).set_ rfl 0 _).set_ rfl 1 _).set_ rfl 2 _).set_ rfl 3 _
        replace oD := oD.but gB (fun u hu b e1 e2 => apD u hu (by rw [e1, e2]))
        have bS : Below W3.heap.size V3 _ := gB.below (by have := bV.size; omega) (fun x e1 => by omega)
        replace bV := bV.trans bS
        have hA := keepA bS hHeld.1
        refine hK.out _ _ ⟨hA, trivial⟩ (fun hNew => ?_)
        clear hK K hHeld gB bS hA
        have hHeld := hNew
        clear hNew
        try simp only [Act.put, List.setIfInBounds_toArray, List.set_cons_zero, List.set_cons_succ]
        refine wpAnyF_done (by kernel_rfl) ?_ _
        go_wp2_with fail
        go_meet
        exact ⟨_, _, _, _, _, _, rfl, hbA, kA, oD, apD, bV⟩
      case rest =>
        obtain ⟨b1, A1, c1, A1p, c1p, us1, rfl, hb1, k1, o1, ap1, C_⟩ := hcut
        clear q0_0 q0_1 q1_0 q1_1 q1_2
        have z_5 := Below.size C_
        replace K := K.kept C_
        replace O := O.kept C_
        replace B := B.trans (C_.mono B.size)
        replace R := R.below (C_.mono (by omega))
        replace k0 := k0.kept C_
        replace r0 := r0.below (C_.mono (by omega))
        replace x3 := (x3.below C_).lt
        replace X := X.kept C_
        replace o3 := o3.below C_
        clear C_
        have ho1 := o1.boundAll
        have q0_0 := (k1.cell 0).trans (rfl : _ = some (Value.int .i64 a))
        have q0_1 := (k1.cell 1).trans (rfl : _ = some (Value.slice A1 m'.cs.length c1))
        have q0_2 := (k1.cell 2).trans (rfl : _ = some (Value.slice A1p m'.mem.length c1p))
        have q0_3 := (k1.cell 3).trans (rfl : _ = some (Value.int .i64 v))
        have q1_0 := (k0.cell 0).trans (rfl : _ = some (Value.int .i64 a))
        have q1_1 := (k0.cell 1).trans (rfl : _ = some (Value.slice A0 m'.cs.length c0))
        have q1_2 := (k0.cell 2).trans (rfl : _ = some (Value.slice A0p m'.mem.length c0p))
        have q1_3 := (k0.cell 3).trans (rfl : _ = some (Value.int .i64 v))
        go_wp2_with fail
        refine (eqMachineResult_same a v m' _ _ _ _ _ _ _ _ _ h1 h2 o1.rd (r0.more (by omega))).mono ?_
        rintro e w5 ⟨rfl, b_5⟩
        clear q0_0 q0_1 q0_2 q0_3 q1_0 q1_1 q1_2 q1_3
        have z_6 := Below.size b_5
        replace K := K.kept b_5
        replace O := O.kept b_5
        replace B := B.trans (b_5.mono B.size)
        replace R := R.below (b_5.mono (by omega))
        replace k0 := k0.kept b_5
        replace r0 := r0.below (b_5.mono (by omega))
        replace x3 := (x3.below b_5).lt
        replace X := X.kept b_5
        replace k1 := k1.kept b_5
        replace o3 := o3.below b_5
        replace o1 := o1.below b_5
        clear b_5
        have EQ := hide (fun A A' Z Z' c c' d d' W hW hW' => eqMachine_same m A A' Z Z' c c' d d' W hc hm hW hW')
        have q0_0 := (X.cell 0).trans (rfl : _ = some (Value.slice (some ⟨g3, 0, none⟩) m.cs.length m.cs.length))
        have q0_1 := (X.cell 1).trans (rfl : _ = some (Value.slice (some ⟨g3p, 0, none⟩) m.mem.length m.mem.length))
        have q1_0 := (K.cell 0).trans (rfl : _ = some (Value.slice A m.cs.length c))
        have q1_1 := (K.cell 1).trans (rfl : _ = some (Value.slice A' m.mem.length c'))
        go_wp2_with fail
        go_cut [41] (fun s wx => s = .bool false ∧ Below w5.heap.size w5 wx)
        case first =>
          go_region_held3 (fun w' => w'.cell? ⟨w3.heap.size, 0, none⟩ = some (Value.slice (some ⟨g3, 0, none⟩) m.cs.length m.cs.length) ∧ w'.cell? ⟨w3.heap.size, 1, none⟩ = some (Value.slice (some ⟨g3p, 0, none⟩) m.mem.length m.mem.length) ∧ w'.cell? ⟨w.heap.size, 0, none⟩ = some (Value.slice A m.cs.length c) ∧ w'.cell? ⟨w.heap.size, 1, none⟩ = some (Value.slice A' m.mem.length c') ∧ Below w5.heap.size w5 w')
            (first | assumption | exact ⟨q0_0, q0_1, q1_0, q1_1, (Below.refl _ _).drew⟩ | (go_split_ands; exact ⟨cell_kept (by assumption) (by assumption), cell_kept (by assumption) (by assumption), cell_kept (by assumption) (by assumption), cell_kept (by assumption) (by assumption), Below.trans (by assumption) (Below.mono (by assumption) (Below.size (by assumption)))⟩))
            (first
              | (go_at_call 45; refine (TO.out _ ?_).mono ?_; (go_split_ands; exact (R.below ((by assumption : Below w5.heap.size w5 _).mono (by omega))).more (by have := Below.size (by assumption : Below w5.heap.size w5 _); omega)); rintro e wa ⟨ga, gap, usa, rfl, oa, ba⟩)
              | (go_at_call 46; refine (EQ.out _ _ _ _ _ _ _ _ _ ?_ ?_).mono ?_; (go_split_ands; exact (x3.below (by assumption)).lt); exact OwnMac.rd (by assumption); rintro e wa ⟨rfl, ba⟩))
          go_wp2_with fail
          go_meet
          exact ⟨rfl, by go_split_ands; assumption⟩
        case rest =>
          obtain ⟨rfl, C_⟩ := hcut
          clear q0_0 q0_1 q1_0 q1_1
          have z_7 := Below.size C_
          replace K := K.kept C_
          replace O := O.kept C_
          replace B := B.trans (C_.mono B.size)
          replace R := R.below (C_.mono (by omega))
          replace k0 := k0.kept C_
          replace r0 := r0.below (C_.mono (by omega))
          replace x3 := (x3.below C_).lt
          replace X := X.kept C_
          replace k1 := k1.kept C_
          replace o3 := o3.below C_
          replace o1 := o1.below C_
          clear C_
          clear x3
          have q0 := (X.cell 0).trans (rfl : _ = some (Value.slice (some ⟨g3, 0, none⟩) m.cs.length m.cs.length))
          have q1 := (X.cell 1).trans (rfl : _ = some (Value.slice (some ⟨g3p, 0, none⟩) m.mem.length m.mem.length))
          go_wp2_with fail
          have MK := markMachine_any _ 1 m us3 _ _ _ _ _ hendm htm o3
          refine MK.mono ?_
          clear MK q0 q1
          rintro e w6 ⟨rfl, o6, s6⟩
          clear o6 o3
          have hx3 : ∀ u ∈ (.slice (some ⟨g3p, 0, none⟩) m.mem.length m.mem.length :: us3 : List Value), ∀ b, u.ownBlock = some b → B3 ≤ b ∧ b < w3.heap.size := fun u hu b e => hb3 u (List.mem_cons_of_mem _ hu) b e
          have b_ := s6.below B3 (by omega) (fun u hu b e => (hx3 u hu b e).1)
          have z_6 := s6.size
          replace R := R.below (b_.mono (by omega))
          replace B := B.trans (b_.mono (by omega))
          replace K := K.below b_ (by omega)
          replace O := O.below b_ (by omega)
          replace k0 := k0.below b_ (by have := k0lt; omega)
          skip
          replace k1 := s6.bk _ _ _ k1 (fun u hu e => by have := (hx3 u hu _ e).2; omega)
          replace o1 := o1.only s6 (fun x hx b e => by have h3 := (hx3 x hx b e).2; exact ⟨fun e2 => by have := (ho1 _ (by simp) b e2).1; omega, fun e2 => by have := (ho1 _ (by simp) b e2).1; omega, fun u hu e2 => by have := (ho1 u (by simp [hu]) b e2).1; omega⟩)
          clear X
          replace r0 := r0.below (b_.mono (by omega))
          clear s6 b_ hx3 hb3
          have q0_0 := (k1.cell 0).trans (rfl : _ = some (Value.int .i64 a))
          have q0_1 := (k1.cell 1).trans (rfl : _ = some (Value.slice A1 m'.cs.length c1))
          have q0_2 := (k1.cell 2).trans (rfl : _ = some (Value.slice A1p m'.mem.length c1p))
          have q0_3 := (k1.cell 3).trans (rfl : _ = some (Value.int .i64 v))
          have q1_0 := (k0.cell 0).trans (rfl : _ = some (Value.int .i64 a))
          have q1_1 := (k0.cell 1).trans (rfl : _ = some (Value.slice A0 m'.cs.length c0))
          have q1_2 := (k0.cell 2).trans (rfl : _ = some (Value.slice A0p m'.mem.length c0p))
          have q1_3 := (k0.cell 3).trans (rfl : _ = some (Value.int .i64 v))
          go_wp2_with fail
          refine (eqMachineResult_same a v m' _ _ _ _ _ _ _ _ _ h1 h2 o1.rd (r0.more (by omega))).mono ?_
          rintro e w7 ⟨rfl, b_7⟩
          clear q0_0 q0_1 q0_2 q0_3 q1_0 q1_1 q1_2 q1_3
          have z_8 := Below.size b_7
          replace K := K.kept b_7
          replace O := O.kept b_7
          replace B := B.trans (b_7.mono B.size)
          replace R := R.below (b_7.mono (by omega))
          replace k0 := k0.kept b_7
          replace r0 := r0.below (b_7.mono (by omega))
          replace k1 := k1.kept b_7
          replace o1 := o1.below b_7
          clear b_7
          have q0 := (k1.cell 0).trans (rfl : _ = some (Value.int .i64 a))
          have q1 := (k1.cell 1).trans (rfl : _ = some (Value.slice A1 m'.cs.length c1))
          have q2 := (k1.cell 2).trans (rfl : _ = some (Value.slice A1p m'.mem.length c1p))
          have q3 := (k1.cell 3).trans (rfl : _ = some (Value.int .i64 v))
          go_wp2_with fail
          have MK := markMachineResult_any _ 1 a v m' us1 A1 A1p c1 c1p w7 hend ht o1
          refine MK.mono ?_
          clear MK q0 q1 q2 q3 o1
          rintro e w8 ⟨rfl, o8, s8⟩
          have b_ := s8.below W3.heap.size (by omega) (fun u hu b e => (ho1 u (List.mem_cons_of_mem _ hu) b e).1)
          have z_g := Below.size b_
          replace r0 := r0.below (b_.mono (by omega))
          replace R := R.below (b_.mono (by omega))
          replace B := B.trans (b_.mono (by omega))
          replace K := K.below b_ (by omega)
          replace O := O.below b_ (by omega)
          replace k0 := k0.below b_ (by omega)
          replace k1 := s8.bk _ _ _ k1 (fun u hu e => ap1 u (List.mem_cons_of_mem _ hu) e)
          have r1 := (show OwnMac w8 _ (.slice A1 (mkMac 1 m').cs.length c1) (.slice A1p (mkMac 1 m').mem.length c1p) (mkMac 1 m') us1 by simp only [mkMac, mkT_length, mkC_length]; simp only [mkMac] at o8; exact o8).rd
          clear s8 o8 b_ ap1 ho1
          have q0_0 := (k1.cell 0).trans (rfl : _ = some (Value.int .i64 a))
          have q0_1 := (k1.cell 1).trans (rfl : _ = some (Value.slice A1 m'.cs.length c1))
          have q0_2 := (k1.cell 2).trans (rfl : _ = some (Value.slice A1p m'.mem.length c1p))
          have q0_3 := (k1.cell 3).trans (rfl : _ = some (Value.int .i64 v))
          go_wp2_with fail
          refine (heldMachineResult_marked _ 1 a v m' A1 A1p c1 c1p w8 hend ht (Nat.le_refl _) r1).mono ?_
          rintro e w9 ⟨rfl, b_9⟩
          clear q0_0 q0_1 q0_2 q0_3
          have z_9 := Below.size b_9
          replace K := K.kept b_9
          replace O := O.kept b_9
          replace B := B.trans (b_9.mono B.size)
          replace R := R.below (b_9.mono (by omega))
          replace k0 := k0.kept b_9
          replace r0 := r0.below (b_9.mono (by omega))
          replace k1 := k1.kept b_9
          replace r1 := (r1.below b_9).lt
          clear b_9
          have q0_0 := (K.cell 0).trans (rfl : _ = some (Value.slice A m.cs.length c))
          have q0_1 := (K.cell 1).trans (rfl : _ = some (Value.slice A' m.mem.length c'))
          have q1_0 := (O.cell 0).trans (rfl : _ = some (Value.int .i64 o.k))
          have q1_1 := (O.cell 1).trans (rfl : _ = some (Value.int .i64 o.a))
          have q1_2 := (O.cell 2).trans (rfl : _ = some (Value.int .i64 o.v))
          go_wp2_with fail
          go_cut [14] (fun s wx => ∃ (b_ : Nat) (A_ : Option Addr) (c_ : Nat) (Ap_ : Option Addr) (cp_ : Nat) (us_ : List Value), s = .pointer (some ⟨b_, 0, none⟩) ∧ w9.heap.size ≤ b_ ∧ Bk wx b_ #[.int .i64 a, .slice A_ m'.cs.length c_, .slice Ap_ m'.mem.length cp_, .int .i64 v] 33 ∧ OwnMac wx w9.heap.size (.slice A_ m'.cs.length c_) (.slice Ap_ m'.mem.length cp_) m' us_ ∧ (∀ u ∈ (.slice A_ m'.cs.length c_ :: .slice Ap_ m'.mem.length cp_ :: us_ : List Value), u.ownBlock ≠ some b_) ∧ Below w9.heap.size w9 wx)
          case first =>
            refine wp_region_F 99 (fun w' => w'.cell? ⟨w.heap.size, 0, none⟩ = some (Value.slice A m.cs.length c) ∧ w'.cell? ⟨w.heap.size, 1, none⟩ = some (Value.slice A' m.mem.length c') ∧ w'.cell? ⟨w.heap.size + 1, 0, none⟩ = some (Value.int .i64 o.k) ∧ w'.cell? ⟨w.heap.size + 1, 1, none⟩ = some (Value.int .i64 o.a) ∧ w'.cell? ⟨w.heap.size + 1, 2, none⟩ = some (Value.int .i64 o.v) ∧ Below w9.heap.size w9 w') (fun w' => True) (by kernel_rfl) ⟨⟨q0_0, q0_1, q1_0, q1_1, q1_2, (Below.refl _ _).drew⟩, trivial⟩ (fun hHeld => ?_)
            try simp only [Act.put, List.setIfInBounds_toArray, List.set_cons_zero, List.set_cons_succ]
            clear q0_0 q0_1 q1_0 q1_1 q1_2
            have bV := hHeld.1.2.2.2.2.2
            generalize w9.drew = V at *
            skip
            refine wpAnyF_keep (i := 0) (v := ?_) (by (simp only [List.getElem?_toArray, List.getElem?_cons_zero]; rfl)) (by kernel_rfl) (by kernel_rfl) (by kernel_rfl) (by decide) (by exact fun _ _ _ h => h) ⟨hHeld.1, .inr trivial⟩ (Or.inl ⟨by rfl, ?_⟩) ?_
            rotate_left
            · (intro w' hSw; (try dsimp only at hSw); obtain ⟨hSa0, hSa1, hSa2, hSa3, hSa4, hSa5⟩ := hSw; go_simp <;> with_reducible rfl)
            try simp only [Act.put, List.setIfInBounds_toArray, List.set_cons_zero, List.set_cons_succ]
            refine wpAnyF_take (i := 2) (v := ?_) (by (simp only [List.getElem?_toArray, List.getElem?_cons_succ, List.getElem?_cons_zero]; rfl)) (by kernel_rfl) (by kernel_rfl) (by kernel_rfl) (by decide) (by exact fun _ _ _ h => h) ⟨hHeld.1, .inr trivial⟩ (Or.inl ⟨by rfl, ?_⟩) ?_
            rotate_left
            · (intro w' _; go_simp <;> with_reducible rfl)
            try simp only [Act.put, List.setIfInBounds_toArray, List.set_cons_zero, List.set_cons_succ]
            refine wpAnyF_keep (i := 3) (v := ?_) (by (simp only [List.getElem?_toArray, List.getElem?_cons_succ, List.getElem?_cons_zero]; rfl)) (by kernel_rfl) (by kernel_rfl) (by kernel_rfl) (by decide) (by exact fun _ _ _ h => h) ⟨hHeld.1, .inr trivial⟩ (Or.inl ⟨by rfl, ?_⟩) ?_
            rotate_left
            · (intro w' hSw; (try dsimp only at hSw); obtain ⟨hSa0, hSa1, hSa2, hSa3, hSa4, hSa5⟩ := hSw; go_simp <;> with_reducible rfl)
            try simp only [Act.put, List.setIfInBounds_toArray, List.set_cons_zero, List.set_cons_succ]
            refine wpAnyF_ready (rs := [1, 6]) (by kernel_rfl) (by simp) ?_
            refine AllReadyF.cons (by (simp only [List.getElem?_toArray, List.getElem?_cons_succ, List.getElem?_cons_zero]; rfl)) (fun K hK => ?_) ?_
            · go_simp
              go_at_call 45
              refine (TO.out _ ((R.below (bV.mono (by omega))).more (by have := bV.size; omega))).mono ?_
              rintro e V1 ⟨gM, gMp, usM, rfl, oM, bM⟩
              have xM := oM.rd
              clear oM
              have bS : Below w9.heap.size V V1 := bM.mono bV.size
              replace bV := bV.trans bS
              have hA := keepA bS hHeld.1
              refine hK.out _ _ ⟨hA, trivial⟩ (fun hNew => ?_)
              clear hK K hHeld bS bM hA
              have hHeld := hNew
              clear hNew
              try simp only [Act.put, List.setIfInBounds_toArray, List.set_cons_zero, List.set_cons_succ]
              refine wpAnyF_ready (rs := [4, 6]) (by kernel_rfl) (by simp) ?_
              refine AllReadyF.cons (by (simp only [List.getElem?_toArray, List.getElem?_cons_succ, List.getElem?_cons_zero]; rfl)) (fun K hK => ?_) ?_
              · go_simp
                go_at_call 40
                refine (TP.out _).mono ?_
                rintro e V2 ⟨rfl, bM⟩
                replace xM := (xM.below bM).lt
                have bS : Below w9.heap.size V1 V2 := bM.mono bV.size
                replace bV := bV.trans bS
                have hA := keepA bS hHeld.1
                refine hK.out _ _ ⟨hA, trivial⟩ (fun hNew => ?_)
                clear hK K hHeld bS bM hA
                have hHeld := hNew
                clear hNew
                try simp only [Act.put, List.setIfInBounds_toArray, List.set_cons_zero, List.set_cons_succ]
                refine wpAnyF_ready (rs := [5, 6]) (by kernel_rfl) (by simp) ?_
                refine AllReadyF.cons (by (simp only [List.getElem?_toArray, List.getElem?_cons_succ, List.getElem?_cons_zero]; rfl)) (fun K hK => ?_) ?_
                · go_simp
                  go_at_call 15
                  refine (IM.out _ _ _ _ _ xM).mono ?_
                  rintro e V3 ⟨AD, cD, ApD, cpD, usD, rfl, oD, bM⟩
                  replace oD := oD.mono (b' := w9.heap.size) bV.size
                  replace xM := (xM.below bM).lt
                  have bS : Below w9.heap.size V2 V3 := bM.mono bV.size
                  replace bV := bV.trans bS
                  have hA := keepA bS hHeld.1
                  refine hK.out _ _ ⟨hA, trivial⟩ (fun hNew => ?_)
                  clear hK K hHeld bS bM hA
                  have hHeld := hNew
                  clear hNew
                  try simp only [Act.put, List.setIfInBounds_toArray, List.set_cons_zero, List.set_cons_succ]
                  refine wpAnyF_ready (rs := [6]) (by kernel_rfl) (by simp) ?_
                  refine AllReadyF.cons (by (simp only [List.getElem?_toArray, List.getElem?_cons_succ, List.getElem?_cons_zero]; rfl)) (fun K hK => ?_) AllReadyF.nil
                  go_simp
                  have bS : Below w9.heap.size V3 (V3.alloc (Obj.cells #[.int .i64 0, .slice none 0 0, .slice none 0 0, .int .i64 0] 33)) := (Below.refl _ _).alloc (by have := bV.size; omega) _
                  have bS2 : Below V3.heap.size V3 (V3.alloc (Obj.cells #[.int .i64 0, .slice none 0 0, .slice none 0 0, .int .i64 0] 33)) := (Below.refl _ _).alloc (Nat.le_refl _) _
                  have kA := Bk.new V3 #[.int .i64 0, .slice none 0 0, .slice none 0 0, .int .i64 0] 33
                  have hbA : w9.heap.size ≤ V3.heap.size := bV.size
                  replace bV := bV.trans bS
                  have hA := keepA bS hHeld.1
                  replace xM := (xM.below bS2).lt
                  have apD : ∀ u ∈ (.slice AD m'.cs.length cD :: .slice ApD m'.mem.length cpD :: usD : List Value), u.ownBlock ≠ some V3.heap.size := fun u hu e => by have := (oD.boundAll u hu _ e).2; omega
                  replace oD := oD.below bS2
                  refine hK.out _ _ ⟨hA, trivial⟩ (fun hNew => ?_)
                  clear hK K hHeld bS bS2 hA
                  have hHeld := hNew
                  clear hNew
                  try simp only [Act.put, List.setIfInBounds_toArray, List.set_cons_zero, List.set_cons_succ]
                  obtain ⟨bA, hbAe⟩ : ∃ bA, bA = V3.heap.size := ⟨_, rfl⟩
                  obtain ⟨V4, hV4⟩ : ∃ V', V' = V3.alloc (Obj.cells #[.int .i64 0, .slice none 0 0, .slice none 0 0, .int .i64 0] 33) := ⟨_, rfl⟩
                  rw [← hbAe] at hbA kA apD ⊢
                  rw [← hV4] at kA bV hHeld xM oD ⊢
                  clear hV4 hbAe
                  refine wpAnyF_ready (rs := [7]) (by kernel_rfl) (by simp) ?_
                  refine AllReadyF.cons (by (simp only [List.getElem?_toArray, List.getElem?_cons_succ, List.getElem?_cons_zero]; rfl)) (fun K hK => ?_) AllReadyF.nil
                  have z0 := (kA.cell 0).trans (rfl : _ = some (Value.int .i64 0))
                  have z1 := (kA.cell 1).trans (rfl : _ = some (Value.slice none 0 0))
                  have z2 := (kA.cell 2).trans (rfl : _ = some (Value.slice none 0 0))
                  have z3 := (kA.cell 3).trans (rfl : _ = some (Value.int .i64 0))
                  have f0 := kA.frozen 0
                  have f1 := kA.frozen 1
                  have f2 := kA.frozen 2
                  have f3 := kA.frozen 3
                  go_simp
                  clear z0 z1 z2 z3 f0 f1 f2 f3
                  replace kA := (((kA.set_ 0 (.int .i64 a)).set_ 1 (.slice AD m'.cs.length cD)).set_ 2 (.slice ApD m'.mem.length cpD)).set_ 3 (.int .i64 v)
                  simp only [List.setIfInBounds_toArray, List.set_cons_zero, List.set_cons_succ] at kA
                  have gB : But (fun x => x = bA) V4 ((((V4.setCell ⟨bA, 0, none⟩ (.int .i64 a)).setCell ⟨bA, 1, none⟩ (.slice AD m'.cs.length cD)).setCell ⟨bA, 2, none⟩ (.slice ApD m'.mem.length cpD)).setCell ⟨bA, 3, none⟩ (.int .i64 v)) := ((((But.refl (fun x => x = bA) V4).set_ rfl 0 _).set_ rfl 1 _).set_ rfl 2 _).set_ rfl 3 _
                  replace oD := oD.but gB (fun u hu b e1 e2 => apD u hu (by rw [e1, e2]))
                  have bS : Below w9.heap.size V4 _ := gB.below (by have := bV.size; omega) (fun x e1 => by omega)
                  replace bV := bV.trans bS
                  have hA := keepA bS hHeld.1
                  refine hK.out _ _ ⟨hA, trivial⟩ (fun hNew => ?_)
                  clear hK K hHeld gB bS hA
                  have hHeld := hNew
                  clear hNew
                  try simp only [Act.put, List.setIfInBounds_toArray, List.set_cons_zero, List.set_cons_succ]
                  refine wpAnyF_done (by kernel_rfl) ?_ _
                  go_wp2_with fail
                  go_meet
                  exact ⟨_, _, _, _, _, _, rfl, hbA, kA, oD, apD, bV⟩
                refine AllReadyF.cons (by (simp only [List.getElem?_toArray, List.getElem?_cons_succ, List.getElem?_cons_zero]; rfl)) (fun K hK => ?_) AllReadyF.nil
                go_simp
                have bS : Below w9.heap.size V2 (V2.alloc (Obj.cells #[.int .i64 0, .slice none 0 0, .slice none 0 0, .int .i64 0] 33)) := (Below.refl _ _).alloc (by have := bV.size; omega) _
                have bS2 : Below V2.heap.size V2 (V2.alloc (Obj.cells #[.int .i64 0, .slice none 0 0, .slice none 0 0, .int .i64 0] 33)) := (Below.refl _ _).alloc (Nat.le_refl _) _
                have kA := Bk.new V2 #[.int .i64 0, .slice none 0 0, .slice none 0 0, .int .i64 0] 33
                have hbA : w9.heap.size ≤ V2.heap.size := bV.size
                replace bV := bV.trans bS
                have hA := keepA bS hHeld.1
                replace xM := (xM.below bS2).lt
                refine hK.out _ _ ⟨hA, trivial⟩ (fun hNew => ?_)
                clear hK K hHeld bS bS2 hA
                have hHeld := hNew
                clear hNew
                try simp only [Act.put, List.setIfInBounds_toArray, List.set_cons_zero, List.set_cons_succ]
                obtain ⟨bA, hbAe⟩ : ∃ bA, bA = V2.heap.size := ⟨_, rfl⟩
                obtain ⟨V3, hV3⟩ : ∃ V', V' = V2.alloc (Obj.cells #[.int .i64 0, .slice none 0 0, .slice none 0 0, .int .i64 0] 33) := ⟨_, rfl⟩
                rw [← hbAe] at hbA kA ⊢
                rw [← hV3] at kA bV hHeld xM ⊢
                clear hV3 hbAe
                refine wpAnyF_ready (rs := [5]) (by kernel_rfl) (by simp) ?_
                refine AllReadyF.cons (by (simp only [List.getElem?_toArray, List.getElem?_cons_succ, List.getElem?_cons_zero]; rfl)) (fun K hK => ?_) AllReadyF.nil
                go_simp
                go_at_call 15
                refine (IM.out _ _ _ _ _ xM).mono ?_
                rintro e V4 ⟨AD, cD, ApD, cpD, usD, rfl, oD, bM⟩
                have apD : ∀ u ∈ (.slice AD m'.cs.length cD :: .slice ApD m'.mem.length cpD :: usD : List Value), u.ownBlock ≠ some bA := fun u hu e => by have := (oD.boundAll u hu _ e).1; have := kA.lt; omega
                replace oD := oD.mono (b' := w9.heap.size) bV.size
                replace kA := kA.kept bM
                replace xM := (xM.below bM).lt
                have bS : Below w9.heap.size V3 V4 := bM.mono bV.size
                replace bV := bV.trans bS
                have hA := keepA bS hHeld.1
                refine hK.out _ _ ⟨hA, trivial⟩ (fun hNew => ?_)
                clear hK K hHeld bS bM hA
                have hHeld := hNew
                clear hNew
                try simp only [Act.put, List.setIfInBounds_toArray, List.set_cons_zero, List.set_cons_succ]
                refine wpAnyF_ready (rs := [7]) (by kernel_rfl) (by simp) ?_
                refine AllReadyF.cons (by (simp only [List.getElem?_toArray, List.getElem?_cons_succ, List.getElem?_cons_zero]; rfl)) (fun K hK => ?_) AllReadyF.nil
                have z0 := (kA.cell 0).trans (rfl : _ = some (Value.int .i64 0))
                have z1 := (kA.cell 1).trans (rfl : _ = some (Value.slice none 0 0))
                have z2 := (kA.cell 2).trans (rfl : _ = some (Value.slice none 0 0))
                have z3 := (kA.cell 3).trans (rfl : _ = some (Value.int .i64 0))
                have f0 := kA.frozen 0
                have f1 := kA.frozen 1
                have f2 := kA.frozen 2
                have f3 := kA.frozen 3
                go_simp
                clear z0 z1 z2 z3 f0 f1 f2 f3
                replace kA := (((kA.set_ 0 (.int .i64 a)).set_ 1 (.slice AD m'.cs.length cD)).set_ 2 (.slice ApD m'.mem.length cpD)).set_ 3 (.int .i64 v)
                simp only [List.setIfInBounds_toArray, List.set_cons_zero, List.set_cons_succ] at kA
                have gB : But (fun x => x = bA) V4 ((((V4.setCell ⟨bA, 0, none⟩ (.int .i64 a)).setCell ⟨bA, 1, none⟩ (.slice AD m'.cs.length cD)).setCell ⟨bA, 2, none⟩ (.slice ApD m'.mem.length cpD)).setCell ⟨bA, 3, none⟩ (.int .i64 v)) := ((((But.refl (fun x => x = bA) V4).set_ rfl 0 _).set_ rfl 1 _).set_ rfl 2 _).set_ rfl 3 _
                replace oD := oD.but gB (fun u hu b e1 e2 => apD u hu (by rw [e1, e2]))
                have bS : Below w9.heap.size V4 _ := gB.below (by have := bV.size; omega) (fun x e1 => by omega)
                replace bV := bV.trans bS
                have hA := keepA bS hHeld.1
                refine hK.out _ _ ⟨hA, trivial⟩ (fun hNew => ?_)
                clear hK K hHeld gB bS hA
                have hHeld := hNew
                clear hNew
                try simp only [Act.put, List.setIfInBounds_toArray, List.set_cons_zero, List.set_cons_succ]
                refine wpAnyF_done (by kernel_rfl) ?_ _
                go_wp2_with fail
                go_meet
                exact ⟨_, _, _, _, _, _, rfl, hbA, kA, oD, apD, bV⟩
              refine AllReadyF.cons (by (simp only [List.getElem?_toArray, List.getElem?_cons_succ, List.getElem?_cons_zero]; rfl)) (fun K hK => ?_) AllReadyF.nil
              go_simp
              have bS : Below w9.heap.size V1 (V1.alloc (Obj.cells #[.int .i64 0, .slice none 0 0, .slice none 0 0, .int .i64 0] 33)) := (Below.refl _ _).alloc (by have := bV.size; omega) _
              have bS2 : Below V1.heap.size V1 (V1.alloc (Obj.cells #[.int .i64 0, .slice none 0 0, .slice none 0 0, .int .i64 0] 33)) := (Below.refl _ _).alloc (Nat.le_refl _) _
              have kA := Bk.new V1 #[.int .i64 0, .slice none 0 0, .slice none 0 0, .int .i64 0] 33
              have hbA : w9.heap.size ≤ V1.heap.size := bV.size
              replace bV := bV.trans bS
              have hA := keepA bS hHeld.1
              replace xM := (xM.below bS2).lt
              refine hK.out _ _ ⟨hA, trivial⟩ (fun hNew => ?_)
              clear hK K hHeld bS bS2 hA
              have hHeld := hNew
              clear hNew
              try simp only [Act.put, List.setIfInBounds_toArray, List.set_cons_zero, List.set_cons_succ]
              obtain ⟨bA, hbAe⟩ : ∃ bA, bA = V1.heap.size := ⟨_, rfl⟩
              obtain ⟨V2, hV2⟩ : ∃ V', V' = V1.alloc (Obj.cells #[.int .i64 0, .slice none 0 0, .slice none 0 0, .int .i64 0] 33) := ⟨_, rfl⟩
              rw [← hbAe] at hbA kA ⊢
              rw [← hV2] at kA bV hHeld xM ⊢
              clear hV2 hbAe
              refine wpAnyF_ready (rs := [4]) (by kernel_rfl) (by simp) ?_
              refine AllReadyF.cons (by (simp only [List.getElem?_toArray, List.getElem?_cons_succ, List.getElem?_cons_zero]; rfl)) (fun K hK => ?_) AllReadyF.nil
              go_simp
              go_at_call 40
              refine (TP.out _).mono ?_
              rintro e V3 ⟨rfl, bM⟩
              replace kA := kA.kept bM
              replace xM := (xM.below bM).lt
              have bS : Below w9.heap.size V2 V3 := bM.mono bV.size
              replace bV := bV.trans bS
              have hA := keepA bS hHeld.1
              refine hK.out _ _ ⟨hA, trivial⟩ (fun hNew => ?_)
              clear hK K hHeld bS bM hA
              have hHeld := hNew
              clear hNew
              try simp only [Act.put, List.setIfInBounds_toArray, List.set_cons_zero, List.set_cons_succ]
              refine wpAnyF_ready (rs := [5]) (by kernel_rfl) (by simp) ?_
              refine AllReadyF.cons (by (simp only [List.getElem?_toArray, List.getElem?_cons_succ, List.getElem?_cons_zero]; rfl)) (fun K hK => ?_) AllReadyF.nil
              go_simp
              go_at_call 15
              refine (IM.out _ _ _ _ _ xM).mono ?_
              rintro e V4 ⟨AD, cD, ApD, cpD, usD, rfl, oD, bM⟩
              have apD : ∀ u ∈ (.slice AD m'.cs.length cD :: .slice ApD m'.mem.length cpD :: usD : List Value), u.ownBlock ≠ some bA := fun u hu e => by have := (oD.boundAll u hu _ e).1; have := kA.lt; omega
              replace oD := oD.mono (b' := w9.heap.size) bV.size
              replace kA := kA.kept bM
              replace xM := (xM.below bM).lt
              have bS : Below w9.heap.size V3 V4 := bM.mono bV.size
              replace bV := bV.trans bS
              have hA := keepA bS hHeld.1
              refine hK.out _ _ ⟨hA, trivial⟩ (fun hNew => ?_)
              clear hK K hHeld bS bM hA
              have hHeld := hNew
              clear hNew
              try simp only [Act.put, List.setIfInBounds_toArray, List.set_cons_zero, List.set_cons_succ]
              refine wpAnyF_ready (rs := [7]) (by kernel_rfl) (by simp) ?_
              refine AllReadyF.cons (by (simp only [List.getElem?_toArray, List.getElem?_cons_succ, List.getElem?_cons_zero]; rfl)) (fun K hK => ?_) AllReadyF.nil
              have z0 := (kA.cell 0).trans (rfl : _ = some (Value.int .i64 0))
              have z1 := (kA.cell 1).trans (rfl : _ = some (Value.slice none 0 0))
              have z2 := (kA.cell 2).trans (rfl : _ = some (Value.slice none 0 0))
              have z3 := (kA.cell 3).trans (rfl : _ = some (Value.int .i64 0))
              have f0 := kA.frozen 0
              have f1 := kA.frozen 1
              have f2 := kA.frozen 2
              have f3 := kA.frozen 3
              go_simp
              clear z0 z1 z2 z3 f0 f1 f2 f3
              replace kA := (((kA.set_ 0 (.int .i64 a)).set_ 1 (.slice AD m'.cs.length cD)).set_ 2 (.slice ApD m'.mem.length cpD)).set_ 3 (.int .i64 v)
              simp only [List.setIfInBounds_toArray, List.set_cons_zero, List.set_cons_succ] at kA
              have gB : But (fun x => x = bA) V4 ((((V4.setCell ⟨bA, 0, none⟩ (.int .i64 a)).setCell ⟨bA, 1, none⟩ (.slice AD m'.cs.length cD)).setCell ⟨bA, 2, none⟩ (.slice ApD m'.mem.length cpD)).setCell ⟨bA, 3, none⟩ (.int .i64 v)) := ((((But.refl (fun x => x = bA) V4).set_ rfl 0 _).set_ rfl 1 _).set_ rfl 2 _).set_ rfl 3 _
              replace oD := oD.but gB (fun u hu b e1 e2 => apD u hu (by rw [e1, e2]))
              have bS : Below w9.heap.size V4 _ := gB.below (by have := bV.size; omega) (fun x e1 => by omega)
              replace bV := bV.trans bS
              have hA := keepA bS hHeld.1
              refine hK.out _ _ ⟨hA, trivial⟩ (fun hNew => ?_)
              clear hK K hHeld gB bS hA
              have hHeld := hNew
              clear hNew
              try simp only [Act.put, List.setIfInBounds_toArray, List.set_cons_zero, List.set_cons_succ]
              refine wpAnyF_done (by kernel_rfl) ?_ _
              go_wp2_with fail
              go_meet
              exact ⟨_, _, _, _, _, _, rfl, hbA, kA, oD, apD, bV⟩
            refine AllReadyF.cons (by (simp only [List.getElem?_toArray, List.getElem?_cons_succ, List.getElem?_cons_zero]; rfl)) (fun K hK => ?_) AllReadyF.nil
            go_simp
            have bS : Below w9.heap.size V (V.alloc (Obj.cells #[.int .i64 0, .slice none 0 0, .slice none 0 0, .int .i64 0] 33)) := (Below.refl _ _).alloc (by have := bV.size; omega) _
            have bS2 : Below V.heap.size V (V.alloc (Obj.cells #[.int .i64 0, .slice none 0 0, .slice none 0 0, .int .i64 0] 33)) := (Below.refl _ _).alloc (Nat.le_refl _) _
            have kA := Bk.new V #[.int .i64 0, .slice none 0 0, .slice none 0 0, .int .i64 0] 33
            have hbA : w9.heap.size ≤ V.heap.size := bV.size
            replace bV := bV.trans bS
            have hA := keepA bS hHeld.1
            refine hK.out _ _ ⟨hA, trivial⟩ (fun hNew => ?_)
            clear hK K hHeld bS bS2 hA
            have hHeld := hNew
            clear hNew
            try simp only [Act.put, List.setIfInBounds_toArray, List.set_cons_zero, List.set_cons_succ]
            obtain ⟨bA, hbAe⟩ : ∃ bA, bA = V.heap.size := ⟨_, rfl⟩
            obtain ⟨V1, hV1⟩ : ∃ V', V' = V.alloc (Obj.cells #[.int .i64 0, .slice none 0 0, .slice none 0 0, .int .i64 0] 33) := ⟨_, rfl⟩
            rw [← hbAe] at hbA kA ⊢
            rw [← hV1] at kA bV hHeld ⊢
            clear hV1 hbAe
            refine wpAnyF_ready (rs := [1]) (by kernel_rfl) (by simp) ?_
            refine AllReadyF.cons (by (simp only [List.getElem?_toArray, List.getElem?_cons_succ, List.getElem?_cons_zero]; rfl)) (fun K hK => ?_) AllReadyF.nil
            go_simp
            go_at_call 45
            refine (TO.out _ ((R.below (bV.mono (by omega))).more (by have := bV.size; omega))).mono ?_
            rintro e V2 ⟨gM, gMp, usM, rfl, oM, bM⟩
            have xM := oM.rd
            clear oM
            replace kA := kA.kept bM
            have bS : Below w9.heap.size V1 V2 := bM.mono bV.size
            replace bV := bV.trans bS
            have hA := keepA bS hHeld.1
            refine hK.out _ _ ⟨hA, trivial⟩ (fun hNew => ?_)
            clear hK K hHeld bS bM hA
            have hHeld := hNew
            clear hNew
            try simp only [Act.put, List.setIfInBounds_toArray, List.set_cons_zero, List.set_cons_succ]
            refine wpAnyF_ready (rs := [4]) (by kernel_rfl) (by simp) ?_
            refine AllReadyF.cons (by (simp only [List.getElem?_toArray, List.getElem?_cons_succ, List.getElem?_cons_zero]; rfl)) (fun K hK => ?_) AllReadyF.nil
            go_simp
            go_at_call 40
            refine (TP.out _).mono ?_
            rintro e V3 ⟨rfl, bM⟩
            replace kA := kA.kept bM
            replace xM := (xM.below bM).lt
            have bS : Below w9.heap.size V2 V3 := bM.mono bV.size
            replace bV := bV.trans bS
            have hA := keepA bS hHeld.1
            refine hK.out _ _ ⟨hA, trivial⟩ (fun hNew => ?_)
            clear hK K hHeld bS bM hA
            have hHeld := hNew
            clear hNew
            try simp only [Act.put, List.setIfInBounds_toArray, List.set_cons_zero, List.set_cons_succ]
            refine wpAnyF_ready (rs := [5]) (by kernel_rfl) (by simp) ?_
            refine AllReadyF.cons (by (simp only [List.getElem?_toArray, List.getElem?_cons_succ, List.getElem?_cons_zero]; rfl)) (fun K hK => ?_) AllReadyF.nil
            go_simp
            go_at_call 15
            refine (IM.out _ _ _ _ _ xM).mono ?_
            rintro e V4 ⟨AD, cD, ApD, cpD, usD, rfl, oD, bM⟩
            have apD : ∀ u ∈ (.slice AD m'.cs.length cD :: .slice ApD m'.mem.length cpD :: usD : List Value), u.ownBlock ≠ some bA := fun u hu e => by have := (oD.boundAll u hu _ e).1; have := kA.lt; omega
            replace oD := oD.mono (b' := w9.heap.size) bV.size
            replace kA := kA.kept bM
            replace xM := (xM.below bM).lt
            have bS : Below w9.heap.size V3 V4 := bM.mono bV.size
            replace bV := bV.trans bS
            have hA := keepA bS hHeld.1
            refine hK.out _ _ ⟨hA, trivial⟩ (fun hNew => ?_)
            clear hK K hHeld bS bM hA
            have hHeld := hNew
            clear hNew
            try simp only [Act.put, List.setIfInBounds_toArray, List.set_cons_zero, List.set_cons_succ]
            refine wpAnyF_ready (rs := [7]) (by kernel_rfl) (by simp) ?_
            refine AllReadyF.cons (by (simp only [List.getElem?_toArray, List.getElem?_cons_succ, List.getElem?_cons_zero]; rfl)) (fun K hK => ?_) AllReadyF.nil
            have z0 := (kA.cell 0).trans (rfl : _ = some (Value.int .i64 0))
            have z1 := (kA.cell 1).trans (rfl : _ = some (Value.slice none 0 0))
            have z2 := (kA.cell 2).trans (rfl : _ = some (Value.slice none 0 0))
            have z3 := (kA.cell 3).trans (rfl : _ = some (Value.int .i64 0))
            have f0 := kA.frozen 0
            have f1 := kA.frozen 1
            have f2 := kA.frozen 2
            have f3 := kA.frozen 3
            go_simp
            clear z0 z1 z2 z3 f0 f1 f2 f3
            replace kA := (((kA.set_ 0 (.int .i64 a)).set_ 1 (.slice AD m'.cs.length cD)).set_ 2 (.slice ApD m'.mem.length cpD)).set_ 3 (.int .i64 v)
            simp only [List.setIfInBounds_toArray, List.set_cons_zero, List.set_cons_succ] at kA
            have gB : But (fun x => x = bA) V4 ((((V4.setCell ⟨bA, 0, none⟩ (.int .i64 a)).setCell ⟨bA, 1, none⟩ (.slice AD m'.cs.length cD)).setCell ⟨bA, 2, none⟩ (.slice ApD m'.mem.length cpD)).setCell ⟨bA, 3, none⟩ (.int .i64 v)) := ((((But.refl (fun x => x = bA) V4).set_ rfl 0 _).set_ rfl 1 _).set_ rfl 2 _).set_ rfl 3 _
            replace oD := oD.but gB (fun u hu b e1 e2 => apD u hu (by rw [e1, e2]))
            have bS : Below w9.heap.size V4 _ := gB.below (by have := bV.size; omega) (fun x e1 => by omega)
            replace bV := bV.trans bS
            have hA := keepA bS hHeld.1
            refine hK.out _ _ ⟨hA, trivial⟩ (fun hNew => ?_)
            clear hK K hHeld gB bS hA
            have hHeld := hNew
            clear hNew
            try simp only [Act.put, List.setIfInBounds_toArray, List.set_cons_zero, List.set_cons_succ]
            refine wpAnyF_done (by kernel_rfl) ?_ _
            go_wp2_with fail
            go_meet
            exact ⟨_, _, _, _, _, _, rfl, hbA, kA, oD, apD, bV⟩
          case rest =>
            obtain ⟨b2, A2, c2, A2p, c2p, us2, rfl, hb2, k2, o2, ap2, C_⟩ := hcut
            clear q0_0 q0_1 q1_0 q1_1 q1_2
            have z_10 := Below.size C_
            replace K := K.kept C_
            replace O := O.kept C_
            replace B := B.trans (C_.mono B.size)
            replace R := R.below (C_.mono (by omega))
            replace k0 := k0.kept C_
            replace r0 := r0.below (C_.mono (by omega))
            replace k1 := k1.kept C_
            replace r1 := (r1.below C_).lt
            clear C_
            have r2 := o2.rd
            clear o2 ap2
            have q0_0 := (k2.cell 0).trans (rfl : _ = some (Value.int .i64 a))
            have q0_1 := (k2.cell 1).trans (rfl : _ = some (Value.slice A2 m'.cs.length c2))
            have q0_2 := (k2.cell 2).trans (rfl : _ = some (Value.slice A2p m'.mem.length c2p))
            have q0_3 := (k2.cell 3).trans (rfl : _ = some (Value.int .i64 v))
            have q1_0 := (k0.cell 0).trans (rfl : _ = some (Value.int .i64 a))
            have q1_1 := (k0.cell 1).trans (rfl : _ = some (Value.slice A0 m'.cs.length c0))
            have q1_2 := (k0.cell 2).trans (rfl : _ = some (Value.slice A0p m'.mem.length c0p))
            have q1_3 := (k0.cell 3).trans (rfl : _ = some (Value.int .i64 v))
            go_wp2_with fail
            refine (eqMachineResult_same a v m' _ _ _ _ _ _ _ _ _ h1 h2 r2 (r0.more (by omega))).mono ?_
            rintro e w11 ⟨rfl, b_11⟩
            clear q0_0 q0_1 q0_2 q0_3 q1_0 q1_1 q1_2 q1_3
            have z_11 := Below.size b_11
            replace K := K.kept b_11
            replace O := O.kept b_11
            replace B := B.trans (b_11.mono B.size)
            replace R := R.below (b_11.mono (by omega))
            replace k0 := k0.kept b_11
            replace r0 := r0.below (b_11.mono (by omega))
            replace k1 := k1.kept b_11
            replace r1 := (r1.below b_11).lt
            replace k2 := k2.kept b_11
            replace r2 := (r2.below b_11).lt
            clear b_11
            have q0_0 := (k1.cell 0).trans (rfl : _ = some (Value.int .i64 a))
            have q0_1 := (k1.cell 1).trans (rfl : _ = some (Value.slice A1 m'.cs.length c1))
            have q0_2 := (k1.cell 2).trans (rfl : _ = some (Value.slice A1p m'.mem.length c1p))
            have q0_3 := (k1.cell 3).trans (rfl : _ = some (Value.int .i64 v))
            go_wp2_with fail
            refine (heldMachineResult_marked _ 1 a v m' A1 A1p c1 c1p w11 hend ht (Nat.le_refl _) r1).mono ?_
            rintro e w12 ⟨rfl, b_12⟩
            clear q0_0 q0_1 q0_2 q0_3
            have z_12 := Below.size b_12
            replace K := K.kept b_12
            replace O := O.kept b_12
            replace B := B.trans (b_12.mono B.size)
            replace R := R.below (b_12.mono (by omega))
            replace k0 := k0.kept b_12
            replace r0 := r0.below (b_12.mono (by omega))
            replace k1 := k1.kept b_12
            replace r1 := (r1.below b_12).lt
            replace k2 := k2.kept b_12
            replace r2 := (r2.below b_12).lt
            clear b_12
            go_wp2
            go_ret
            exact ⟨rfl, B⟩
  · go_enter Try.func9, Try.ntmps9
    go_wp2_with fail
    rw [← HW.out]
    refine (szMachine_not m A A' c c' 1048576 _ (by omega) (Nat.le_refl _) hc hm (h.below B).lt).mono ?_
    rintro e w1 ⟨rfl, b1⟩
    go_wp2
    go_ret
    exact ⟨rfl, B.trans (b1.mono B.size)⟩
end Go.Proofs.Ytifijhfeeammkaa
