/- What the laws' walks rest upon, part 33. -/
import Derived.Test.YtnnfkmjhaljplaaGreatM29
import Derived.Test.YtnnfkmjhaljplaaGreatM04
import Derived.Test.YtnnfkmjhaljplaaGreatM24
import Derived.StillTailTactics
import Derived.Test.YtnnfkmjhaljplaaGreatM02
import Derived.Test.YtnnfkmjhaljplaaGreatM23
import Derived.Test.YtnnfkmjhaljplaaGreatM09
import Derived.Test.YtnnfkmjhaljplaaGreatM25
import Derived.Test.YtnnfkmjhaljplaaGreatM27
import Derived.Test.YtnnfkmjhaljplaaGreatM22
import Derived.Test.YtnnfkmjhaljplaaGreatM31
import Derived.Test.YtnnfkmjhaljplaaGreatM32
namespace Go.Proofs.YtnnfkmjhaljplaaGreat
open Go.RowKit


theorem RdV.two_new (w : World) (p q : Value) (T : TypeId) : RdV (w.alloc (.cells #[p, q] T)) (w.heap.size + 1) (some ⟨w.heap.size, 0, none⟩) [p, q] := fun _ =>
  ⟨w.heap.size, 0, rfl, Nat.lt_succ_self _, fun i hi => by
    rw [Nat.zero_add, (Bk.new w #[p, q] T).cell i]
    simp only [List.getElem?_toArray]
    exact List.getElem?_eq_getElem hi⟩
theorem OwnW.get {w : World} {base : Nat} {A : Option Addr} {n c : Nat} {os : List Wls} {us : List Value} (h : OwnW w base (.slice A n c) os us) {i : Nat} (hi : i < os.length) : ∃ gv ai di, A = some ⟨gv, 0, none⟩ ∧ us[i]? = some (.slice ai os[i].ids.length di) ∧ w.cell? ⟨gv, i * 2, none⟩ = some (.int .i64 os[i].a) ∧ w.cell? ⟨gv, i * 2 + 1, none⟩ = some (.slice ai os[i].ids.length di) ∧ w.ownsRow base 145 2 (.slice ai os[i].ids.length di) os[i].ids.length (cels (wids os[i].ids)) := by
  obtain rfl := h.n_eq
  obtain ⟨gv, rfl⟩ : ∃ g, A = some ⟨g, 0, none⟩ := by
    rcases h.row.2 with ⟨h', h''⟩ | ⟨g, cap, cur, h', _⟩
    · omega
    · simp only [Value.slice.injEq] at h'
      exact ⟨g, h'.1⟩
  obtain ⟨u, hui, hru⟩ := h.rows i hi
  obtain ⟨ai, di, hu⟩ := own_shape hru
  subst hu
  have hwl := wlR_length h.len
  obtain ⟨g0, g1⟩ := wlR_get h.len i hi
  exact ⟨gv, ai, di, rfl, hui, by rw [h.row.cellAt (i * 2) (by omega), g0], by rw [h.row.cellAt (i * 2 + 1) (by omega), g1]; exact hui, hru⟩
end Go.Proofs.YtnnfkmjhaljplaaGreat
namespace Go.Proofs.YtnnfkmjhaljplaaGreat
open Go.RowKit
def odL (ss : List Stp) (n : Int) : List Wls := if logF ss n = 0 then ordW ss else []
theorem odL_ok {ss : List Stp} {n : Int} (h : logF ss n = 0) : odL ss n = ordW ss := if_pos h
theorem odL_bad {ss : List Stp} {n : Int} (h : ¬ logF ss n = 0) : odL ss n = [] := if_neg h
/-- What OrdersOf tells. -/
def OdPost (ss : List Stp) (n : Int) (w : World) (e : Ending) (w' : World) : Prop :=
  ∃ A c us, e = .returned (.agg #[.int .i64 (logF ss n), .slice A (odL ss n).length c]) ∧ OwnW w' w.heap.size (.slice A (odL ss n).length c) (odL ss n) us ∧ Below w.heap.size w w'
set_option maxRecDepth 100000 in
set_option maxHeartbeats 1600000 in
theorem implOd_any (ss : List Stp) (n : Int) (A : Option Addr) (c : Nat) (w : World) (hm : ss.length ≤ maxLen) (h : RdP w w.heap.size A ss) :
    Calls Tryz.prog 12 #[.slice A ss.length c, .int .i64 n] w (OdPost ss n w) := by
  unfold OdPost
  obtain ⟨W, hW⟩ : ∃ W, W = w.alloc (Obj.cells #[Value.int .i64 0, .slice none 0 0] 45) := ⟨_, rfl⟩
  have HW := hide hW
  have hR : RdP W W.heap.size A ss := by subst hW; exact (h.alloc (Nat.le_refl _) _).lt
  clear hW h
  have LF := hide (implLogF_any ss n A c W hm hR)
  by_cases h0 : logF ss n = 0
  · rw [odL_ok h0]
    rw [h0] at LF ⊢
    obtain ⟨hn, hl, hG, _⟩ := logF_zero h0
    have HA := hide (logG_all hG)
    obtain ⟨N, rfl⟩ := Int.eq_ofNat_of_zero_le (show 0 ≤ n by omega)
    have hN4 : N ≤ 4 := by omega
    have SX := hide (fun V (hR' : RdP V V.heap.size A ss) => ordersOf_any ss A c V hl (fun s hs => by have := (HA.out s hs).1; omega) hR')
    clear h0 hn hG
    go_enter Tryz.func12, Tryz.ntmps12
    go_wp2_with fail
    rw [← HW.out]
    refine LF.out.mono ?_
    rintro e w1 ⟨rfl, b1⟩
    have hR1 := (hR.below b1).lt
    have z1 := b1.size
    clear LF
    go_wp2_with fail
    refine (SX.out w1 hR1).mono ?_
    rintro e wr ⟨v, us, rfl, ho, b2⟩
    obtain ⟨O, hO⟩ : ∃ O, O = ordW ss := ⟨_, rfl⟩
    rw [← hO] at ho
    have HOO := hide hO
    clear hO
    obtain ⟨Av, cv, hv⟩ := own_shape ho.row
    subst hv
    have hb := b1.trans (b2.mono z1)
    have q0 := W_cell HW.out hb 0
    have q1 := W_cell HW.out hb 1
    have f0 := W_frozen HW.out hb 0
    have f1 := W_frozen HW.out hb 1
    simp at q0 q1
    have hzz := W_size HW.out
    have O1 := hide (show OwnW ((wr.setCell ⟨w.heap.size, 0, none⟩ (.int .i64 0)).setCell ⟨w.heap.size, 1, none⟩ (.slice Av O.length cv)) w1.heap.size (.slice Av O.length cv) O us from (ho.kept (grown_set wr w.heap.size 0 (.int .i64 0)) (fun b e => by cases e; omega)).kept (grown_set _ w.heap.size 1 _) (fun b e => by cases e; omega))
    clear ho b2
    have HZ := hide hzz
    clear hzz
    go_wp2
    refine bodyPost_ret (v := .agg #[.int .i64 0, .slice Av O.length cv]) (by simp [results, Tryz.results12, go_sem, q0, q1]) rfl ?_
    have e := HOO.out
    subst e
    exact ⟨Av, cv, us, rfl, O1.out.mono (by have := HZ.out; omega), ((W_below HW.out hb).setCell (Nat.le_refl _) _).setCell (Nat.le_refl _) _⟩
  · rw [odL_bad h0]
    obtain ⟨F, hF⟩ : ∃ F, F = logF ss n := ⟨_, rfl⟩
    rw [← hF] at LF h0 ⊢
    have g0 : (F != 0) = true := bne_iff_ne.2 h0
    have g1 : (F == 0) = false := beq_eq_false_iff_ne.2 h0
    clear hF h0
    go_enter Tryz.func12, Tryz.ntmps12
    go_wp2_with fail
    rw [← HW.out]
    refine LF.out.mono ?_
    rintro e w1 ⟨rfl, hb⟩
    have q0 := W_cell HW.out hb 0
    have q1 := W_cell HW.out hb 1
    have f0 := W_frozen HW.out hb 0
    have f1 := W_frozen HW.out hb 1
    simp at q0 q1
    go_wp2
    refine bodyPost_ret (v := .agg #[.int .i64 F, .slice none 0 0]) (by simp [results, Tryz.results12, go_sem, q0, q1]) rfl ?_
    exact ⟨none, 0, [], rfl, OwnW.nil_ _ _, ((W_below HW.out hb).setCell (Nat.le_refl _) _).setCell (Nat.le_refl _) _⟩
end Go.Proofs.YtnnfkmjhaljplaaGreat
namespace Go.Proofs.YtnnfkmjhaljplaaGreat
open Go.RowKit
theorem lwBig_no (l : List Int) (A : Option Addr) (c : Nat) (w : World) (hl : l.length ≤ 1048576) :
    Calls Tryz.prog 4 #[.slice A l.length c] w fun e w' => e = .returned (.bool false) ∧ w = w' := by
  go_enter Tryz.func4, Tryz.ntmps4
  go_wp2
  go_ret
  exact ⟨ret_bool (by simp; omega), rfl⟩
theorem lwBig_yes (l : List Int) (A : Option Addr) (c : Nat) (w : World) (hl : ¬ l.length ≤ 1048576) (hm : l.length ≤ maxLen) :
    Calls Tryz.prog 4 #[.slice A l.length c] w fun e w' => e = .returned (.bool true) ∧ w = w' := by
  unfold maxLen at hm
  go_enter Tryz.func4, Tryz.ntmps4
  go_wp2
  go_ret
  exact ⟨ret_bool (by simp; omega), rfl⟩
end Go.Proofs.YtnnfkmjhaljplaaGreat
namespace Go.Proofs.YtnnfkmjhaljplaaGreat
open Go.RowKit
theorem field_siC (C : Int) (B0 : Option Addr) (n0 k0 : Nat) (A0 : Option Addr) (n1 k1 : Nat) (A1 : Option Addr) (n2 k2 : Nat) (W : World) : (Instr.field 37 (siV C B0 n0 k0 A0 n1 k1 A1 n2 k2) 0).run Tryz.prog W = .ok (.int .i64 C) W := by kernel_rfl
theorem field_lgT (a : Int) (D : Option Addr) (n d : Nat) (W : World) : (Instr.field 41 (.agg #[.int .i64 a, .slice D n d]) 1).run Tryz.prog W = .ok (.slice D n d) W := by kernel_rfl
theorem field_lgO (a : Int) (D : Option Addr) (n d : Nat) (W : World) : (Instr.field 45 (.agg #[.int .i64 a, .slice D n d]) 1).run Tryz.prog W = .ok (.slice D n d) W := by kernel_rfl
theorem field_lgP (a : Int) (D : Option Addr) (n d : Nat) (W : World) : (Instr.field 49 (.agg #[.int .i64 a, .slice D n d]) 1).run Tryz.prog W = .ok (.slice D n d) W := by kernel_rfl
theorem field_lgC (a : Int) (b : Bool) (D : Option Addr) (n d : Nat) (W : World) : (Instr.field 52 (.agg #[.int .i64 a, .bool b, .slice D n d]) 1).run Tryz.prog W = .ok (.bool b) W := by kernel_rfl
open Classical in
theorem witB_yes {t : List (List Ev)} {os : List Wls} {l : List Int} (h : witP t os l) : witB t os l = true := by
  unfold witB
  exact decide_eq_true h
theorem simR_clen (t : List (List Ev)) (L : Int) (picks : List Int) : (simR t L picks).2.1.length ≤ maxLen := by
  unfold maxLen
  by_cases h : simC t L picks = 0
  · rw [simR_ok h]
    obtain ⟨hg, hL, hk⟩ := simC_zero h
    obtain ⟨_, _, _, hF⟩ := sim_ok (picks := picks) hg hL
    have := (logF_zero hF).2.1
    show (simL t L picks).1.length ≤ _
    omega
  · rw [simR_no h]; simp
set_option maxRecDepth 100000 in
set_option maxHeartbeats 6400000 in
theorem FnFlats_walk (l : List Int) (A : Option Addr) (c : Nat) (w : World) (hl : l.length ≤ maxLen) (h : Rd .u8 w w.heap.size A l) (b8 : B8 l) :
    Calls Tryz.prog 3 #[.slice A l.length c] w fun e w' => e = .returned (.bool true) ∧ Below w.heap.size w w' := by
  by_cases hL : l.length ≤ 1048576
  · clear hl
    go_enter Tryz.func3, Tryz.ntmps3
    go_wp2_with fail
    refine (lwBig_no l A c w hL).mono ?_
    rintro e w0 ⟨rfl, rfl⟩
    go_wp2_with fail
    refine (DrawIsFlat_any l A c w hL h b8).mono ?_
    rintro e w1 ⟨ss, D1, d1, n, rfl, hss, r1, B⟩
    have R := h.below B
    have zB := B.size
    clear h
    have lt : ss.length ≤ maxLen := by unfold maxLen; omega
    obtain ⟨F, hF⟩ : ∃ x, x = flatB ss n := ⟨_, rfl⟩
    have IF := hide (fun W hW => implFlat_any ss n D1 d1 W lt hW)
    have SF := hide (fun W hW => specFlat_any ss n D1 d1 W lt hW)
    rw [← hF] at IF SF
    have HF := hide hF
    clear hF
    have IS := hide (fun W hW => implSp_any ss n D1 d1 W lt hW)
    have IO := hide (fun W hW => implOd_any ss n D1 d1 W lt hW)
    have IP := hide (fun W hW => implPk_any ss n D1 d1 W lt hW)
    unfold SlPost at IS
    unfold OdPost at IO
    unfold PkPost at IP
    go_wp2_with fail
    refine (IF.out _ r1).mono ?_
    rintro e w2 ⟨rfl, b2⟩
    have z_1 := Below.size b2
    replace r1 := (r1.below b2).lt
    replace R := R.below (b2.mono (by omega))
    replace B := B.trans (b2.mono B.size)
    clear b2
    go_wp2_with fail
    refine (DrawSimulate_any l A c _ hL (R.more (by omega)) b8).mono ?_
    rintro e w3 ⟨t, D, d, x, ps, Dp, dp, rfl, ht, hps, hpI, rT, rP, b3⟩
    have z_2 := Below.size b3
    replace r1 := (r1.below b3).lt
    replace R := R.below (b3.mono (by omega))
    replace B := B.trans (b3.mono B.size)
    clear b3
    clear R
    have lt2 : t.length ≤ maxLen := by unfold maxLen; omega
    have lt3 : ps.length ≤ maxLen := by unfold maxLen; omega
    have hfl := sim_flat (t := t) (L := x) (picks := ps)
    have HIM := hide (fun W h h' => implSim_any t x ps D Dp d dp W lt2 lt3 hpI h h')
    have HSM := hide (fun W h h' => specSim_any t x ps D Dp d dp W lt2 lt3 h h')
    have hcl := simR_clen t x ps
    unfold SimPost at HIM HSM
    obtain ⟨C, SL, SM, hC⟩ : ∃ C S M, simR t x ps = (C, S, M) := ⟨_, _, _, rfl⟩
    rw [hC] at HIM HSM hfl hcl
    dsimp only at HIM HSM hfl hcl
    have HFL := hide hfl
    clear hC hfl hpI
    go_wp2_with fail
    refine (HIM.out _ rT rP).mono ?_
    rintro e w4 ⟨Bl, cb, Al, cl, Am, cm, us, rfl, oL, _, _, b4⟩
    have z_3 := Below.size b4
    replace r1 := (r1.below b4).lt
    replace B := B.trans (b4.mono B.size)
    replace rT := (rT.below b4).lt
    replace rP := (rP.below b4).lt
    clear b4
    have rL := RdP.of_own oL
    clear oL HIM
    have e_ := (Below.refl w4.heap.size w4).alloc (Nat.le_refl _) (Obj.cells #[Value.int .i64 C, .slice Bl SL.length cb, .slice Al SM.cs.length cl, .slice Am SM.mem.length cm] 37)
    have zz_3 : (w4.alloc (Obj.cells #[Value.int .i64 C, .slice Bl SL.length cb, .slice Al SM.cs.length cl, .slice Am SM.mem.length cm] 37)).heap.size = w4.heap.size + 1 := by simp
    have z_4 := Below.size e_
    replace r1 := (r1.below e_).lt
    replace B := B.trans (e_.mono B.size)
    replace rT := (rT.below e_).lt
    replace rP := (rP.below e_).lt
    replace rL := (rL.below e_).lt
    clear e_
    have k5 := Bk.new w4 #[Value.int .i64 C, .slice Bl SL.length cb, .slice Al SM.cs.length cl, .slice Am SM.mem.length cm] 37
    obtain ⟨w5, hw5⟩ : ∃ W, W = w4.alloc (Obj.cells #[Value.int .i64 C, .slice Bl SL.length cb, .slice Al SM.cs.length cl, .slice Am SM.mem.length cm] 37) := ⟨_, rfl⟩
    rw [← hw5] at r1 B rT rP rL k5
    have HW5 := hide hw5
    clear hw5
    go_upto_region 7 with fail
    rw [← HW5.out]
    have c0 : w5.drew.cell? ⟨w4.heap.size, 0, none⟩ = some (.int .i64 C) := (k5.cell 0).trans rfl
    have bD : Below w5.heap.size w5 w5.drew := (Below.refl _ _).drew
    have hFF : (F != F) = false := by simp
    have hCC : (C != C) = false := by simp
    have hfi := fun B0 n0 k0 A0 n1 k1 A1 n2 k2 W => field_siC C B0 n0 k0 A0 n1 k1 A1 n2 k2 W
    refine wp_region_F 11 (fun w' => w'.cell? ⟨w4.heap.size, 0, none⟩ = some (.int .i64 C) ∧ Below w5.heap.size w5 w') (fun w' => True) (by kernel_rfl) ⟨⟨c0, bD⟩, trivial⟩ (fun hHeld => ?_)
    try simp only [Act.put, List.setIfInBounds_toArray, List.set_cons_zero, List.set_cons_succ]
    refine wpAnyF_take (i := 0) (v := ?_) (by (simp only [List.getElem?_toArray, List.getElem?_cons_zero]; rfl)) (by kernel_rfl) (by kernel_rfl) (by kernel_rfl) (by decide) (by exact fun _ _ _ h => h) ⟨hHeld.1, .inr hHeld.2⟩ (Or.inl ⟨by rfl, ?_⟩) ?_
    rotate_left
    · (intro w' _; go_simp <;> with_reducible rfl)
    try simp only [Act.put, List.setIfInBounds_toArray, List.set_cons_zero, List.set_cons_succ]
    refine wpAnyF_take (i := 1) (v := ?_) (by (simp only [List.getElem?_toArray, List.getElem?_cons_succ, List.getElem?_cons_zero]; rfl)) (by kernel_rfl) (by kernel_rfl) (by kernel_rfl) (by decide) (by exact fun _ _ _ h => h) ⟨hHeld.1, .inr hHeld.2⟩ (Or.inl ⟨by rfl, ?_⟩) ?_
    rotate_left
    · (intro w' _; go_simp <;> with_reducible rfl)
    try simp only [Act.put, List.setIfInBounds_toArray, List.set_cons_zero, List.set_cons_succ]
    refine wpAnyF_take (i := 2) (v := ?_) (by (simp only [List.getElem?_toArray, List.getElem?_cons_succ, List.getElem?_cons_zero]; rfl)) (by kernel_rfl) (by kernel_rfl) (by kernel_rfl) (by decide) (by exact fun _ _ _ h => h) ⟨hHeld.1, .inr hHeld.2⟩ (Or.inl ⟨by rfl, ?_⟩) ?_
    rotate_left
    · (intro w' _; go_simp <;> with_reducible rfl)
    try simp only [Act.put, List.setIfInBounds_toArray, List.set_cons_zero, List.set_cons_succ]
    refine wpAnyF_ready (rs := [3]) (by kernel_rfl) (by simp) ?_
    refine AllReadyF.cons (by (simp only [List.getElem?_toArray, List.getElem?_cons_succ, List.getElem?_cons_zero]; rfl)) (fun K hK => ?_) AllReadyF.nil
    go_simp
    go_at_call 9
    refine (SF.out _ (r1.below hHeld.1.2).lt).mono ?_
    rintro e wa ⟨rfl, ba⟩
    refine hK.out _ _ ⟨⟨cell_kept ba hHeld.1.1, hHeld.1.2.trans (ba.mono hHeld.1.2.size)⟩, trivial⟩ (fun hNew => ?_)
    clear hK K hHeld
    have hHeld := hNew
    clear hNew
    try simp only [Act.put, List.setIfInBounds_toArray, List.set_cons_zero, List.set_cons_succ]
    refine wpAnyF_take (i := 4) (v := ?_) (by (simp only [List.getElem?_toArray, List.getElem?_cons_succ, List.getElem?_cons_zero]; rfl)) (by kernel_rfl) (by kernel_rfl) (by kernel_rfl) (by decide) (by exact fun _ _ _ h => h) ⟨hHeld.1, .inr hHeld.2⟩ (Or.inl ⟨by rfl, ?_⟩) ?_
    rotate_left
    · (intro w' _; go_simp <;> with_reducible rfl)
    try simp only [Act.put, List.setIfInBounds_toArray, List.set_cons_zero, List.set_cons_succ]
    refine wpAnyF_take (i := 5) (v := ?_) (by (simp only [List.getElem?_toArray, List.getElem?_cons_succ, List.getElem?_cons_zero]; rfl)) (by kernel_rfl) (by kernel_rfl) (by kernel_rfl) (by decide) (by exact fun _ _ _ h => h) ⟨hHeld.1, .inr hHeld.2⟩ (Or.inl ⟨by rfl, ?_⟩) ?_
    rotate_left
    · (intro w' _; go_simp <;> with_reducible rfl)
    try simp only [Act.put, List.setIfInBounds_toArray, List.set_cons_zero, List.set_cons_succ]
    refine wpAnyF_take (i := 6) (v := ?_) (by (simp only [List.getElem?_toArray, List.getElem?_cons_succ, List.getElem?_cons_zero]; rfl)) (by kernel_rfl) (by kernel_rfl) (by kernel_rfl) (by decide) (by exact fun _ _ _ h => h) ⟨hHeld.1, .inr hHeld.2⟩ (Or.inl ⟨by rfl, ?_⟩) ?_
    rotate_left
    · (intro w' _; go_simp <;> with_reducible rfl)
    try simp only [Act.put, List.setIfInBounds_toArray, List.set_cons_zero, List.set_cons_succ]
    refine wpAnyF_keep (i := 7) (v := ?_) (by (simp only [List.getElem?_toArray, List.getElem?_cons_succ, List.getElem?_cons_zero]; rfl)) (by kernel_rfl) (by kernel_rfl) (by kernel_rfl) (by decide) (by exact fun _ _ _ h => h) ⟨hHeld.1, .inr hHeld.2⟩ (Or.inl ⟨by rfl, ?_⟩) ?_
    rotate_left
    · (intro w' hSw; (try dsimp only at hSw); obtain ⟨hSa0, hSa1⟩ := hSw; go_simp <;> with_reducible rfl)
    try simp only [Act.put, List.setIfInBounds_toArray, List.set_cons_zero, List.set_cons_succ]
    refine wpAnyF_take (i := 8) (v := ?_) (by (simp only [List.getElem?_toArray, List.getElem?_cons_succ, List.getElem?_cons_zero]; rfl)) (by kernel_rfl) (by kernel_rfl) (by kernel_rfl) (by decide) (by exact fun _ _ _ h => h) ⟨hHeld.1, .inr hHeld.2⟩ (Or.inl ⟨by rfl, ?_⟩) ?_
    rotate_left
    · (intro w' _; go_simp <;> with_reducible rfl)
    try simp only [Act.put, List.setIfInBounds_toArray, List.set_cons_zero, List.set_cons_succ]
    refine wpAnyF_take (i := 9) (v := ?_) (by (simp only [List.getElem?_toArray, List.getElem?_cons_succ, List.getElem?_cons_zero]; rfl)) (by kernel_rfl) (by kernel_rfl) (by kernel_rfl) (by decide) (by exact fun _ _ _ h => h) ⟨hHeld.1, .inr hHeld.2⟩ (Or.inl ⟨by rfl, ?_⟩) ?_
    rotate_left
    · (intro w' _; go_simp <;> with_reducible rfl)
    try simp only [Act.put, List.setIfInBounds_toArray, List.set_cons_zero, List.set_cons_succ]
    refine wpAnyF_take (i := 10) (v := ?_) (by (simp only [List.getElem?_toArray, List.getElem?_cons_succ, List.getElem?_cons_zero]; rfl)) (by kernel_rfl) (by kernel_rfl) (by kernel_rfl) (by decide) (by exact fun _ _ _ h => h) ⟨hHeld.1, .inr hHeld.2⟩ (Or.inl ⟨by rfl, ?_⟩) ?_
    rotate_left
    · (intro w' _; go_simp <;> with_reducible rfl)
    try simp only [Act.put, List.setIfInBounds_toArray, List.set_cons_zero, List.set_cons_succ]
    refine wpAnyF_ready (rs := [11]) (by kernel_rfl) (by simp) ?_
    refine AllReadyF.last (by (simp only [List.getElem?_toArray, List.getElem?_cons_succ, List.getElem?_cons_zero]; rfl)) (by kernel_rfl) (fun K hK => ?_) AllReadyF.nil
    go_simp
    go_at_call 10
    refine (HSM.out _ (rT.below hHeld.1.2).lt (rP.below hHeld.1.2).lt).mono ?_
    rintro e wb ⟨Bl2, cb2, Al2, cl2, Am2, cm2, us2, rfl, _, _, _, bb⟩
    refine hK.out _ _ ⟨cell_kept bb hHeld.1.1, hHeld.1.2.trans (bb.mono hHeld.1.2.size)⟩ ?_
    clear hK K
    try simp only [Act.put, List.setIfInBounds_toArray, List.set_cons_zero, List.set_cons_succ]
    refine wpAnyF_take (i := 12) (v := ?_) (by (simp only [List.getElem?_toArray, List.getElem?_cons_succ, List.getElem?_cons_zero]; rfl)) (by kernel_rfl) (by kernel_rfl) (by kernel_rfl) (by decide) (by exact fun _ _ _ h => h) ⟨⟨cell_kept bb hHeld.1.1, hHeld.1.2.trans (bb.mono hHeld.1.2.size)⟩, .inl (by kernel_rfl)⟩ (Or.inl ⟨by rfl, ?_⟩) ?_
    rotate_left
    · (intro w' _; go_simp <;> with_reducible rfl)
    try simp only [Act.put, List.setIfInBounds_toArray, List.set_cons_zero, List.set_cons_succ]
    refine wpAnyF_take (i := 13) (v := ?_) (by (simp only [List.getElem?_toArray, List.getElem?_cons_succ, List.getElem?_cons_zero]; rfl)) (by kernel_rfl) (by kernel_rfl) (by kernel_rfl) (by decide) (by exact fun _ _ _ h => h) ⟨⟨cell_kept bb hHeld.1.1, hHeld.1.2.trans (bb.mono hHeld.1.2.size)⟩, .inl (by kernel_rfl)⟩ (Or.inl ⟨by rfl, ?_⟩) ?_
    rotate_left
    · (intro w' _; go_simp <;> with_reducible rfl)
    try simp only [Act.put, List.setIfInBounds_toArray, List.set_cons_zero, List.set_cons_succ]
    refine wpAnyF_take (i := 14) (v := ?_) (by (simp only [List.getElem?_toArray, List.getElem?_cons_succ, List.getElem?_cons_zero]; rfl)) (by kernel_rfl) (by kernel_rfl) (by kernel_rfl) (by decide) (by exact fun _ _ _ h => h) ⟨⟨cell_kept bb hHeld.1.1, hHeld.1.2.trans (bb.mono hHeld.1.2.size)⟩, .inl (by kernel_rfl)⟩ (Or.inl ⟨by rfl, ?_⟩) ?_
    rotate_left
    · (intro w' _; go_simp <;> with_reducible rfl)
    try simp only [Act.put, List.setIfInBounds_toArray, List.set_cons_zero, List.set_cons_succ]
    refine wpAnyF_done (by kernel_rfl) ?_ _
    have b9 := hHeld.1.2.trans (bb.mono hHeld.1.2.size)
    clear hHeld c0 bD SF HSM ba bb hFF hCC hfi
    clear rP
    have z_5 := Below.size b9
    replace r1 := (r1.below b9).lt
    replace B := B.trans (b9.mono B.size)
    replace rT := (rT.below b9).lt
    replace rL := (rL.below b9).lt
    replace k5 := k5.kept b9
    clear b9
    cases F
    · clear IS IO IP IF HF r1
      have c0 := (k5.cell 0).trans (rfl : _ = some (Value.int .i64 C))
      have c1 := (k5.cell 1).trans (rfl : _ = some (Value.slice Bl SL.length cb))
      by_cases hC0 : C = 0
      · have hFL := HFL.out hC0
        have u0 : (C != 0) = false := by rw [hC0]; rfl
        have IL := hide (implFlat_any SL (t.length : Int) Bl cb wb hcl rL)
        rw [hFL] at IL
        clear hFL hC0
        go_wp2_with fail
        refine IL.out.mono ?_
        rintro e wz ⟨rfl, bz⟩
        go_wp2
        go_ret
        exact ⟨rfl, B.trans (bz.mono B.size)⟩
      · have u0 : (C != 0) = true := bne_iff_ne.2 hC0
        clear hC0
        go_wp2
        go_ret
        exact ⟨rfl, B⟩
    · have hFB := flatB_true HF.out.symm
      have hz := hFB.1
      obtain ⟨hn, h32, _, _⟩ := logF_zero hz
      obtain ⟨N, rfl⟩ := Int.eq_ofNat_of_zero_le (show 0 ≤ n by omega)
      have hwit := flat_wit hz hFB.2
      have hw1 : witP (slT ss (N : Int)) (odL ss (N : Int)) (pkL ss (N : Int)) := by rw [sl_ok hz, odL_ok hz, pkL_ok hz, Int.toNat_natCast]; exact hwit
      have hTn : (slT ss (N : Int)).length ≤ 4 := by rw [sl_ok hz, Int.toNat_natCast, spT_length]; omega
      have hOn : (odL ss (N : Int)).length ≤ 32 := by rw [odL_ok hz]; have := (ordW_len ss).1; omega
      have hPn : (pkL ss (N : Int)).length ≤ 32 := by rw [pkL_ok hz, List.length_map]; exact h32
      obtain ⟨T, hT⟩ : ∃ x, x = slT ss (N : Int) := ⟨_, rfl⟩
      obtain ⟨O, hO⟩ : ∃ x, x = odL ss (N : Int) := ⟨_, rfl⟩
      obtain ⟨Pk, hP⟩ : ∃ x, x = pkL ss (N : Int) := ⟨_, rfl⟩
      rw [← hT] at IS hw1 hTn
      rw [← hO] at IO hw1 hOn
      rw [← hP] at IP hw1 hPn
      rw [hz] at IS IO IP
      have HWP := hide hw1
      clear hT hO hP hw1 hwit hFB hz hn h32 IF HF
      have f1 := fun D n d W => field_lgT 0 D n d W
      have f2 := fun D n d W => field_lgO 0 D n d W
      have f3 := fun D n d W => field_lgP 0 D n d W
      have f4 := fun a D n d W => field_lgC 0 a D n d W
      go_wp2_with fail
      refine (IS.out _ r1).mono ?_
      rintro e wh ⟨Ah, ch, uh, rfl, oh, bh⟩
      have z_51 := Below.size bh
      replace r1 := (r1.below bh).lt
      replace B := B.trans (bh.mono B.size)
      replace rT := (rT.below bh).lt
      replace rL := (rL.below bh).lt
      replace k5 := k5.kept bh
      clear bh
      have rh := oh.rd
      clear oh IS
      go_wp2_with fail
      refine (IO.out _ r1).mono ?_
      rintro e wi ⟨Ai, ci, ui, rfl, oi, bi⟩
      have z_52 := Below.size bi
      replace r1 := (r1.below bi).lt
      replace B := B.trans (bi.mono B.size)
      replace rT := (rT.below bi).lt
      replace rL := (rL.below bi).lt
      replace k5 := k5.kept bi
      replace rh := (rh.below bi).lt
      clear bi
      have ri := oi.rd
      clear oi IO
      go_wp2_with fail
      refine (IP.out _ r1).mono ?_
      rintro e wj ⟨Aj, cj, rfl, oj, bj⟩
      have z_53 := Below.size bj
      replace r1 := (r1.below bj).lt
      replace B := B.trans (bj.mono B.size)
      replace rT := (rT.below bj).lt
      replace rL := (rL.below bj).lt
      replace k5 := k5.kept bj
      replace rh := (rh.below bj).lt
      replace ri := (ri.below bj).lt
      clear bj
      have rj := Rd.of_own (k := .i64) oj
      clear oj IP
      clear r1
      have IW := hide (implWit_any T O Pk Ah Ai Aj ch ci cj wj (by unfold maxLen; omega) (by unfold maxLen; omega) (by unfold maxLen; omega) rh ri rj)
      rw [witB_yes HWP.out] at IW
      go_wp2_with fail
      refine (IW.out).mono ?_
      rintro e wk ⟨rfl, bk⟩
      have z_54 := Below.size bk
      replace B := B.trans (bk.mono B.size)
      replace rT := (rT.below bk).lt
      replace rL := (rL.below bk).lt
      replace k5 := k5.kept bk
      replace rh := (rh.below bk).lt
      replace ri := (ri.below bk).lt
      replace rj := (rj.below bk).lt
      clear bk
      clear rj
      obtain ⟨Wn, hck, _⟩ := wit_chk HWP.out
      have IC := hide (implChk_any T O Ah Ai ch ci wk (by unfold maxLen; omega) (by unfold maxLen; omega) rh ri)
      unfold ChkPost at IC
      rw [hck] at IC
      dsimp only at IC
      clear hck
      go_wp2_with fail
      refine (IC.out).mono ?_
      rintro e wl ⟨Al3, cl3, rfl, _, bl⟩
      have z_55 := Below.size bl
      replace B := B.trans (bl.mono B.size)
      replace rT := (rT.below bl).lt
      replace rL := (rL.below bl).lt
      replace k5 := k5.kept bl
      replace rh := (rh.below bl).lt
      replace ri := (ri.below bl).lt
      clear bl
      clear rh ri
      have c0 := (k5.cell 0).trans (rfl : _ = some (Value.int .i64 C))
      have c1 := (k5.cell 1).trans (rfl : _ = some (Value.slice Bl SL.length cb))
      by_cases hC0 : C = 0
      · have hFL := HFL.out hC0
        have u0 : (C != 0) = false := by rw [hC0]; rfl
        have IL := hide (implFlat_any SL (t.length : Int) Bl cb wl hcl rL)
        rw [hFL] at IL
        clear hFL hC0
        go_wp2_with fail
        refine IL.out.mono ?_
        rintro e wz ⟨rfl, bz⟩
        go_wp2
        go_ret
        exact ⟨rfl, B.trans (bz.mono B.size)⟩
      · have u0 : (C != 0) = true := bne_iff_ne.2 hC0
        clear hC0
        go_wp2
        go_ret
        exact ⟨rfl, B⟩
  · go_enter Tryz.func3, Tryz.ntmps3
    go_wp2_with fail
    refine (lwBig_yes l A c w hL hl).mono ?_
    rintro e w0 ⟨rfl, rfl⟩
    go_wp2
    go_ret
    exact ⟨rfl, Below.refl _ _⟩
end Go.Proofs.YtnnfkmjhaljplaaGreat
