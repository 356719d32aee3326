/- The walk of the law of merging. -/
import Derived.Test.YthomadhdjapahaaDrawMg
import Derived.Test.YthomadhdjapahaaLSp
import Derived.Test.YthomadhdjapahaaLPk
import Derived.Test.YthomadhdjapahaaStpEq
import Derived.Test.YthomadhdjapahaaLwT
import Derived.Deep.RegionHeld3
import Derived.Deep.DeepCutAuto
namespace Go.Proofs.Ythomadhdjapahaa
open Go.RowKit

theorem keep6m {W w w' : World} {a0 a1 a2 a3 a4 a5 : Addr} {v0 v1 v2 v3 v4 v5 : Value} (hb : Below w.heap.size w w') (h : w.cell? a0 = some v0 ∧ w.cell? a1 = some v1 ∧ w.cell? a2 = some v2 ∧ w.cell? a3 = some v3 ∧ w.cell? a4 = some v4 ∧ w.cell? a5 = some v5 ∧ Below W.heap.size W w) :
    w'.cell? a0 = some v0 ∧ w'.cell? a1 = some v1 ∧ w'.cell? a2 = some v2 ∧ w'.cell? a3 = some v3 ∧ w'.cell? a4 = some v4 ∧ w'.cell? a5 = some v5 ∧ Below W.heap.size W w' :=
  ⟨cell_kept hb h.1, cell_kept hb h.2.1, cell_kept hb h.2.2.1, cell_kept hb h.2.2.2.1, cell_kept hb h.2.2.2.2.1, cell_kept hb h.2.2.2.2.2.1, h.2.2.2.2.2.2.trans (hb.mono h.2.2.2.2.2.2.size)⟩

theorem field_log0 (a : Int) (D : Option Addr) (n d : Nat) (W : World) : (Instr.field 30 (.agg #[.int .i64 a, .slice D n d]) 0).run Try.prog W = .ok (.int .i64 a) W := by kernel_rfl
theorem field_log1 (a : Int) (D : Option Addr) (n d : Nat) (W : World) : (Instr.field 30 (.agg #[.int .i64 a, .slice D n d]) 1).run Try.prog W = .ok (.slice D n d) W := by kernel_rfl
theorem field_ints0 (a : Int) (D : Option Addr) (n d : Nat) (W : World) : (Instr.field 38 (.agg #[.int .i64 a, .slice D n d]) 0).run Try.prog W = .ok (.int .i64 a) W := by kernel_rfl
theorem field_ints1 (a : Int) (D : Option Addr) (n d : Nat) (W : World) : (Instr.field 38 (.agg #[.int .i64 a, .slice D n d]) 1).run Try.prog W = .ok (.slice D n d) W := by kernel_rfl
theorem mg_back {t : List (List Ev)} {ps : List Int} {mc : Int} {ml : List Stp} (h0 : mc = 0) (h1 : mc = mgC t ps) (h2 : ml = mgL t ps) : logF ml (t.length : Int) = 0 ∧ slT ml (t.length : Int) = t := by
  have hc : mgC t ps = 0 := by rw [← h1]; exact h0
  have hl : ml = logO t (ordF t ps) := by rw [h2, mgL_ok hc]
  have hf : logF ml (t.length : Int) = 0 := by rw [hl]; exact logF_logO (mgC_zero hc).1
  refine ⟨hf, ?_⟩
  rw [sl_ok hf, Int.toNat_natCast, hl, spT_logO]
theorem sp_back {ss : List Stp} {n sc : Int} {st : List (List Ev)} {pk : List Int} (h0 : sc = 0) (h1 : sc = logF ss n) (h2 : st = slT ss n) (h3 : pk = pkL ss n) : mgC st pk = 0 ∧ mgL st pk = ss ∧ ∀ p ∈ pk, I64 p := by
  have hf : logF ss n = 0 := by rw [← h1]; exact h0
  obtain ⟨hn, _, hG, _⟩ := logF_zero hf
  obtain ⟨N, rfl⟩ := Int.eq_ofNat_of_zero_le (show 0 ≤ n by omega)
  have e2 : st = spT N ss := by rw [h2, sl_ok hf, Int.toNat_natCast]
  have e3 : pk = ss.map (·.c) := by rw [h3, pkL_ok hf]
  obtain ⟨a, b⟩ := merge_split hf
  refine ⟨by rw [e2, e3]; exact a, by rw [e2, e3]; exact b, fun p hp => ?_⟩
  rw [e3] at hp
  obtain ⟨s, hs, rfl⟩ := List.mem_map.1 hp
  have := (logG_all hG s hs).1
  unfold I64
  omega

set_option maxRecDepth 100000 in
set_option maxHeartbeats 4000000 in
theorem FnMerges_walk (l : List Int) (A : Option Addr) (c : Nat) (w : World) (hl : l.length ≤ maxLen) (h : Rd .u8 w w.heap.size A l) (b8 : B8 l) :
    Calls Try.prog 3 #[.slice A l.length c] w fun e w' => e = .returned (.bool true) ∧ Below w.heap.size w w' := by
  by_cases hL : l.length ≤ 1048576
  · clear hl
    go_enter Try.func3, Try.ntmps3
    go_wp2_with fail
    refine (lwBig_no l A c w hL).mono ?_
    rintro e w0 ⟨rfl, rfl⟩
    go_wp2_with fail
    refine (DrawMergeTrace_any bentK l A c w hL h b8).mono ?_
    rintro e w1 ⟨t, D1, d1, ps, Dp, dp, rfl, ht5, hps, hpI, r1, rp, B⟩
    have R := h.below B
    have zB := B.size
    clear h
    have lt : t.length ≤ maxLen := by unfold maxLen; omega
    have lps : ps.length ≤ maxLen := by unfold maxLen; omega
    have IM := hide (fun W hT hP => implMg_any t ps D1 Dp d1 dp W lt lps hpI hT hP)
    have SM := hide (fun W hT hP => specMg_any t ps D1 Dp d1 dp W lt lps hT hP)
    unfold MgPost at IM SM
    have hml := mgL_len t ps
    obtain ⟨mc, hmc⟩ : ∃ x, x = mgC t ps := ⟨_, rfl⟩
    obtain ⟨ml, hmm⟩ : ∃ x, x = mgL t ps := ⟨_, rfl⟩
    rw [← hmc, ← hmm] at IM SM
    rw [← hmm] at hml
    have HMC := hide hmc
    have HML := hide hmm
    have lml : ml.length ≤ maxLen := by unfold maxLen; omega
    clear hmc hmm hps hpI
    go_wp2_with fail
    refine (IM.out _ r1 rp).mono ?_
    rintro e w2 ⟨AL, cL, rfl, oL, b2⟩
    have z_1 := Below.size b2
    replace r1 := (r1.below b2).lt
    replace rp := (rp.below b2).lt
    replace R := R.below (b2.mono (by omega))
    replace B := B.trans (b2.mono B.size)
    clear b2
    have rL := RdP.of_own oL
    clear oL IM
    have e_ := (Below.refl w2.heap.size w2).alloc (Nat.le_refl _) (Obj.cells #[Value.int .i64 mc, .slice AL ml.length cL] 30)
    have zz_1 : (w2.alloc (Obj.cells #[Value.int .i64 mc, .slice AL ml.length cL] 30)).heap.size = w2.heap.size + 1 := by simp
    have z_2 := Below.size e_
    replace r1 := (r1.below e_).lt
    replace rp := (rp.below e_).lt
    replace R := R.below (e_.mono (by omega))
    replace B := B.trans (e_.mono B.size)
    replace rL := (rL.below e_).lt
    clear e_
    have km := Bk.new w2 #[Value.int .i64 mc, .slice AL ml.length cL] 30
    go_wp2_with fail
    refine (DrawSplitLog_any l A c _ hL (R.more (by omega)) b8).mono ?_
    rintro e w3 ⟨ss, D2, d2, n, rfl, hss, rS, b3⟩
    have z_3 := Below.size b3
    replace r1 := (r1.below b3).lt
    replace rp := (rp.below b3).lt
    replace R := R.below (b3.mono (by omega))
    replace B := B.trans (b3.mono B.size)
    replace rL := (rL.below b3).lt
    replace km := km.kept b3
    clear b3
    have lss : ss.length ≤ maxLen := by unfold maxLen; omega
    have IS := hide (fun W h => implSp_any ss n D2 d2 W lss h)
    have SS_ := hide (fun W h => specSp_any ss n D2 d2 W lss h)
    unfold SlPost at IS SS_
    have IK := hide (fun W h => implPk_any ss n D2 d2 W lss h)
    have SK := hide (fun W h => specPk_any ss n D2 d2 W lss h)
    unfold PkPost at IK SK
    have IF := hide (fun W h => implLogF_any ss n D2 d2 W lss h)
    have hst := (slT_few ss n).1
    have hpk := pkL_len ss n
    obtain ⟨sc, hsc⟩ : ∃ x, x = logF ss n := ⟨_, rfl⟩
    obtain ⟨st, hst2⟩ : ∃ x, x = slT ss n := ⟨_, rfl⟩
    obtain ⟨pk, hpk2⟩ : ∃ x, x = pkL ss n := ⟨_, rfl⟩
    rw [← hsc, ← hst2] at IS SS_
    rw [← hsc, ← hpk2] at IK SK
    rw [← hsc] at IF
    rw [← hst2] at hst
    rw [← hpk2] at hpk
    have HSC := hide hsc
    have HST := hide hst2
    have HPK := hide hpk2
    have lst : st.length ≤ maxLen := by unfold maxLen; omega
    have lpk : pk.length ≤ maxLen := by unfold maxLen; omega
    clear hsc hst2 hpk2
    go_wp2_with fail
    refine (IS.out _ rS).mono ?_
    rintro e w4 ⟨AT, cT, uT, rfl, oT, b4⟩
    have z_4 := Below.size b4
    replace r1 := (r1.below b4).lt
    replace rp := (rp.below b4).lt
    replace R := R.below (b4.mono (by omega))
    replace B := B.trans (b4.mono B.size)
    replace rL := (rL.below b4).lt
    replace km := km.kept b4
    replace rS := (rS.below b4).lt
    clear b4
    have rT := oT.rd
    clear oT IS
    have e_ := (Below.refl w4.heap.size w4).alloc (Nat.le_refl _) (Obj.cells #[Value.int .i64 sc, .slice AT st.length cT] 35)
    have zz_4 : (w4.alloc (Obj.cells #[Value.int .i64 sc, .slice AT st.length cT] 35)).heap.size = w4.heap.size + 1 := by simp
    have z_5 := Below.size e_
    replace r1 := (r1.below e_).lt
    replace rp := (rp.below e_).lt
    replace R := R.below (e_.mono (by omega))
    replace B := B.trans (e_.mono B.size)
    replace rL := (rL.below e_).lt
    replace km := km.kept e_
    replace rS := (rS.below e_).lt
    replace rT := (rT.below e_).lt
    clear e_
    have ks := Bk.new w4 #[Value.int .i64 sc, .slice AT st.length cT] 35
    go_wp2_with fail
    refine (IK.out _ rS).mono ?_
    rintro e w6 ⟨AP, cP, rfl, oP, b6⟩
    have z_6 := Below.size b6
    replace r1 := (r1.below b6).lt
    replace rp := (rp.below b6).lt
    replace R := R.below (b6.mono (by omega))
    replace B := B.trans (b6.mono B.size)
    replace rL := (rL.below b6).lt
    replace km := km.kept b6
    replace rS := (rS.below b6).lt
    replace rT := (rT.below b6).lt
    replace ks := ks.kept b6
    clear b6
    have rP := Rd.of_own (k := .i64) oP
    clear oP IK
    have e_ := (Below.refl w6.heap.size w6).alloc (Nat.le_refl _) (Obj.cells #[Value.int .i64 sc, .slice AP pk.length cP] 38)
    have zz_6 : (w6.alloc (Obj.cells #[Value.int .i64 sc, .slice AP pk.length cP] 38)).heap.size = w6.heap.size + 1 := by simp
    have z_7 := Below.size e_
    replace r1 := (r1.below e_).lt
    replace rp := (rp.below e_).lt
    replace R := R.below (e_.mono (by omega))
    replace B := B.trans (e_.mono B.size)
    replace rL := (rL.below e_).lt
    replace km := km.kept e_
    replace rS := (rS.below e_).lt
    replace rT := (rT.below e_).lt
    replace ks := ks.kept e_
    replace rP := (rP.below e_).lt
    clear e_
    have kp := Bk.new w6 #[Value.int .i64 sc, .slice AP pk.length cP] 38
    go_wp2_with fail
    refine (DrawSameLogs_any l A c _ hL (R.more (by omega)) b8).mono ?_
    rintro e w8 ⟨la, lb, DA, DB, dA, dB, rfl, hla, hlb, rA, rB, b8x⟩
    have z_8 := Below.size b8x
    replace r1 := (r1.below b8x).lt
    replace rp := (rp.below b8x).lt
    replace R := R.below (b8x.mono (by omega))
    replace B := B.trans (b8x.mono B.size)
    replace rL := (rL.below b8x).lt
    replace km := km.kept b8x
    replace rS := (rS.below b8x).lt
    replace rT := (rT.below b8x).lt
    replace ks := ks.kept b8x
    replace rP := (rP.below b8x).lt
    replace kp := kp.kept b8x
    clear b8x
    clear R
    have lla : la.length ≤ maxLen := by unfold maxLen; omega
    have IQ := hide (fun W h h' => implSL_any la lb DA DB dA dB W lla h h')
    have SQ := hide (fun W h h' => specSL_any la lb DA DB dA dB W lla h h')
    obtain ⟨fq, hfq⟩ : ∃ x, x = sameP la lb := ⟨_, rfl⟩
    rw [← hfq] at IQ SQ
    clear hfq
    have IE := hide (fun (s : List Stp) (hs : s.length ≤ maxLen) W A A' c c' h h' => (by have := implSL_any s s A A' c c' W hs h h'; rw [sameP_refl] at this; exact this : Calls Try.prog 17 #[.slice A s.length c, .slice A' s.length c'] W fun e w' => e = .returned (.bool true) ∧ Below W.heap.size W w'))
    have SE := hide (fun (s : List Stp) (hs : s.length ≤ maxLen) W A A' c c' h h' => (by have := specSL_any s s A A' c c' W hs h h'; rw [sameP_refl] at this; exact this : Calls Try.prog 22 #[.slice A s.length c, .slice A' s.length c'] W fun e w' => e = .returned (.bool true) ∧ Below W.heap.size W w'))
    go_wp2_with fail
    generalize w8 = V at *
    have c0 : V.drew.cell? ⟨w2.heap.size, 0, none⟩ = some (.int .i64 mc) := (km.cell 0).trans rfl
    have c1 : V.drew.cell? ⟨w2.heap.size, 1, none⟩ = some (.slice AL ml.length cL) := (km.cell 1).trans rfl
    have c2 : V.drew.cell? ⟨w4.heap.size, 0, none⟩ = some (.int .i64 sc) := (ks.cell 0).trans rfl
    have c3 : V.drew.cell? ⟨w4.heap.size, 1, none⟩ = some (.slice AT st.length cT) := (ks.cell 1).trans rfl
    have c4 : V.drew.cell? ⟨w6.heap.size, 0, none⟩ = some (.int .i64 sc) := (kp.cell 0).trans rfl
    have c5 : V.drew.cell? ⟨w6.heap.size, 1, none⟩ = some (.slice AP pk.length cP) := (kp.cell 1).trans rfl
    have hfd0 := field_log0
    have hfd1 := field_log1
    have hfd2 := field_ints0
    have hfd3 := field_ints1
    have bD : Below V.heap.size V V.drew := (Below.refl _ _).drew
    refine wp_region_F 99 (fun w' => w'.cell? ⟨w2.heap.size, 0, none⟩ = some (.int .i64 mc) ∧ w'.cell? ⟨w2.heap.size, 1, none⟩ = some (.slice AL ml.length cL) ∧ w'.cell? ⟨w4.heap.size, 0, none⟩ = some (.int .i64 sc) ∧ w'.cell? ⟨w4.heap.size, 1, none⟩ = some (.slice AT st.length cT) ∧ w'.cell? ⟨w6.heap.size, 0, none⟩ = some (.int .i64 sc) ∧ w'.cell? ⟨w6.heap.size, 1, none⟩ = some (.slice AP pk.length cP) ∧ Below V.heap.size V w') (fun w' => True) (by kernel_rfl) ⟨⟨c0, c1, c2, c3, c4, c5, bD⟩, trivial⟩ (fun hHeld => ?_)
    try simp only [Act.put, List.setIfInBounds_toArray, List.set_cons_zero, List.set_cons_succ]
    refine wpAnyF_take (i := 0) (v := ?_) (by (simp only [List.getElem?_toArray, List.getElem?_cons_zero]; rfl)) (by kernel_rfl) (by kernel_rfl) (by kernel_rfl) (by decide) (by exact fun _ _ _ h => h) ⟨hHeld.1, .inr hHeld.2⟩ (Or.inl ⟨by rfl, ?_⟩) ?_
    rotate_left
    · (intro w' _; go_simp <;> with_reducible rfl)
    try simp only [Act.put, List.setIfInBounds_toArray, List.set_cons_zero, List.set_cons_succ]
    refine wpAnyF_keep (i := 1) (v := ?_) (by (simp only [List.getElem?_toArray, List.getElem?_cons_succ, List.getElem?_cons_zero]; rfl)) (by kernel_rfl) (by kernel_rfl) (by kernel_rfl) (by decide) (by exact fun _ _ _ h => h) ⟨hHeld.1, .inr hHeld.2⟩ (Or.inl ⟨by rfl, ?_⟩) ?_
    rotate_left
    · (intro w' hSw; (try dsimp only at hSw); obtain ⟨hSa0, hSa1, hSa2, hSa3, hSa4, hSa5, hSa6⟩ := hSw; go_simp <;> with_reducible rfl)
    try simp only [Act.put, List.setIfInBounds_toArray, List.set_cons_zero, List.set_cons_succ]
    refine wpAnyF_take (i := 2) (v := ?_) (by (simp only [List.getElem?_toArray, List.getElem?_cons_succ, List.getElem?_cons_zero]; rfl)) (by kernel_rfl) (by kernel_rfl) (by kernel_rfl) (by decide) (by exact fun _ _ _ h => h) ⟨hHeld.1, .inr hHeld.2⟩ (Or.inl ⟨by rfl, ?_⟩) ?_
    rotate_left
    · (intro w' _; go_simp <;> with_reducible rfl)
    try simp only [Act.put, List.setIfInBounds_toArray, List.set_cons_zero, List.set_cons_succ]
    refine wpAnyF_take (i := 3) (v := ?_) (by (simp only [List.getElem?_toArray, List.getElem?_cons_succ, List.getElem?_cons_zero]; rfl)) (by kernel_rfl) (by kernel_rfl) (by kernel_rfl) (by decide) (by exact fun _ _ _ h => h) ⟨hHeld.1, .inr hHeld.2⟩ (Or.inl ⟨by rfl, ?_⟩) ?_
    rotate_left
    · (intro w' _; go_simp <;> with_reducible rfl)
    try simp only [Act.put, List.setIfInBounds_toArray, List.set_cons_zero, List.set_cons_succ]
    refine wpAnyF_ready (rs := [4]) (by kernel_rfl) (by simp) ?_
    refine AllReadyF.cons (by (simp only [List.getElem?_toArray, List.getElem?_cons_succ, List.getElem?_cons_zero]; rfl)) (fun K hK => ?_) AllReadyF.nil
    go_simp
    go_at_call 16
    refine (SM.out _ (r1.below (hHeld.1.2.2.2.2.2.2)).lt (rp.below (hHeld.1.2.2.2.2.2.2)).lt).mono ?_
    rintro e wa ⟨Aa, ca, rfl, oa, ba⟩
    clear oa
    refine hK.out _ _ ⟨keep6m ba hHeld.1, trivial⟩ (fun hNew => ?_)
    clear hK K hHeld
    have hHeld := hNew
    clear hNew
    try simp only [Act.put, List.setIfInBounds_toArray, List.set_cons_zero, List.set_cons_succ]
    refine wpAnyF_take (i := 5) (v := ?_) (by (simp only [List.getElem?_toArray, List.getElem?_cons_succ, List.getElem?_cons_zero]; rfl)) (by kernel_rfl) (by kernel_rfl) (by kernel_rfl) (by decide) (by exact fun _ _ _ h => h) ⟨hHeld.1, .inr hHeld.2⟩ (Or.inl ⟨by rfl, ?_⟩) ?_
    rotate_left
    · (intro w' _; go_simp <;> with_reducible rfl)
    try simp only [Act.put, List.setIfInBounds_toArray, List.set_cons_zero, List.set_cons_succ]
    refine wpAnyF_take (i := 6) (v := ?_) (by (simp only [List.getElem?_toArray, List.getElem?_cons_succ, List.getElem?_cons_zero]; rfl)) (by kernel_rfl) (by kernel_rfl) (by kernel_rfl) (by decide) (by exact fun _ _ _ h => h) ⟨hHeld.1, .inr hHeld.2⟩ (Or.inl ⟨by rfl, ?_⟩) ?_
    rotate_left
    · (intro w' _; go_simp <;> with_reducible rfl)
    try simp only [Act.put, List.setIfInBounds_toArray, List.set_cons_zero, List.set_cons_succ]
    refine wpAnyF_take (i := 7) (v := ?_) (by (simp only [List.getElem?_toArray, List.getElem?_cons_succ, List.getElem?_cons_zero]; rfl)) (by kernel_rfl) (by kernel_rfl) (by kernel_rfl) (by decide) (by exact fun _ _ _ h => h) ⟨hHeld.1, .inr hHeld.2⟩ (Or.inl ⟨by rfl, ?_⟩) ?_
    rotate_left
    · (intro w' _; go_simp <;> with_reducible rfl)
    try simp only [Act.put, List.setIfInBounds_toArray, List.set_cons_zero, List.set_cons_succ]
    refine wpAnyF_take (i := 8) (v := ?_) (by (simp only [List.getElem?_toArray, List.getElem?_cons_succ, List.getElem?_cons_zero]; rfl)) (by kernel_rfl) (by kernel_rfl) (by kernel_rfl) (by decide) (by exact fun _ _ _ h => h) ⟨hHeld.1, .inr hHeld.2⟩ (Or.inl ⟨by rfl, ?_⟩) ?_
    rotate_left
    · (intro w' _; go_simp <;> with_reducible rfl)
    try simp only [Act.put, List.setIfInBounds_toArray, List.set_cons_zero, List.set_cons_succ]
    refine wpAnyF_keep (i := 9) (v := ?_) (by (simp only [List.getElem?_toArray, List.getElem?_cons_succ, List.getElem?_cons_zero]; rfl)) (by kernel_rfl) (by kernel_rfl) (by kernel_rfl) (by decide) (by exact fun _ _ _ h => h) ⟨hHeld.1, .inr hHeld.2⟩ (Or.inl ⟨by rfl, ?_⟩) ?_
    rotate_left
    · (intro w' hSw; (try dsimp only at hSw); obtain ⟨hSa0, hSa1, hSa2, hSa3, hSa4, hSa5, hSa6⟩ := hSw; go_simp <;> with_reducible rfl)
    try simp only [Act.put, List.setIfInBounds_toArray, List.set_cons_zero, List.set_cons_succ]
    refine wpAnyF_take (i := 10) (v := ?_) (by (simp only [List.getElem?_toArray, List.getElem?_cons_succ, List.getElem?_cons_zero]; rfl)) (by kernel_rfl) (by kernel_rfl) (by kernel_rfl) (by decide) (by exact fun _ _ _ h => h) ⟨hHeld.1, .inr hHeld.2⟩ (Or.inl ⟨by rfl, ?_⟩) ?_
    rotate_left
    · (intro w' _; go_simp <;> with_reducible rfl)
    try simp only [Act.put, List.setIfInBounds_toArray, List.set_cons_zero, List.set_cons_succ]
    refine wpAnyF_take (i := 11) (v := ?_) (by (simp only [List.getElem?_toArray, List.getElem?_cons_succ, List.getElem?_cons_zero]; rfl)) (by kernel_rfl) (by kernel_rfl) (by kernel_rfl) (by decide) (by exact fun _ _ _ h => h) ⟨hHeld.1, .inr hHeld.2⟩ (Or.inl ⟨by rfl, ?_⟩) ?_
    rotate_left
    · (intro w' _; go_simp <;> with_reducible rfl)
    try simp only [Act.put, List.setIfInBounds_toArray, List.set_cons_zero, List.set_cons_succ]
    refine wpAnyF_ready (rs := [12]) (by kernel_rfl) (by simp) ?_
    refine AllReadyF.cons (by (simp only [List.getElem?_toArray, List.getElem?_cons_succ, List.getElem?_cons_zero]; rfl)) (fun K hK => ?_) AllReadyF.nil
    go_simp
    go_at_call 16
    refine (SM.out _ (r1.below (hHeld.1.2.2.2.2.2.2)).lt (rp.below (hHeld.1.2.2.2.2.2.2)).lt).mono ?_
    rintro e wb ⟨Ab, cb, rfl, ob, bb⟩
    have rb := RdP.of_own ob
    clear ob
    refine hK.out _ _ ⟨keep6m bb hHeld.1, trivial⟩ (fun hNew => ?_)
    clear hK K hHeld
    have hHeld := hNew
    clear hNew
    try simp only [Act.put, List.setIfInBounds_toArray, List.set_cons_zero, List.set_cons_succ]
    refine wpAnyF_take (i := 13) (v := ?_) (by (simp only [List.getElem?_toArray, List.getElem?_cons_succ, List.getElem?_cons_zero]; rfl)) (by kernel_rfl) (by kernel_rfl) (by kernel_rfl) (by decide) (by exact fun _ _ _ h => h) ⟨hHeld.1, .inr hHeld.2⟩ (Or.inl ⟨by rfl, ?_⟩) ?_
    rotate_left
    · (intro w' _; go_simp <;> with_reducible rfl)
    try simp only [Act.put, List.setIfInBounds_toArray, List.set_cons_zero, List.set_cons_succ]
    refine wpAnyF_ready (rs := [14]) (by kernel_rfl) (by simp) ?_
    refine AllReadyF.cons (by (simp only [List.getElem?_toArray, List.getElem?_cons_succ, List.getElem?_cons_zero]; rfl)) (fun K hK => ?_) AllReadyF.nil
    go_simp
    go_at_call 17
    refine (IE.out ml lml _ AL Ab cL cb (rL.below (hHeld.1.2.2.2.2.2.2)).lt rb).mono ?_
    rintro e wc ⟨rfl, bc⟩
    refine hK.out _ _ ⟨keep6m bc hHeld.1, trivial⟩ (fun hNew => ?_)
    clear hK K hHeld
    have hHeld := hNew
    clear hNew
    try simp only [Act.put, List.setIfInBounds_toArray, List.set_cons_zero, List.set_cons_succ]
    refine wpAnyF_take (i := 15) (v := ?_) (by (simp only [List.getElem?_toArray, List.getElem?_cons_succ, List.getElem?_cons_zero]; rfl)) (by kernel_rfl) (by kernel_rfl) (by kernel_rfl) (by decide) (by exact fun _ _ _ h => h) ⟨hHeld.1, .inr hHeld.2⟩ (Or.inl ⟨by rfl, ?_⟩) ?_
    rotate_left
    · (intro w' _; go_simp <;> with_reducible rfl)
    try simp only [Act.put, List.setIfInBounds_toArray, List.set_cons_zero, List.set_cons_succ]
    refine wpAnyF_take (i := 16) (v := ?_) (by (simp only [List.getElem?_toArray, List.getElem?_cons_succ, List.getElem?_cons_zero]; rfl)) (by kernel_rfl) (by kernel_rfl) (by kernel_rfl) (by decide) (by exact fun _ _ _ h => h) ⟨hHeld.1, .inr hHeld.2⟩ (Or.inl ⟨by rfl, ?_⟩) ?_
    rotate_left
    · (intro w' _; go_simp <;> with_reducible rfl)
    try simp only [Act.put, List.setIfInBounds_toArray, List.set_cons_zero, List.set_cons_succ]
    refine wpAnyF_take (i := 17) (v := ?_) (by (simp only [List.getElem?_toArray, List.getElem?_cons_succ, List.getElem?_cons_zero]; rfl)) (by kernel_rfl) (by kernel_rfl) (by kernel_rfl) (by decide) (by exact fun _ _ _ h => h) ⟨hHeld.1, .inr hHeld.2⟩ (Or.inl ⟨by rfl, ?_⟩) ?_
    rotate_left
    · (intro w' _; go_simp <;> with_reducible rfl)
    try simp only [Act.put, List.setIfInBounds_toArray, List.set_cons_zero, List.set_cons_succ]
    refine wpAnyF_keep (i := 18) (v := ?_) (by (simp only [List.getElem?_toArray, List.getElem?_cons_succ, List.getElem?_cons_zero]; rfl)) (by kernel_rfl) (by kernel_rfl) (by kernel_rfl) (by decide) (by exact fun _ _ _ h => h) ⟨hHeld.1, .inr hHeld.2⟩ (Or.inl ⟨by rfl, ?_⟩) ?_
    rotate_left
    · (intro w' hSw; (try dsimp only at hSw); obtain ⟨hSa0, hSa1, hSa2, hSa3, hSa4, hSa5, hSa6⟩ := hSw; go_simp <;> with_reducible rfl)
    try simp only [Act.put, List.setIfInBounds_toArray, List.set_cons_zero, List.set_cons_succ]
    refine wpAnyF_take (i := 19) (v := ?_) (by (simp only [List.getElem?_toArray, List.getElem?_cons_succ, List.getElem?_cons_zero]; rfl)) (by kernel_rfl) (by kernel_rfl) (by kernel_rfl) (by decide) (by exact fun _ _ _ h => h) ⟨hHeld.1, .inr hHeld.2⟩ (Or.inl ⟨by rfl, ?_⟩) ?_
    rotate_left
    · (intro w' _; go_simp <;> with_reducible rfl)
    try simp only [Act.put, List.setIfInBounds_toArray, List.set_cons_zero, List.set_cons_succ]
    refine wpAnyF_take (i := 20) (v := ?_) (by (simp only [List.getElem?_toArray, List.getElem?_cons_succ, List.getElem?_cons_zero]; rfl)) (by kernel_rfl) (by kernel_rfl) (by kernel_rfl) (by decide) (by exact fun _ _ _ h => h) ⟨hHeld.1, .inr hHeld.2⟩ (Or.inl ⟨by rfl, ?_⟩) ?_
    rotate_left
    · (intro w' _; go_simp <;> with_reducible rfl)
    try simp only [Act.put, List.setIfInBounds_toArray, List.set_cons_zero, List.set_cons_succ]
    refine wpAnyF_ready (rs := [21]) (by kernel_rfl) (by simp) ?_
    refine AllReadyF.cons (by (simp only [List.getElem?_toArray, List.getElem?_cons_succ, List.getElem?_cons_zero]; rfl)) (fun K hK => ?_) AllReadyF.nil
    go_simp
    go_at_call 19
    refine (SS_.out _ (rS.below (hHeld.1.2.2.2.2.2.2)).lt).mono ?_
    rintro e wd ⟨Ad, cd, ud, rfl, od, bd⟩
    have rd := od.rd
    clear od
    refine hK.out _ _ ⟨keep6m bd hHeld.1, trivial⟩ (fun hNew => ?_)
    clear hK K hHeld
    have hHeld := hNew
    clear hNew
    try simp only [Act.put, List.setIfInBounds_toArray, List.set_cons_zero, List.set_cons_succ]
    refine wpAnyF_ready (rs := [22]) (by kernel_rfl) (by simp) ?_
    refine AllReadyF.cons (by (simp only [List.getElem?_toArray, List.getElem?_cons_succ, List.getElem?_cons_zero]; rfl)) (fun K hK => ?_) AllReadyF.nil
    go_simp
    go_at_call 18
    refine (lwTrace_same sc st AT Ad cT cd _ lst (rT.below (hHeld.1.2.2.2.2.2.2)).lt rd).mono ?_
    rintro e we ⟨rfl, be⟩
    refine hK.out _ _ ⟨keep6m be hHeld.1, trivial⟩ (fun hNew => ?_)
    clear hK K hHeld
    have hHeld := hNew
    clear hNew
    try simp only [Act.put, List.setIfInBounds_toArray, List.set_cons_zero, List.set_cons_succ]
    refine wpAnyF_take (i := 23) (v := ?_) (by (simp only [List.getElem?_toArray, List.getElem?_cons_succ, List.getElem?_cons_zero]; rfl)) (by kernel_rfl) (by kernel_rfl) (by kernel_rfl) (by decide) (by exact fun _ _ _ h => h) ⟨hHeld.1, .inr hHeld.2⟩ (Or.inl ⟨by rfl, ?_⟩) ?_
    rotate_left
    · (intro w' _; go_simp <;> with_reducible rfl)
    try simp only [Act.put, List.setIfInBounds_toArray, List.set_cons_zero, List.set_cons_succ]
    refine wpAnyF_take (i := 24) (v := ?_) (by (simp only [List.getElem?_toArray, List.getElem?_cons_succ, List.getElem?_cons_zero]; rfl)) (by kernel_rfl) (by kernel_rfl) (by kernel_rfl) (by decide) (by exact fun _ _ _ h => h) ⟨hHeld.1, .inr hHeld.2⟩ (Or.inl ⟨by rfl, ?_⟩) ?_
    rotate_left
    · (intro w' _; go_simp <;> with_reducible rfl)
    try simp only [Act.put, List.setIfInBounds_toArray, List.set_cons_zero, List.set_cons_succ]
    refine wpAnyF_take (i := 25) (v := ?_) (by (simp only [List.getElem?_toArray, List.getElem?_cons_succ, List.getElem?_cons_zero]; rfl)) (by kernel_rfl) (by kernel_rfl) (by kernel_rfl) (by decide) (by exact fun _ _ _ h => h) ⟨hHeld.1, .inr hHeld.2⟩ (Or.inl ⟨by rfl, ?_⟩) ?_
    rotate_left
    · (intro w' _; go_simp <;> with_reducible rfl)
    try simp only [Act.put, List.setIfInBounds_toArray, List.set_cons_zero, List.set_cons_succ]
    refine wpAnyF_take (i := 26) (v := ?_) (by (simp only [List.getElem?_toArray, List.getElem?_cons_succ, List.getElem?_cons_zero]; rfl)) (by kernel_rfl) (by kernel_rfl) (by kernel_rfl) (by decide) (by exact fun _ _ _ h => h) ⟨hHeld.1, .inr hHeld.2⟩ (Or.inl ⟨by rfl, ?_⟩) ?_
    rotate_left
    · (intro w' _; go_simp <;> with_reducible rfl)
    try simp only [Act.put, List.setIfInBounds_toArray, List.set_cons_zero, List.set_cons_succ]
    refine wpAnyF_keep (i := 27) (v := ?_) (by (simp only [List.getElem?_toArray, List.getElem?_cons_succ, List.getElem?_cons_zero]; rfl)) (by kernel_rfl) (by kernel_rfl) (by kernel_rfl) (by decide) (by exact fun _ _ _ h => h) ⟨hHeld.1, .inr hHeld.2⟩ (Or.inl ⟨by rfl, ?_⟩) ?_
    rotate_left
    · (intro w' hSw; (try dsimp only at hSw); obtain ⟨hSa0, hSa1, hSa2, hSa3, hSa4, hSa5, hSa6⟩ := hSw; go_simp <;> with_reducible rfl)
    try simp only [Act.put, List.setIfInBounds_toArray, List.set_cons_zero, List.set_cons_succ]
    refine wpAnyF_take (i := 28) (v := ?_) (by (simp only [List.getElem?_toArray, List.getElem?_cons_succ, List.getElem?_cons_zero]; rfl)) (by kernel_rfl) (by kernel_rfl) (by kernel_rfl) (by decide) (by exact fun _ _ _ h => h) ⟨hHeld.1, .inr hHeld.2⟩ (Or.inl ⟨by rfl, ?_⟩) ?_
    rotate_left
    · (intro w' _; go_simp <;> with_reducible rfl)
    try simp only [Act.put, List.setIfInBounds_toArray, List.set_cons_zero, List.set_cons_succ]
    refine wpAnyF_take (i := 29) (v := ?_) (by (simp only [List.getElem?_toArray, List.getElem?_cons_succ, List.getElem?_cons_zero]; rfl)) (by kernel_rfl) (by kernel_rfl) (by kernel_rfl) (by decide) (by exact fun _ _ _ h => h) ⟨hHeld.1, .inr hHeld.2⟩ (Or.inl ⟨by rfl, ?_⟩) ?_
    rotate_left
    · (intro w' _; go_simp <;> with_reducible rfl)
    try simp only [Act.put, List.setIfInBounds_toArray, List.set_cons_zero, List.set_cons_succ]
    refine wpAnyF_ready (rs := [30]) (by kernel_rfl) (by simp) ?_
    refine AllReadyF.cons (by (simp only [List.getElem?_toArray, List.getElem?_cons_succ, List.getElem?_cons_zero]; rfl)) (fun K hK => ?_) AllReadyF.nil
    go_simp
    go_at_call 20
    refine (SK.out _ (rS.below (hHeld.1.2.2.2.2.2.2)).lt).mono ?_
    rintro e wf ⟨Af, cf, rfl, of_, bf⟩
    clear of_
    refine hK.out _ _ ⟨keep6m bf hHeld.1, trivial⟩ (fun hNew => ?_)
    clear hK K hHeld
    have hHeld := hNew
    clear hNew
    try simp only [Act.put, List.setIfInBounds_toArray, List.set_cons_zero, List.set_cons_succ]
    refine wpAnyF_take (i := 31) (v := ?_) (by (simp only [List.getElem?_toArray, List.getElem?_cons_succ, List.getElem?_cons_zero]; rfl)) (by kernel_rfl) (by kernel_rfl) (by kernel_rfl) (by decide) (by exact fun _ _ _ h => h) ⟨hHeld.1, .inr hHeld.2⟩ (Or.inl ⟨by rfl, ?_⟩) ?_
    rotate_left
    · (intro w' _; go_simp <;> with_reducible rfl)
    try simp only [Act.put, List.setIfInBounds_toArray, List.set_cons_zero, List.set_cons_succ]
    refine wpAnyF_take (i := 32) (v := ?_) (by (simp only [List.getElem?_toArray, List.getElem?_cons_succ, List.getElem?_cons_zero]; rfl)) (by kernel_rfl) (by kernel_rfl) (by kernel_rfl) (by decide) (by exact fun _ _ _ h => h) ⟨hHeld.1, .inr hHeld.2⟩ (Or.inl ⟨by rfl, ?_⟩) ?_
    rotate_left
    · (intro w' _; go_simp <;> with_reducible rfl)
    try simp only [Act.put, List.setIfInBounds_toArray, List.set_cons_zero, List.set_cons_succ]
    refine wpAnyF_take (i := 33) (v := ?_) (by (simp only [List.getElem?_toArray, List.getElem?_cons_succ, List.getElem?_cons_zero]; rfl)) (by kernel_rfl) (by kernel_rfl) (by kernel_rfl) (by decide) (by exact fun _ _ _ h => h) ⟨hHeld.1, .inr hHeld.2⟩ (Or.inl ⟨by rfl, ?_⟩) ?_
    rotate_left
    · (intro w' _; go_simp <;> with_reducible rfl)
    try simp only [Act.put, List.setIfInBounds_toArray, List.set_cons_zero, List.set_cons_succ]
    refine wpAnyF_take (i := 34) (v := ?_) (by (simp only [List.getElem?_toArray, List.getElem?_cons_succ, List.getElem?_cons_zero]; rfl)) (by kernel_rfl) (by kernel_rfl) (by kernel_rfl) (by decide) (by exact fun _ _ _ h => h) ⟨hHeld.1, .inr hHeld.2⟩ (Or.inl ⟨by rfl, ?_⟩) ?_
    rotate_left
    · (intro w' _; go_simp <;> with_reducible rfl)
    try simp only [Act.put, List.setIfInBounds_toArray, List.set_cons_zero, List.set_cons_succ]
    refine wpAnyF_take (i := 35) (v := ?_) (by (simp only [List.getElem?_toArray, List.getElem?_cons_succ, List.getElem?_cons_zero]; rfl)) (by kernel_rfl) (by kernel_rfl) (by kernel_rfl) (by decide) (by exact fun _ _ _ h => h) ⟨hHeld.1, .inr hHeld.2⟩ (Or.inl ⟨by rfl, ?_⟩) ?_
    rotate_left
    · (intro w' _; go_simp <;> with_reducible rfl)
    try simp only [Act.put, List.setIfInBounds_toArray, List.set_cons_zero, List.set_cons_succ]
    refine wpAnyF_keep (i := 36) (v := ?_) (by (simp only [List.getElem?_toArray, List.getElem?_cons_succ, List.getElem?_cons_zero]; rfl)) (by kernel_rfl) (by kernel_rfl) (by kernel_rfl) (by decide) (by exact fun _ _ _ h => h) ⟨hHeld.1, .inr hHeld.2⟩ (Or.inl ⟨by rfl, ?_⟩) ?_
    rotate_left
    · (intro w' hSw; (try dsimp only at hSw); obtain ⟨hSa0, hSa1, hSa2, hSa3, hSa4, hSa5, hSa6⟩ := hSw; go_simp <;> with_reducible rfl)
    try simp only [Act.put, List.setIfInBounds_toArray, List.set_cons_zero, List.set_cons_succ]
    refine wpAnyF_take (i := 37) (v := ?_) (by (simp only [List.getElem?_toArray, List.getElem?_cons_succ, List.getElem?_cons_zero]; rfl)) (by kernel_rfl) (by kernel_rfl) (by kernel_rfl) (by decide) (by exact fun _ _ _ h => h) ⟨hHeld.1, .inr hHeld.2⟩ (Or.inl ⟨by rfl, ?_⟩) ?_
    rotate_left
    · (intro w' _; go_simp <;> with_reducible rfl)
    try simp only [Act.put, List.setIfInBounds_toArray, List.set_cons_zero, List.set_cons_succ]
    refine wpAnyF_take (i := 38) (v := ?_) (by (simp only [List.getElem?_toArray, List.getElem?_cons_succ, List.getElem?_cons_zero]; rfl)) (by kernel_rfl) (by kernel_rfl) (by kernel_rfl) (by decide) (by exact fun _ _ _ h => h) ⟨hHeld.1, .inr hHeld.2⟩ (Or.inl ⟨by rfl, ?_⟩) ?_
    rotate_left
    · (intro w' _; go_simp <;> with_reducible rfl)
    try simp only [Act.put, List.setIfInBounds_toArray, List.set_cons_zero, List.set_cons_succ]
    refine wpAnyF_ready (rs := [39]) (by kernel_rfl) (by simp) ?_
    refine AllReadyF.cons (by (simp only [List.getElem?_toArray, List.getElem?_cons_succ, List.getElem?_cons_zero]; rfl)) (fun K hK => ?_) AllReadyF.nil
    go_simp
    go_at_call 20
    refine (SK.out _ (rS.below (hHeld.1.2.2.2.2.2.2)).lt).mono ?_
    rintro e wg ⟨Ag, cg, rfl, og, bg⟩
    have rg := Rd.of_own (k := .i64) og
    clear og
    refine hK.out _ _ ⟨keep6m bg hHeld.1, trivial⟩ (fun hNew => ?_)
    clear hK K hHeld
    have hHeld := hNew
    clear hNew
    try simp only [Act.put, List.setIfInBounds_toArray, List.set_cons_zero, List.set_cons_succ]
    refine wpAnyF_take (i := 40) (v := ?_) (by (simp only [List.getElem?_toArray, List.getElem?_cons_succ, List.getElem?_cons_zero]; rfl)) (by kernel_rfl) (by kernel_rfl) (by kernel_rfl) (by decide) (by exact fun _ _ _ h => h) ⟨hHeld.1, .inr hHeld.2⟩ (Or.inl ⟨by rfl, ?_⟩) ?_
    rotate_left
    · (intro w' _; go_simp <;> with_reducible rfl)
    try simp only [Act.put, List.setIfInBounds_toArray, List.set_cons_zero, List.set_cons_succ]
    refine wpAnyF_ready (rs := [41]) (by kernel_rfl) (by simp) ?_
    refine AllReadyF.cons (by (simp only [List.getElem?_toArray, List.getElem?_cons_succ, List.getElem?_cons_zero]; rfl)) (fun K hK => ?_) AllReadyF.nil
    go_simp
    go_at_call 21
    refine (lwNums_same pk AP Ag cP cg _ lpk (rP.below (hHeld.1.2.2.2.2.2.2)).lt rg).mono ?_
    rintro e wh ⟨rfl, bh⟩
    refine hK.out _ _ ⟨keep6m bh hHeld.1, trivial⟩ (fun hNew => ?_)
    clear hK K hHeld
    have hHeld := hNew
    clear hNew
    try simp only [Act.put, List.setIfInBounds_toArray, List.set_cons_zero, List.set_cons_succ]
    refine wpAnyF_take (i := 42) (v := ?_) (by (simp only [List.getElem?_toArray, List.getElem?_cons_succ, List.getElem?_cons_zero]; rfl)) (by kernel_rfl) (by kernel_rfl) (by kernel_rfl) (by decide) (by exact fun _ _ _ h => h) ⟨hHeld.1, .inr hHeld.2⟩ (Or.inl ⟨by rfl, ?_⟩) ?_
    rotate_left
    · (intro w' _; go_simp <;> with_reducible rfl)
    try simp only [Act.put, List.setIfInBounds_toArray, List.set_cons_zero, List.set_cons_succ]
    refine wpAnyF_take (i := 43) (v := ?_) (by (simp only [List.getElem?_toArray, List.getElem?_cons_succ, List.getElem?_cons_zero]; rfl)) (by kernel_rfl) (by kernel_rfl) (by kernel_rfl) (by decide) (by exact fun _ _ _ h => h) ⟨hHeld.1, .inr hHeld.2⟩ (Or.inl ⟨by rfl, ?_⟩) ?_
    rotate_left
    · (intro w' _; go_simp <;> with_reducible rfl)
    try simp only [Act.put, List.setIfInBounds_toArray, List.set_cons_zero, List.set_cons_succ]
    refine wpAnyF_take (i := 44) (v := ?_) (by (simp only [List.getElem?_toArray, List.getElem?_cons_succ, List.getElem?_cons_zero]; rfl)) (by kernel_rfl) (by kernel_rfl) (by kernel_rfl) (by decide) (by exact fun _ _ _ h => h) ⟨hHeld.1, .inr hHeld.2⟩ (Or.inl ⟨by rfl, ?_⟩) ?_
    rotate_left
    · (intro w' _; go_simp <;> with_reducible rfl)
    try simp only [Act.put, List.setIfInBounds_toArray, List.set_cons_zero, List.set_cons_succ]
    refine wpAnyF_take (i := 45) (v := ?_) (by (simp only [List.getElem?_toArray, List.getElem?_cons_succ, List.getElem?_cons_zero]; rfl)) (by kernel_rfl) (by kernel_rfl) (by kernel_rfl) (by decide) (by exact fun _ _ _ h => h) ⟨hHeld.1, .inr hHeld.2⟩ (Or.inl ⟨by rfl, ?_⟩) ?_
    rotate_left
    · (intro w' _; go_simp <;> with_reducible rfl)
    try simp only [Act.put, List.setIfInBounds_toArray, List.set_cons_zero, List.set_cons_succ]
    refine wpAnyF_take (i := 46) (v := ?_) (by (simp only [List.getElem?_toArray, List.getElem?_cons_succ, List.getElem?_cons_zero]; rfl)) (by kernel_rfl) (by kernel_rfl) (by kernel_rfl) (by decide) (by exact fun _ _ _ h => h) ⟨hHeld.1, .inr hHeld.2⟩ (Or.inl ⟨by rfl, ?_⟩) ?_
    rotate_left
    · (intro w' _; go_simp <;> with_reducible rfl)
    try simp only [Act.put, List.setIfInBounds_toArray, List.set_cons_zero, List.set_cons_succ]
    refine wpAnyF_take (i := 48) (v := ?_) (by (simp only [List.getElem?_toArray, List.getElem?_cons_succ, List.getElem?_cons_zero]; rfl)) (by kernel_rfl) (by kernel_rfl) (by kernel_rfl) (by decide) (by exact fun _ _ _ h => h) ⟨hHeld.1, .inr hHeld.2⟩ (Or.inl ⟨by rfl, ?_⟩) ?_
    rotate_left
    · (intro w' _; go_simp <;> with_reducible rfl)
    try simp only [Act.put, List.setIfInBounds_toArray, List.set_cons_zero, List.set_cons_succ]
    refine wpAnyF_take (i := 49) (v := ?_) (by (simp only [List.getElem?_toArray, List.getElem?_cons_succ, List.getElem?_cons_zero]; rfl)) (by kernel_rfl) (by kernel_rfl) (by kernel_rfl) (by decide) (by exact fun _ _ _ h => h) ⟨hHeld.1, .inr hHeld.2⟩ (Or.inl ⟨by rfl, ?_⟩) ?_
    rotate_left
    · (intro w' _; go_simp <;> with_reducible rfl)
    try simp only [Act.put, List.setIfInBounds_toArray, List.set_cons_zero, List.set_cons_succ]
    refine wpAnyF_ready (rs := [47]) (by kernel_rfl) (by simp) ?_
    refine AllReadyF.cons (by (simp only [List.getElem?_toArray, List.getElem?_cons_succ, List.getElem?_cons_zero]; rfl)) (fun K hK => ?_) AllReadyF.nil
    go_simp
    go_at_call 17
    refine (IQ.out _ (rA.below (hHeld.1.2.2.2.2.2.2)).lt (rB.below (hHeld.1.2.2.2.2.2.2)).lt).mono ?_
    rintro e wi ⟨rfl, bi⟩
    refine hK.out _ _ ⟨keep6m bi hHeld.1, trivial⟩ (fun hNew => ?_)
    clear hK K hHeld
    have hHeld := hNew
    clear hNew
    try simp only [Act.put, List.setIfInBounds_toArray, List.set_cons_zero, List.set_cons_succ]
    refine wpAnyF_ready (rs := [50]) (by kernel_rfl) (by simp) ?_
    refine AllReadyF.cons (by (simp only [List.getElem?_toArray, List.getElem?_cons_succ, List.getElem?_cons_zero]; rfl)) (fun K hK => ?_) AllReadyF.nil
    go_simp
    go_at_call 22
    refine (SQ.out _ (rA.below (hHeld.1.2.2.2.2.2.2)).lt (rB.below (hHeld.1.2.2.2.2.2.2)).lt).mono ?_
    rintro e wj ⟨rfl, bj⟩
    refine hK.out _ _ ⟨keep6m bj hHeld.1, trivial⟩ (fun hNew => ?_)
    clear hK K hHeld
    have hHeld := hNew
    clear hNew
    try simp only [Act.put, List.setIfInBounds_toArray, List.set_cons_zero, List.set_cons_succ]
    refine wpAnyF_take (i := 51) (v := ?_) (by (simp only [List.getElem?_toArray, List.getElem?_cons_succ, List.getElem?_cons_zero]; rfl)) (by kernel_rfl) (by kernel_rfl) (by kernel_rfl) (by decide) (by exact fun _ _ _ h => h) ⟨hHeld.1, .inr hHeld.2⟩ (Or.inl ⟨by rfl, ?_⟩) ?_
    rotate_left
    · (intro w' _; go_simp <;> with_reducible rfl)
    try simp only [Act.put, List.setIfInBounds_toArray, List.set_cons_zero, List.set_cons_succ]
    refine wpAnyF_take (i := 52) (v := ?_) (by (simp only [List.getElem?_toArray, List.getElem?_cons_succ, List.getElem?_cons_zero]; rfl)) (by kernel_rfl) (by kernel_rfl) (by kernel_rfl) (by decide) (by exact fun _ _ _ h => h) ⟨hHeld.1, .inr hHeld.2⟩ (Or.inl ⟨by rfl, ?_⟩) ?_
    rotate_left
    · (intro w' _; go_simp <;> with_reducible rfl)
    try simp only [Act.put, List.setIfInBounds_toArray, List.set_cons_zero, List.set_cons_succ]
    refine wpAnyF_take (i := 53) (v := ?_) (by (simp only [List.getElem?_toArray, List.getElem?_cons_succ, List.getElem?_cons_zero]; rfl)) (by kernel_rfl) (by kernel_rfl) (by kernel_rfl) (by decide) (by exact fun _ _ _ h => h) ⟨hHeld.1, .inr hHeld.2⟩ (Or.inl ⟨by rfl, ?_⟩) ?_
    rotate_left
    · (intro w' _; go_simp <;> with_reducible rfl)
    try simp only [Act.put, List.setIfInBounds_toArray, List.set_cons_zero, List.set_cons_succ]
    refine wpAnyF_take (i := 54) (v := ?_) (by (simp only [List.getElem?_toArray, List.getElem?_cons_succ, List.getElem?_cons_zero]; rfl)) (by kernel_rfl) (by kernel_rfl) (by kernel_rfl) (by decide) (by exact fun _ _ _ h => h) ⟨hHeld.1, .inr hHeld.2⟩ (Or.inl ⟨by rfl, ?_⟩) ?_
    rotate_left
    · (intro w' _; go_simp <;> with_reducible rfl)
    try simp only [Act.put, List.setIfInBounds_toArray, List.set_cons_zero, List.set_cons_succ]
    refine wpAnyF_take (i := 55) (v := ?_) (by (simp only [List.getElem?_toArray, List.getElem?_cons_succ, List.getElem?_cons_zero]; rfl)) (by kernel_rfl) (by kernel_rfl) (by kernel_rfl) (by decide) (by exact fun _ _ _ h => h) ⟨hHeld.1, .inr hHeld.2⟩ (Or.inl ⟨by rfl, ?_⟩) ?_
    rotate_left
    · (intro w' _; go_simp <;> with_reducible rfl)
    try simp only [Act.put, List.setIfInBounds_toArray, List.set_cons_zero, List.set_cons_succ]
    refine wpAnyF_take (i := 57) (v := ?_) (by (simp only [List.getElem?_toArray, List.getElem?_cons_succ, List.getElem?_cons_zero]; rfl)) (by kernel_rfl) (by kernel_rfl) (by kernel_rfl) (by decide) (by exact fun _ _ _ h => h) ⟨hHeld.1, .inr hHeld.2⟩ (Or.inl ⟨by rfl, ?_⟩) ?_
    rotate_left
    · (intro w' _; go_simp <;> with_reducible rfl)
    try simp only [Act.put, List.setIfInBounds_toArray, List.set_cons_zero, List.set_cons_succ]
    refine wpAnyF_keep (i := 58) (v := ?_) (by (simp only [List.getElem?_toArray, List.getElem?_cons_succ, List.getElem?_cons_zero]; rfl)) (by kernel_rfl) (by kernel_rfl) (by kernel_rfl) (by decide) (by exact fun _ _ _ h => h) ⟨hHeld.1, .inr hHeld.2⟩ (Or.inl ⟨by rfl, ?_⟩) ?_
    rotate_left
    · (intro w' hSw; (try dsimp only at hSw); obtain ⟨hSa0, hSa1, hSa2, hSa3, hSa4, hSa5, hSa6⟩ := hSw; go_simp <;> with_reducible rfl)
    try simp only [Act.put, List.setIfInBounds_toArray, List.set_cons_zero, List.set_cons_succ]
    refine wpAnyF_ready (rs := [56]) (by kernel_rfl) (by simp) ?_
    refine AllReadyF.cons (by (simp only [List.getElem?_toArray, List.getElem?_cons_succ, List.getElem?_cons_zero]; rfl)) (fun K hK => ?_) AllReadyF.nil
    go_simp
    go_at_call 23
    refine (IF.out _ (rS.below (hHeld.1.2.2.2.2.2.2)).lt).mono ?_
    rintro e wk ⟨rfl, bk⟩
    refine hK.out _ _ ⟨keep6m bk hHeld.1, trivial⟩ (fun hNew => ?_)
    clear hK K hHeld
    have hHeld := hNew
    clear hNew
    try simp only [Act.put, List.setIfInBounds_toArray, List.set_cons_zero, List.set_cons_succ]
    refine wpAnyF_take (i := 59) (v := ?_) (by (simp only [List.getElem?_toArray, List.getElem?_cons_succ, List.getElem?_cons_zero]; rfl)) (by kernel_rfl) (by kernel_rfl) (by kernel_rfl) (by decide) (by exact fun _ _ _ h => h) ⟨hHeld.1, .inr hHeld.2⟩ (Or.inl ⟨by rfl, ?_⟩) ?_
    rotate_left
    · (intro w' _; go_simp <;> with_reducible rfl)
    try simp only [Act.put, List.setIfInBounds_toArray, List.set_cons_zero, List.set_cons_succ]
    refine wpAnyF_take (i := 60) (v := ?_) (by (simp only [List.getElem?_toArray, List.getElem?_cons_succ, List.getElem?_cons_zero]; rfl)) (by kernel_rfl) (by kernel_rfl) (by kernel_rfl) (by decide) (by exact fun _ _ _ h => h) ⟨hHeld.1, .inr hHeld.2⟩ (Or.inl ⟨by rfl, ?_⟩) ?_
    rotate_left
    · (intro w' _; go_simp <;> with_reducible rfl)
    try simp only [Act.put, List.setIfInBounds_toArray, List.set_cons_zero, List.set_cons_succ]
    refine wpAnyF_done (by kernel_rfl) ?_ _
    have b11 := hHeld.1.2.2.2.2.2.2
    clear c0 c1 c2 c3 c4 c5 bD hHeld hfd0 hfd1 hfd2 hfd3 SM SS_ SK IF IQ SQ rb ba bb bc bd be bf bg bh bi bj bk rd rg
    clear rA rB
    have z_9 := Below.size b11
    replace r1 := (r1.below b11).lt
    replace rp := (rp.below b11).lt
    replace B := B.trans (b11.mono B.size)
    replace rL := (rL.below b11).lt
    replace km := km.kept b11
    replace rS := (rS.below b11).lt
    replace rT := (rT.below b11).lt
    replace ks := ks.kept b11
    replace rP := (rP.below b11).lt
    replace kp := kp.kept b11
    clear b11
    go_upto_region 11 with fail
    go_cut [113] (fun s wx => s = .bool false ∧ Below wk.heap.size wk wx)
    case first => as_aux_lemma =>
      have q0 := (km.cell 0).trans (rfl : _ = some (Value.int .i64 mc))
      have q1 := (km.cell 1).trans (rfl : _ = some (Value.slice AL ml.length cL))
      by_cases h0 : mc = 0
      · obtain ⟨z0, z1⟩ := mg_back h0 HMC.out HML.out
        have IZ := hide (fun W h => implSp_any ml (t.length : Int) AL cL W lml h)
        unfold SlPost at IZ
        rw [z0, z1] at IZ
        subst h0
        clear z0 z1 HMC HML HSC HST HPK
        go_wp2_with fail
        refine (IZ.out _ rL).mono ?_
        rintro e wz ⟨Az, cz, uz, rfl, oz, bz⟩
        have rz := oz.rd
        have r1 := (r1.below bz).lt
        clear oz
        go_wp2_with fail
        refine (lwTrace_same 0 t Az D1 cz d1 _ lt rz r1).mono ?_
        rintro e wy ⟨rfl, by0⟩
        go_wp2_with fail
        go_meet
        exact ⟨rfl, bz.trans (by0.mono bz.size)⟩
      · have h1 : (mc == 0) = false := beq_eq_false_iff_ne.2 h0
        clear h0 HMC HML HSC HST HPK
        go_wp2_with fail
        go_meet
        exact ⟨rfl, Below.refl _ _⟩
    case rest =>
      obtain ⟨rfl, b12⟩ := hcut
      clear km rL r1 rp
      clear HMC HML
      have z_10 := Below.size b12
      replace B := B.trans (b12.mono B.size)
      replace rS := (rS.below b12).lt
      replace rT := (rT.below b12).lt
      replace ks := ks.kept b12
      replace rP := (rP.below b12).lt
      replace kp := kp.kept b12
      clear b12
      have q0 := (ks.cell 0).trans (rfl : _ = some (Value.int .i64 sc))
      have q1 := (ks.cell 1).trans (rfl : _ = some (Value.slice AT st.length cT))
      have q2 := (kp.cell 0).trans (rfl : _ = some (Value.int .i64 sc))
      have q3 := (kp.cell 1).trans (rfl : _ = some (Value.slice AP pk.length cP))
      by_cases h0 : sc = 0
      · obtain ⟨z0, z1, zI⟩ := sp_back h0 HSC.out HST.out HPK.out
        have IZ := hide (fun W hT hP => implMg_any st pk AT AP cT cP W lst lpk zI hT hP)
        unfold MgPost at IZ
        rw [z0, z1] at IZ
        subst h0
        clear z0 z1 zI HSC HST HPK
        go_wp2_with fail
        refine (IZ.out _ rT rP).mono ?_
        rintro e wz ⟨Az, cz, rfl, oz, bz⟩
        have rz := RdP.of_own oz
        have rS := (rS.below bz).lt
        have B := B.trans (bz.mono B.size)
        have kz := Bk.new wz #[Value.int .i64 0, .slice Az ss.length cz] 30
        have bA := (Below.refl wz.heap.size wz).alloc (Nat.le_refl _) (Obj.cells #[Value.int .i64 0, .slice Az ss.length cz] 30)
        have rz := (rz.below bA).lt
        have rS := (rS.below bA).lt
        have B := B.trans (bA.mono B.size)
        clear oz bz bA q0 q1 q2 q3
        obtain ⟨qz, hqz⟩ : ∃ qz, qz = wz.heap.size := ⟨_, rfl⟩
        rw [← hqz] at kz
        have HQZ := hide hqz
        clear hqz
        have kz0 := kz.cell 0
        have kz1 := kz.cell 1
        go_wp2_with fail
        rw [← HQZ.out]
        generalize wz.alloc (Obj.cells #[Value.int .i64 0, .slice Az ss.length cz] 30) = Y at *
        refine (IE.out ss lss _ Az D2 cz d2 rz rS).mono ?_
        rintro e wy ⟨rfl, by0⟩
        have rz := (rz.below by0).lt
        have rS := (rS.below by0).lt
        have B := B.trans (by0.mono B.size)
        have kz := kz.kept by0
        have y1 := (kz.cell 1).trans (rfl : _ = some (Value.slice Az ss.length cz))
        clear by0 kz0 kz1
        go_wp2_with fail
        refine (SE.out ss lss _ Az D2 cz d2 rz rS).mono ?_
        rintro e wx ⟨rfl, bx⟩
        have B := B.trans (bx.mono B.size)
        clear y1 bx
        go_wp2
        go_ret
        exact ⟨rfl, B⟩
      · have h1 : (sc != 0) = true := bne_iff_ne.2 h0
        have h2 : (sc == 0) = false := beq_eq_false_iff_ne.2 h0
        clear h0 HSC HST HPK
        go_wp2
        go_ret
        exact ⟨ret_bool (by simp), B⟩
  · go_enter Try.func3, Try.ntmps3
    go_wp2_with fail
    refine (lwBig_yes l A c w hL hl).mono ?_
    rintro e w0 ⟨rfl, rfl⟩
    go_wp2
    go_ret
    exact ⟨rfl, Below.refl _ _⟩
end Go.Proofs.Ythomadhdjapahaa
