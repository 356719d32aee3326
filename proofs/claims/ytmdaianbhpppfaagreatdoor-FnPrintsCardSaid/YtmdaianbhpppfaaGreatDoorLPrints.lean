/- The walk of the law of texts. -/
import Derived.Test.YtmdaianbhpppfaaGreatDoorDrawPs
import Derived.Test.YtmdaianbhpppfaaGreatDoorPsE
import Derived.Test.YtmdaianbhpppfaaGreatDoorPrT
import Derived.Test.YtmdaianbhpppfaaGreatDoorLwT
import Derived.Test.YtmdaianbhpppfaaGreatDoorPsFew
import Derived.Deep.RegionHeld3
import Derived.Deep.DeepCutAuto
namespace Go.Proofs.YtmdaianbhpppfaaGreatDoor
open Go.RowKit

theorem keep11c {W w w' : World} {a0 a1 a2 a3 a4 a5 a6 a7 a8 a9 a10 : Addr} {v0 v1 v2 v3 v4 v5 v6 v7 v8 v9 v10 : Value} (hb : Below w.heap.size w w') (h : w.cell? a0 = some v0 ∧ w.cell? a1 = some v1 ∧ w.cell? a2 = some v2 ∧ w.cell? a3 = some v3 ∧ w.cell? a4 = some v4 ∧ w.cell? a5 = some v5 ∧ w.cell? a6 = some v6 ∧ w.cell? a7 = some v7 ∧ w.cell? a8 = some v8 ∧ w.cell? a9 = some v9 ∧ w.cell? a10 = some v10 ∧ Below W.heap.size W w) :
    w'.cell? a0 = some v0 ∧ w'.cell? a1 = some v1 ∧ w'.cell? a2 = some v2 ∧ w'.cell? a3 = some v3 ∧ w'.cell? a4 = some v4 ∧ w'.cell? a5 = some v5 ∧ w'.cell? a6 = some v6 ∧ w'.cell? a7 = some v7 ∧ w'.cell? a8 = some v8 ∧ w'.cell? a9 = some v9 ∧ w'.cell? a10 = some v10 ∧ Below W.heap.size W w' :=
  ⟨cell_kept hb h.1, cell_kept hb h.2.1, cell_kept hb h.2.2.1, cell_kept hb h.2.2.2.1, cell_kept hb h.2.2.2.2.1, cell_kept hb h.2.2.2.2.2.1, cell_kept hb h.2.2.2.2.2.2.1, cell_kept hb h.2.2.2.2.2.2.2.1, cell_kept hb h.2.2.2.2.2.2.2.2.1, cell_kept hb h.2.2.2.2.2.2.2.2.2.1, cell_kept hb h.2.2.2.2.2.2.2.2.2.2.1, h.2.2.2.2.2.2.2.2.2.2.2.trans (hb.mono h.2.2.2.2.2.2.2.2.2.2.2.size)⟩

theorem x_back {wd : List Int} {xc xv : Int} (h0 : xc = 0) (h1 : xc = inC (hexV wd)) (h2 : xv = inV (hexV wd)) : hxC xv = 0 ∧ hxL xv = wd := by
  have hv : 0 ≤ hexV wd := by
    rcases Int.lt_or_le (hexV wd) 0 with a | a
    · rw [h1] at h0; unfold inC at h0; rw [if_pos a] at h0; omega
    · exact a
  have e2 : xv = hexV wd := by rw [h2]; unfold inV; rw [if_neg (by omega)]
  obtain ⟨h3, h4⟩ := hexV_one hv
  unfold hxC hxL
  rw [e2, if_pos ⟨hv, h4⟩, if_pos ⟨hv, h4⟩]
  exact ⟨rfl, h3.symm⟩
theorem h_back (n : Int) {hc : Int} {hs : List Int} (h0 : hc = 0) (h1 : hc = hxC n) (h2 : hs = hxL n) : hexV hs = n ∧ B8 hs ∧ (hs.length ≤ 100 ∧ 0 ≤ n) := by
  have hr : 0 ≤ n ∧ n ≤ 999999 := by
    by_cases h : 0 ≤ n ∧ n ≤ 999999
    · exact h
    · rw [h1] at h0; unfold hxC at h0; rw [if_neg h] at h0; omega
  obtain ⟨m, rfl⟩ := Int.eq_ofNat_of_zero_le hr.1
  have e : hs = [48, 120] ++ digL 16 m := by rw [h2]; unfold hxL; rw [if_pos hr, Int.toNat_natCast]
  have hl := digL_len (b := 16) (by omega) 5 m (by omega)
  refine ⟨by rw [e]; exact hexV_back (by omega), ?_, ?_, hr.1⟩
  · rw [e]
    exact B8.append (fun x hx => by simp at hx; omega) (digL_B8 (by omega) (by omega) _)
  · rw [e, List.length_append]; simp only [List.length_cons, List.length_nil]; omega
theorem ps_back {tx : List Int} {dk : Int} {dt : List (List Ev)} (h0 : dk = 0) (h1 : dk = psC tx) (h2 : dt = psT tx) : trF dt = 0 ∧ prL dt = tx := by
  have hc : psC tx = 0 := by rw [← h1]; exact h0
  have ht : dt = parL tx := by rw [h2]; unfold psT; rw [if_pos hc]
  unfold psC at hc
  by_cases h3 : tx.length ≤ 2000
  · rw [if_pos h3] at hc
    by_cases h4 : trF (parL tx) = 0 ∧ prL (parL tx) = tx
    · rw [ht]; exact h4
    · rw [if_neg h4] at hc; omega
  · rw [if_neg h3] at hc; omega
theorem ps_again {t : List (List Ev)} (h : trF t = 0) : psC (prL t) = 0 ∧ psT (prL t) = t := by
  have h1 := parL_back h
  have h2 := prL_len h
  have hc : psC (prL t) = 0 := by unfold psC; rw [if_pos (by omega), h1, if_pos ⟨h, rfl⟩]
  exact ⟨hc, by unfold psT; rw [if_pos hc, h1]⟩

set_option maxRecDepth 100000 in
set_option maxHeartbeats 4000000 in
theorem FnPrints_walk (l : List Int) (A : Option Addr) (c : Nat) (w : World) (hl : l.length ≤ maxLen) (h : Rd .u8 w w.heap.size A l) (b8 : B8 l) (hT : Tb w) (hM : ML w) :
    Calls Tryz.prog 3 #[.slice A l.length c] w fun e w' => e = .returned (.bool true) ∧ Below w.heap.size w w' := by
  have HT := hide hT
  have HM := hide hM
  clear hT hM
  by_cases hL : l.length ≤ 1048576
  · clear hl
    go_enter Tryz.func3, Tryz.ntmps3
    go_wp2_with fail
    refine (lwBig_no l A c w hL).mono ?_
    rintro e w0 ⟨rfl, rfl⟩
    go_wp2_with fail
    refine (DrawPrintTrace_any bentK l A c w hL h b8).mono ?_
    rintro e w1 ⟨t, D1, d1, rfl, ht5, ht20, r1, B⟩
    have R := h.below B
    have zB := B.size
    clear h
    have lt : t.length ≤ maxLen := by unfold maxLen; omega
    have IP := hide (fun W hW hT => PrintTrace_any t D1 d1 W lt hW hT)
    have SP := hide (fun W hW => PrintTrace_spec t D1 d1 W lt hW)
    obtain ⟨pc, hpc⟩ : ∃ x, x = trF t := ⟨_, rfl⟩
    obtain ⟨ps, hps⟩ : ∃ x, x = ptL t := ⟨_, rfl⟩
    rw [← hpc, ← hps] at IP SP
    have HPC := hide hpc
    have HPS := hide hps
    clear hpc hps ht20
    go_wp2_with fail
    refine (IP.out _ r1 (HT.out.on B)).mono ?_
    rintro e w2 ⟨rfl, b2⟩
    have z_1 := Below.size b2
    replace r1 := (r1.below b2).lt
    replace R := R.below (b2.mono (by omega))
    replace B := B.trans (b2.mono B.size)
    clear b2
    have e_ := (Below.refl w2.heap.size w2).alloc (Nat.le_refl _) (Obj.cells #[Value.int .i64 pc, .string (strOfNums ps)] 27)
    have zz_1 : (w2.alloc (Obj.cells #[Value.int .i64 pc, .string (strOfNums ps)] 27)).heap.size = w2.heap.size + 1 := by simp
    have z_2 := Below.size e_
    replace r1 := (r1.below e_).lt
    replace R := R.below (e_.mono (by omega))
    replace B := B.trans (e_.mono B.size)
    clear e_
    have kp := Bk.new w2 #[Value.int .i64 pc, .string (strOfNums ps)] 27
    go_wp2_with fail
    refine (DrawParseTrace_any l A c _ hL (R.more (by omega)) b8).mono ?_
    rintro e w3 ⟨tx, rfl, x8, xl, b3⟩
    have z_3 := Below.size b3
    replace r1 := (r1.below b3).lt
    replace R := R.below (b3.mono (by omega))
    replace B := B.trans (b3.mono B.size)
    replace kp := kp.kept b3
    clear b3
    have IT := hide (fun W hM => ParseTrace_any tx W hM x8 (by unfold maxLen; omega))
    have ST := hide (fun W => ParseTrace_spec tx W x8 (by unfold maxLen; omega))
    unfold PsPost at IT ST
    have hfew := psT_few tx
    obtain ⟨dk, hdk⟩ : ∃ x, x = psC tx := ⟨_, rfl⟩
    obtain ⟨dt, hdt⟩ : ∃ x, x = psT tx := ⟨_, rfl⟩
    rw [← hdk, ← hdt] at IT ST
    rw [← hdt] at hfew
    have ldt : dt.length ≤ maxLen := by unfold maxLen; omega
    have HDK := hide hdk
    have HDT := hide hdt
    clear hdk hdt hfew
    go_wp2_with fail
    refine (IT.out _ (HM.out.below B)).mono ?_
    rintro e w4 ⟨Ad, cd, ud, rfl, o4, b4⟩
    have z_4 := Below.size b4
    replace r1 := (r1.below b4).lt
    replace R := R.below (b4.mono (by omega))
    replace B := B.trans (b4.mono B.size)
    replace kp := kp.kept b4
    clear b4
    have rdd := o4.rd
    clear o4 IT
    have e_ := (Below.refl w4.heap.size w4).alloc (Nat.le_refl _) (Obj.cells #[Value.int .i64 dk, .slice Ad dt.length cd] 31)
    have zz_4 : (w4.alloc (Obj.cells #[Value.int .i64 dk, .slice Ad dt.length cd] 31)).heap.size = w4.heap.size + 1 := by simp
    have z_5 := Below.size e_
    replace r1 := (r1.below e_).lt
    replace R := R.below (e_.mono (by omega))
    replace B := B.trans (e_.mono B.size)
    replace kp := kp.kept e_
    replace rdd := (rdd.below e_).lt
    clear e_
    have kr := Bk.new w4 #[Value.int .i64 dk, .slice Ad dt.length cd] 31
    go_wp2_with fail
    refine (DrawHexOf_any l A c _ hL (R.more (by omega)) b8).mono ?_
    rintro e w5 ⟨n, rfl, n0, n1, b5⟩
    have z_6 := Below.size b5
    replace r1 := (r1.below b5).lt
    replace R := R.below (b5.mono (by omega))
    replace B := B.trans (b5.mono B.size)
    replace kp := kp.kept b5
    replace rdd := (rdd.below b5).lt
    replace kr := kr.kept b5
    clear b5
    have IH := hide (fun W hT => HexOf_any n W hT)
    have SH := hide (fun W => HexOf_spec n W)
    obtain ⟨hc, hhc⟩ : ∃ x, x = hxC n := ⟨_, rfl⟩
    obtain ⟨hs, hhs⟩ : ∃ x, x = hxL n := ⟨_, rfl⟩
    rw [← hhc, ← hhs] at IH SH
    have HHC := hide hhc
    have HHS := hide hhs
    clear hhc hhs
    go_wp2_with fail
    refine (IH.out _ (HT.out.on B).1).mono ?_
    rintro e w6 ⟨rfl, b6⟩
    have z_7 := Below.size b6
    replace r1 := (r1.below b6).lt
    replace R := R.below (b6.mono (by omega))
    replace B := B.trans (b6.mono B.size)
    replace kp := kp.kept b6
    replace rdd := (rdd.below b6).lt
    replace kr := kr.kept b6
    clear b6
    have e_ := (Below.refl w6.heap.size w6).alloc (Nat.le_refl _) (Obj.cells #[Value.int .i64 hc, .string (strOfNums hs)] 27)
    have zz_7 : (w6.alloc (Obj.cells #[Value.int .i64 hc, .string (strOfNums hs)] 27)).heap.size = w6.heap.size + 1 := by simp
    have z_8 := Below.size e_
    replace r1 := (r1.below e_).lt
    replace R := R.below (e_.mono (by omega))
    replace B := B.trans (e_.mono B.size)
    replace kp := kp.kept e_
    replace rdd := (rdd.below e_).lt
    replace kr := kr.kept e_
    clear e_
    have kh := Bk.new w6 #[Value.int .i64 hc, .string (strOfNums hs)] 27
    go_wp2_with fail
    refine (DrawReadHex_any l A c _ hL (R.more (by omega)) b8).mono ?_
    rintro e w7 ⟨wd, rfl, wd8, wdl, b7⟩
    have z_9 := Below.size b7
    replace r1 := (r1.below b7).lt
    replace R := R.below (b7.mono (by omega))
    replace B := B.trans (b7.mono B.size)
    replace kp := kp.kept b7
    replace rdd := (rdd.below b7).lt
    replace kr := kr.kept b7
    replace kh := kh.kept b7
    clear b7
    have IX := hide (fun W => ReadHex_any wd W wd8 (by unfold maxLen; omega))
    have SX := hide (fun W => ReadHex_spec wd W wd8 (by unfold maxLen; omega))
    obtain ⟨xc, hxc⟩ : ∃ x, x = inC (hexV wd) := ⟨_, rfl⟩
    obtain ⟨xv, hxv⟩ : ∃ x, x = inV (hexV wd) := ⟨_, rfl⟩
    rw [← hxc, ← hxv] at IX SX
    have HXC := hide hxc
    have HXV := hide hxv
    clear hxc hxv
    go_wp2_with fail
    refine (IX.out _).mono ?_
    rintro e w8 ⟨rfl, b8x⟩
    have z_10 := Below.size b8x
    replace r1 := (r1.below b8x).lt
    replace R := R.below (b8x.mono (by omega))
    replace B := B.trans (b8x.mono B.size)
    replace kp := kp.kept b8x
    replace rdd := (rdd.below b8x).lt
    replace kr := kr.kept b8x
    replace kh := kh.kept b8x
    clear b8x
    have e_ := (Below.refl w8.heap.size w8).alloc (Nat.le_refl _) (Obj.cells #[Value.int .i64 xc, .int .i64 xv] 36)
    have zz_10 : (w8.alloc (Obj.cells #[Value.int .i64 xc, .int .i64 xv] 36)).heap.size = w8.heap.size + 1 := by simp
    have z_11 := Below.size e_
    replace r1 := (r1.below e_).lt
    replace R := R.below (e_.mono (by omega))
    replace B := B.trans (e_.mono B.size)
    replace kp := kp.kept e_
    replace rdd := (rdd.below e_).lt
    replace kr := kr.kept e_
    replace kh := kh.kept e_
    clear e_
    have kx := Bk.new w8 #[Value.int .i64 xc, .int .i64 xv] 36
    go_wp2_with fail
    refine (DrawNumberOf_any l A c _ hL (R.more (by omega)) b8).mono ?_
    rintro e w9 ⟨nu, rfl, nu8, nul, b9⟩
    have z_12 := Below.size b9
    replace r1 := (r1.below b9).lt
    replace R := R.below (b9.mono (by omega))
    replace B := B.trans (b9.mono B.size)
    replace kp := kp.kept b9
    replace rdd := (rdd.below b9).lt
    replace kr := kr.kept b9
    replace kh := kh.kept b9
    replace kx := kx.kept b9
    clear b9
    have IN := hide (fun W => NumberOf_any nu W nu8 (by unfold maxLen; omega))
    have SN := hide (fun W => NumberOf_spec nu W nu8 (by unfold maxLen; omega))
    generalize inC (numL 10 6 nu) = nc at IN SN
    generalize inV (numL 10 6 nu) = nv at IN SN
    clear nu8 nul
    go_wp2_with fail
    refine (DrawEventText_any l A c _ hL (R.more (by omega)) b8).mono ?_
    rintro e w10 ⟨ek, ea, ev, rfl, b10⟩
    have z_13 := Below.size b10
    replace r1 := (r1.below b10).lt
    replace R := R.below (b10.mono (by omega))
    replace B := B.trans (b10.mono B.size)
    replace kp := kp.kept b10
    replace rdd := (rdd.below b10).lt
    replace kr := kr.kept b10
    replace kh := kh.kept b10
    replace kx := kx.kept b10
    clear b10
    have IE := hide (fun W hT => EventText_any ⟨ek, ea, ev⟩ W hT)
    have SE := hide (fun W => EventText_spec ⟨ek, ea, ev⟩ W)
    generalize evF ⟨ek, ea, ev⟩ = ec at IE SE
    generalize etL ⟨ek, ea, ev⟩ = es at IE SE
    simp only at IE SE
    clear R
    have e_ := (Below.refl w10.heap.size w10).alloc (Nat.le_refl _) (Obj.cells #[Value.int .i64 ek, .int .i64 ea, .int .i64 ev] 39)
    have zz_13 : (w10.alloc (Obj.cells #[Value.int .i64 ek, .int .i64 ea, .int .i64 ev] 39)).heap.size = w10.heap.size + 1 := by simp
    have z_14 := Below.size e_
    replace r1 := (r1.below e_).lt
    replace B := B.trans (e_.mono B.size)
    replace kp := kp.kept e_
    replace rdd := (rdd.below e_).lt
    replace kr := kr.kept e_
    replace kh := kh.kept e_
    replace kx := kx.kept e_
    clear e_
    have ke := Bk.new w10 #[Value.int .i64 ek, .int .i64 ea, .int .i64 ev] 39
    go_wp2_with fail
    generalize w10.alloc (Obj.cells #[Value.int .i64 ek, .int .i64 ea, .int .i64 ev] 39) = V at *
    have c0 : V.drew.cell? ⟨w2.heap.size, 0, none⟩ = some (.int .i64 pc) := (kp.cell 0).trans rfl
    have c1 : V.drew.cell? ⟨w2.heap.size, 1, none⟩ = some (.string (strOfNums ps)) := (kp.cell 1).trans rfl
    have c2 : V.drew.cell? ⟨w4.heap.size, 0, none⟩ = some (.int .i64 dk) := (kr.cell 0).trans rfl
    have c3 : V.drew.cell? ⟨w4.heap.size, 1, none⟩ = some (.slice Ad dt.length cd) := (kr.cell 1).trans rfl
    have c4 : V.drew.cell? ⟨w6.heap.size, 0, none⟩ = some (.int .i64 hc) := (kh.cell 0).trans rfl
    have c5 : V.drew.cell? ⟨w6.heap.size, 1, none⟩ = some (.string (strOfNums hs)) := (kh.cell 1).trans rfl
    have c6 : V.drew.cell? ⟨w8.heap.size, 0, none⟩ = some (.int .i64 xc) := (kx.cell 0).trans rfl
    have c7 : V.drew.cell? ⟨w8.heap.size, 1, none⟩ = some (.int .i64 xv) := (kx.cell 1).trans rfl
    have c8 : V.drew.cell? ⟨w10.heap.size, 0, none⟩ = some (.int .i64 ek) := (ke.cell 0).trans rfl
    have c9 : V.drew.cell? ⟨w10.heap.size, 1, none⟩ = some (.int .i64 ea) := (ke.cell 1).trans rfl
    have c10 : V.drew.cell? ⟨w10.heap.size, 2, none⟩ = some (.int .i64 ev) := (ke.cell 2).trans rfl
    have bD : Below V.heap.size V V.drew := (Below.refl _ _).drew
    have hTV := HT.out.on B
    refine wp_region_F 99 (fun w' => w'.cell? ⟨w2.heap.size, 0, none⟩ = some (.int .i64 pc) ∧ w'.cell? ⟨w2.heap.size, 1, none⟩ = some (.string (strOfNums ps)) ∧ w'.cell? ⟨w4.heap.size, 0, none⟩ = some (.int .i64 dk) ∧ w'.cell? ⟨w4.heap.size, 1, none⟩ = some (.slice Ad dt.length cd) ∧ w'.cell? ⟨w6.heap.size, 0, none⟩ = some (.int .i64 hc) ∧ w'.cell? ⟨w6.heap.size, 1, none⟩ = some (.string (strOfNums hs)) ∧ w'.cell? ⟨w8.heap.size, 0, none⟩ = some (.int .i64 xc) ∧ w'.cell? ⟨w8.heap.size, 1, none⟩ = some (.int .i64 xv) ∧ w'.cell? ⟨w10.heap.size, 0, none⟩ = some (.int .i64 ek) ∧ w'.cell? ⟨w10.heap.size, 1, none⟩ = some (.int .i64 ea) ∧ w'.cell? ⟨w10.heap.size, 2, none⟩ = some (.int .i64 ev) ∧ Below V.heap.size V w') (fun w' => True) (by kernel_rfl) ⟨⟨c0, c1, c2, c3, c4, c5, c6, c7, c8, c9, c10, bD⟩, trivial⟩ (fun hHeld => ?_)
    try simp only [Act.put, List.setIfInBounds_toArray, List.set_cons_zero, List.set_cons_succ]
    refine wpAnyF_keep (i := 0) (v := ?_) (by (simp only [List.getElem?_toArray, List.getElem?_cons_zero]; rfl)) (by kernel_rfl) (by kernel_rfl) (by kernel_rfl) (by decide) (by exact fun _ _ _ h => h) ⟨hHeld.1, .inr hHeld.2⟩ (Or.inl ⟨by rfl, ?_⟩) ?_
    rotate_left
    · (intro w' hSw; (try dsimp only at hSw); obtain ⟨hSa0, hSa1, hSa2, hSa3, hSa4, hSa5, hSa6, hSa7, hSa8, hSa9, hSa10, hSa11⟩ := hSw; go_simp <;> with_reducible rfl)
    try simp only [Act.put, List.setIfInBounds_toArray, List.set_cons_zero, List.set_cons_succ]
    refine wpAnyF_take (i := 1) (v := ?_) (by (simp only [List.getElem?_toArray, List.getElem?_cons_succ, List.getElem?_cons_zero]; rfl)) (by kernel_rfl) (by kernel_rfl) (by kernel_rfl) (by decide) (by exact fun _ _ _ h => h) ⟨hHeld.1, .inr hHeld.2⟩ (Or.inl ⟨by rfl, ?_⟩) ?_
    rotate_left
    · (intro w' _; go_simp <;> with_reducible rfl)
    try simp only [Act.put, List.setIfInBounds_toArray, List.set_cons_zero, List.set_cons_succ]
    refine wpAnyF_ready (rs := [2]) (by kernel_rfl) (by simp) ?_
    refine AllReadyF.cons (by (simp only [List.getElem?_toArray, List.getElem?_cons_succ, List.getElem?_cons_zero]; rfl)) (fun K hK => ?_) AllReadyF.nil
    go_simp
    go_at_call 15
    refine (SP.out _ (r1.below (hHeld.1.2.2.2.2.2.2.2.2.2.2.2)).lt).mono ?_
    rintro e wa ⟨rfl, ba⟩
    refine hK.out _ _ ⟨keep11c ba hHeld.1, trivial⟩ (fun hNew => ?_)
    clear hK K hHeld
    have hHeld := hNew
    clear hNew
    try simp only [Act.put, List.setIfInBounds_toArray, List.set_cons_zero, List.set_cons_succ]
    refine wpAnyF_take (i := 3) (v := ?_) (by (simp only [List.getElem?_toArray, List.getElem?_cons_succ, List.getElem?_cons_zero]; rfl)) (by kernel_rfl) (by kernel_rfl) (by kernel_rfl) (by decide) (by exact fun _ _ _ h => h) ⟨hHeld.1, .inr hHeld.2⟩ (Or.inl ⟨by rfl, ?_⟩) ?_
    rotate_left
    · (intro w' _; go_simp <;> with_reducible rfl)
    try simp only [Act.put, List.setIfInBounds_toArray, List.set_cons_zero, List.set_cons_succ]
    refine wpAnyF_take (i := 4) (v := ?_) (by (simp only [List.getElem?_toArray, List.getElem?_cons_succ, List.getElem?_cons_zero]; rfl)) (by kernel_rfl) (by kernel_rfl) (by kernel_rfl) (by decide) (by exact fun _ _ _ h => h) ⟨hHeld.1, .inr hHeld.2⟩ (Or.inl ⟨by rfl, ?_⟩) ?_
    rotate_left
    · (intro w' _; go_simp <;> with_reducible rfl)
    try simp only [Act.put, List.setIfInBounds_toArray, List.set_cons_zero, List.set_cons_succ]
    refine wpAnyF_keep (i := 5) (v := ?_) (by (simp only [List.getElem?_toArray, List.getElem?_cons_succ, List.getElem?_cons_zero]; rfl)) (by kernel_rfl) (by kernel_rfl) (by kernel_rfl) (by decide) (by exact fun _ _ _ h => h) ⟨hHeld.1, .inr hHeld.2⟩ (Or.inl ⟨by rfl, ?_⟩) ?_
    rotate_left
    · (intro w' hSw; (try dsimp only at hSw); obtain ⟨hSa0, hSa1, hSa2, hSa3, hSa4, hSa5, hSa6, hSa7, hSa8, hSa9, hSa10, hSa11⟩ := hSw; go_simp <;> with_reducible rfl)
    try simp only [Act.put, List.setIfInBounds_toArray, List.set_cons_zero, List.set_cons_succ]
    refine wpAnyF_take (i := 6) (v := ?_) (by (simp only [List.getElem?_toArray, List.getElem?_cons_succ, List.getElem?_cons_zero]; rfl)) (by kernel_rfl) (by kernel_rfl) (by kernel_rfl) (by decide) (by exact fun _ _ _ h => h) ⟨hHeld.1, .inr hHeld.2⟩ (Or.inl ⟨by rfl, ?_⟩) ?_
    rotate_left
    · (intro w' _; go_simp <;> with_reducible rfl)
    try simp only [Act.put, List.setIfInBounds_toArray, List.set_cons_zero, List.set_cons_succ]
    refine wpAnyF_ready (rs := [7]) (by kernel_rfl) (by simp) ?_
    refine AllReadyF.cons (by (simp only [List.getElem?_toArray, List.getElem?_cons_succ, List.getElem?_cons_zero]; rfl)) (fun K hK => ?_) AllReadyF.nil
    go_simp
    go_at_call 17
    refine (ST.out _).mono ?_
    rintro e wb ⟨Ab, cb, ub, rfl, ob, bb⟩
    have rb := ob.rd
    clear ob
    refine hK.out _ _ ⟨keep11c bb hHeld.1, trivial⟩ (fun hNew => ?_)
    clear hK K hHeld
    have hHeld := hNew
    clear hNew
    try simp only [Act.put, List.setIfInBounds_toArray, List.set_cons_zero, List.set_cons_succ]
    refine wpAnyF_ready (rs := [8]) (by kernel_rfl) (by simp) ?_
    refine AllReadyF.cons (by (simp only [List.getElem?_toArray, List.getElem?_cons_succ, List.getElem?_cons_zero]; rfl)) (fun K hK => ?_) AllReadyF.nil
    go_simp
    go_at_call 16
    refine (lwTrace_same dk dt Ad _ cd _ _ ldt (rdd.below (hHeld.1.2.2.2.2.2.2.2.2.2.2.2)).lt rb).mono ?_
    rintro e wc ⟨rfl, bc⟩
    refine hK.out _ _ ⟨keep11c bc hHeld.1, trivial⟩ (fun hNew => ?_)
    clear hK K hHeld
    have hHeld := hNew
    clear hNew
    try simp only [Act.put, List.setIfInBounds_toArray, List.set_cons_zero, List.set_cons_succ]
    refine wpAnyF_take (i := 9) (v := ?_) (by (simp only [List.getElem?_toArray, List.getElem?_cons_succ, List.getElem?_cons_zero]; rfl)) (by kernel_rfl) (by kernel_rfl) (by kernel_rfl) (by decide) (by exact fun _ _ _ h => h) ⟨hHeld.1, .inr hHeld.2⟩ (Or.inl ⟨by rfl, ?_⟩) ?_
    rotate_left
    · (intro w' _; go_simp <;> with_reducible rfl)
    try simp only [Act.put, List.setIfInBounds_toArray, List.set_cons_zero, List.set_cons_succ]
    refine wpAnyF_take (i := 10) (v := ?_) (by (simp only [List.getElem?_toArray, List.getElem?_cons_succ, List.getElem?_cons_zero]; rfl)) (by kernel_rfl) (by kernel_rfl) (by kernel_rfl) (by decide) (by exact fun _ _ _ h => h) ⟨hHeld.1, .inr hHeld.2⟩ (Or.inl ⟨by rfl, ?_⟩) ?_
    rotate_left
    · (intro w' _; go_simp <;> with_reducible rfl)
    try simp only [Act.put, List.setIfInBounds_toArray, List.set_cons_zero, List.set_cons_succ]
    refine wpAnyF_take (i := 11) (v := ?_) (by (simp only [List.getElem?_toArray, List.getElem?_cons_succ, List.getElem?_cons_zero]; rfl)) (by kernel_rfl) (by kernel_rfl) (by kernel_rfl) (by decide) (by exact fun _ _ _ h => h) ⟨hHeld.1, .inr hHeld.2⟩ (Or.inl ⟨by rfl, ?_⟩) ?_
    rotate_left
    · (intro w' _; go_simp <;> with_reducible rfl)
    try simp only [Act.put, List.setIfInBounds_toArray, List.set_cons_zero, List.set_cons_succ]
    refine wpAnyF_keep (i := 12) (v := ?_) (by (simp only [List.getElem?_toArray, List.getElem?_cons_succ, List.getElem?_cons_zero]; rfl)) (by kernel_rfl) (by kernel_rfl) (by kernel_rfl) (by decide) (by exact fun _ _ _ h => h) ⟨hHeld.1, .inr hHeld.2⟩ (Or.inl ⟨by rfl, ?_⟩) ?_
    rotate_left
    · (intro w' hSw; (try dsimp only at hSw); obtain ⟨hSa0, hSa1, hSa2, hSa3, hSa4, hSa5, hSa6, hSa7, hSa8, hSa9, hSa10, hSa11⟩ := hSw; go_simp <;> with_reducible rfl)
    try simp only [Act.put, List.setIfInBounds_toArray, List.set_cons_zero, List.set_cons_succ]
    refine wpAnyF_take (i := 13) (v := ?_) (by (simp only [List.getElem?_toArray, List.getElem?_cons_succ, List.getElem?_cons_zero]; rfl)) (by kernel_rfl) (by kernel_rfl) (by kernel_rfl) (by decide) (by exact fun _ _ _ h => h) ⟨hHeld.1, .inr hHeld.2⟩ (Or.inl ⟨by rfl, ?_⟩) ?_
    rotate_left
    · (intro w' _; go_simp <;> with_reducible rfl)
    try simp only [Act.put, List.setIfInBounds_toArray, List.set_cons_zero, List.set_cons_succ]
    refine wpAnyF_ready (rs := [14]) (by kernel_rfl) (by simp) ?_
    refine AllReadyF.cons (by (simp only [List.getElem?_toArray, List.getElem?_cons_succ, List.getElem?_cons_zero]; rfl)) (fun K hK => ?_) AllReadyF.nil
    go_simp
    go_at_call 18
    refine (SH.out _).mono ?_
    rintro e wd1 ⟨rfl, bd⟩
    refine hK.out _ _ ⟨keep11c bd hHeld.1, trivial⟩ (fun hNew => ?_)
    clear hK K hHeld
    have hHeld := hNew
    clear hNew
    try simp only [Act.put, List.setIfInBounds_toArray, List.set_cons_zero, List.set_cons_succ]
    refine wpAnyF_take (i := 15) (v := ?_) (by (simp only [List.getElem?_toArray, List.getElem?_cons_succ, List.getElem?_cons_zero]; rfl)) (by kernel_rfl) (by kernel_rfl) (by kernel_rfl) (by decide) (by exact fun _ _ _ h => h) ⟨hHeld.1, .inr hHeld.2⟩ (Or.inl ⟨by rfl, ?_⟩) ?_
    rotate_left
    · (intro w' _; go_simp <;> with_reducible rfl)
    try simp only [Act.put, List.setIfInBounds_toArray, List.set_cons_zero, List.set_cons_succ]
    refine wpAnyF_take (i := 16) (v := ?_) (by (simp only [List.getElem?_toArray, List.getElem?_cons_succ, List.getElem?_cons_zero]; rfl)) (by kernel_rfl) (by kernel_rfl) (by kernel_rfl) (by decide) (by exact fun _ _ _ h => h) ⟨hHeld.1, .inr hHeld.2⟩ (Or.inl ⟨by rfl, ?_⟩) ?_
    rotate_left
    · (intro w' _; go_simp <;> with_reducible rfl)
    try simp only [Act.put, List.setIfInBounds_toArray, List.set_cons_zero, List.set_cons_succ]
    refine wpAnyF_take (i := 17) (v := ?_) (by (simp only [List.getElem?_toArray, List.getElem?_cons_succ, List.getElem?_cons_zero]; rfl)) (by kernel_rfl) (by kernel_rfl) (by kernel_rfl) (by decide) (by exact fun _ _ _ h => h) ⟨hHeld.1, .inr hHeld.2⟩ (Or.inl ⟨by rfl, ?_⟩) ?_
    rotate_left
    · (intro w' _; go_simp <;> with_reducible rfl)
    try simp only [Act.put, List.setIfInBounds_toArray, List.set_cons_zero, List.set_cons_succ]
    refine wpAnyF_keep (i := 18) (v := ?_) (by (simp only [List.getElem?_toArray, List.getElem?_cons_succ, List.getElem?_cons_zero]; rfl)) (by kernel_rfl) (by kernel_rfl) (by kernel_rfl) (by decide) (by exact fun _ _ _ h => h) ⟨hHeld.1, .inr hHeld.2⟩ (Or.inl ⟨by rfl, ?_⟩) ?_
    rotate_left
    · (intro w' hSw; (try dsimp only at hSw); obtain ⟨hSa0, hSa1, hSa2, hSa3, hSa4, hSa5, hSa6, hSa7, hSa8, hSa9, hSa10, hSa11⟩ := hSw; go_simp <;> with_reducible rfl)
    try simp only [Act.put, List.setIfInBounds_toArray, List.set_cons_zero, List.set_cons_succ]
    refine wpAnyF_take (i := 19) (v := ?_) (by (simp only [List.getElem?_toArray, List.getElem?_cons_succ, List.getElem?_cons_zero]; rfl)) (by kernel_rfl) (by kernel_rfl) (by kernel_rfl) (by decide) (by exact fun _ _ _ h => h) ⟨hHeld.1, .inr hHeld.2⟩ (Or.inl ⟨by rfl, ?_⟩) ?_
    rotate_left
    · (intro w' _; go_simp <;> with_reducible rfl)
    try simp only [Act.put, List.setIfInBounds_toArray, List.set_cons_zero, List.set_cons_succ]
    refine wpAnyF_ready (rs := [20]) (by kernel_rfl) (by simp) ?_
    refine AllReadyF.cons (by (simp only [List.getElem?_toArray, List.getElem?_cons_succ, List.getElem?_cons_zero]; rfl)) (fun K hK => ?_) AllReadyF.nil
    go_simp
    go_at_call 19
    refine (SX.out _).mono ?_
    rintro e we ⟨rfl, be⟩
    refine hK.out _ _ ⟨keep11c be hHeld.1, trivial⟩ (fun hNew => ?_)
    clear hK K hHeld
    have hHeld := hNew
    clear hNew
    try simp only [Act.put, List.setIfInBounds_toArray, List.set_cons_zero, List.set_cons_succ]
    refine wpAnyF_take (i := 21) (v := ?_) (by (simp only [List.getElem?_toArray, List.getElem?_cons_succ, List.getElem?_cons_zero]; rfl)) (by kernel_rfl) (by kernel_rfl) (by kernel_rfl) (by decide) (by exact fun _ _ _ h => h) ⟨hHeld.1, .inr hHeld.2⟩ (Or.inl ⟨by rfl, ?_⟩) ?_
    rotate_left
    · (intro w' _; go_simp <;> with_reducible rfl)
    try simp only [Act.put, List.setIfInBounds_toArray, List.set_cons_zero, List.set_cons_succ]
    refine wpAnyF_take (i := 22) (v := ?_) (by (simp only [List.getElem?_toArray, List.getElem?_cons_succ, List.getElem?_cons_zero]; rfl)) (by kernel_rfl) (by kernel_rfl) (by kernel_rfl) (by decide) (by exact fun _ _ _ h => h) ⟨hHeld.1, .inr hHeld.2⟩ (Or.inl ⟨by rfl, ?_⟩) ?_
    rotate_left
    · (intro w' _; go_simp <;> with_reducible rfl)
    try simp only [Act.put, List.setIfInBounds_toArray, List.set_cons_zero, List.set_cons_succ]
    refine wpAnyF_take (i := 23) (v := ?_) (by (simp only [List.getElem?_toArray, List.getElem?_cons_succ, List.getElem?_cons_zero]; rfl)) (by kernel_rfl) (by kernel_rfl) (by kernel_rfl) (by decide) (by exact fun _ _ _ h => h) ⟨hHeld.1, .inr hHeld.2⟩ (Or.inl ⟨by rfl, ?_⟩) ?_
    rotate_left
    · (intro w' _; go_simp <;> with_reducible rfl)
    try simp only [Act.put, List.setIfInBounds_toArray, List.set_cons_zero, List.set_cons_succ]
    refine wpAnyF_take (i := 24) (v := ?_) (by (simp only [List.getElem?_toArray, List.getElem?_cons_succ, List.getElem?_cons_zero]; rfl)) (by kernel_rfl) (by kernel_rfl) (by kernel_rfl) (by decide) (by exact fun _ _ _ h => h) ⟨hHeld.1, .inr hHeld.2⟩ (Or.inl ⟨by rfl, ?_⟩) ?_
    rotate_left
    · (intro w' _; go_simp <;> with_reducible rfl)
    try simp only [Act.put, List.setIfInBounds_toArray, List.set_cons_zero, List.set_cons_succ]
    refine wpAnyF_take (i := 26) (v := ?_) (by (simp only [List.getElem?_toArray, List.getElem?_cons_succ, List.getElem?_cons_zero]; rfl)) (by kernel_rfl) (by kernel_rfl) (by kernel_rfl) (by decide) (by exact fun _ _ _ h => h) ⟨hHeld.1, .inr hHeld.2⟩ (Or.inl ⟨by rfl, ?_⟩) ?_
    rotate_left
    · (intro w' _; go_simp <;> with_reducible rfl)
    try simp only [Act.put, List.setIfInBounds_toArray, List.set_cons_zero, List.set_cons_succ]
    refine wpAnyF_ready (rs := [25]) (by kernel_rfl) (by simp) ?_
    refine AllReadyF.cons (by (simp only [List.getElem?_toArray, List.getElem?_cons_succ, List.getElem?_cons_zero]; rfl)) (fun K hK => ?_) AllReadyF.nil
    go_simp
    go_at_call 20
    refine (IN.out _).mono ?_
    rintro e wf ⟨rfl, bf⟩
    refine hK.out _ _ ⟨keep11c bf hHeld.1, trivial⟩ (fun hNew => ?_)
    clear hK K hHeld
    have hHeld := hNew
    clear hNew
    try simp only [Act.put, List.setIfInBounds_toArray, List.set_cons_zero, List.set_cons_succ]
    refine wpAnyF_ready (rs := [27]) (by kernel_rfl) (by simp) ?_
    refine AllReadyF.cons (by (simp only [List.getElem?_toArray, List.getElem?_cons_succ, List.getElem?_cons_zero]; rfl)) (fun K hK => ?_) AllReadyF.nil
    go_simp
    go_at_call 21
    refine (SN.out _).mono ?_
    rintro e wg ⟨rfl, bg⟩
    refine hK.out _ _ ⟨keep11c bg hHeld.1, trivial⟩ (fun hNew => ?_)
    clear hK K hHeld
    have hHeld := hNew
    clear hNew
    try simp only [Act.put, List.setIfInBounds_toArray, List.set_cons_zero, List.set_cons_succ]
    refine wpAnyF_take (i := 28) (v := ?_) (by (simp only [List.getElem?_toArray, List.getElem?_cons_succ, List.getElem?_cons_zero]; rfl)) (by kernel_rfl) (by kernel_rfl) (by kernel_rfl) (by decide) (by exact fun _ _ _ h => h) ⟨hHeld.1, .inr hHeld.2⟩ (Or.inl ⟨by rfl, ?_⟩) ?_
    rotate_left
    · (intro w' _; go_simp <;> with_reducible rfl)
    try simp only [Act.put, List.setIfInBounds_toArray, List.set_cons_zero, List.set_cons_succ]
    refine wpAnyF_take (i := 29) (v := ?_) (by (simp only [List.getElem?_toArray, List.getElem?_cons_succ, List.getElem?_cons_zero]; rfl)) (by kernel_rfl) (by kernel_rfl) (by kernel_rfl) (by decide) (by exact fun _ _ _ h => h) ⟨hHeld.1, .inr hHeld.2⟩ (Or.inl ⟨by rfl, ?_⟩) ?_
    rotate_left
    · (intro w' _; go_simp <;> with_reducible rfl)
    try simp only [Act.put, List.setIfInBounds_toArray, List.set_cons_zero, List.set_cons_succ]
    refine wpAnyF_take (i := 30) (v := ?_) (by (simp only [List.getElem?_toArray, List.getElem?_cons_succ, List.getElem?_cons_zero]; rfl)) (by kernel_rfl) (by kernel_rfl) (by kernel_rfl) (by decide) (by exact fun _ _ _ h => h) ⟨hHeld.1, .inr hHeld.2⟩ (Or.inl ⟨by rfl, ?_⟩) ?_
    rotate_left
    · (intro w' _; go_simp <;> with_reducible rfl)
    try simp only [Act.put, List.setIfInBounds_toArray, List.set_cons_zero, List.set_cons_succ]
    refine wpAnyF_keep (i := 31) (v := ?_) (by (simp only [List.getElem?_toArray, List.getElem?_cons_succ, List.getElem?_cons_zero]; rfl)) (by kernel_rfl) (by kernel_rfl) (by kernel_rfl) (by decide) (by exact fun _ _ _ h => h) ⟨hHeld.1, .inr hHeld.2⟩ (Or.inl ⟨by rfl, ?_⟩) ?_
    rotate_left
    · (intro w' hSw; (try dsimp only at hSw); obtain ⟨hSa0, hSa1, hSa2, hSa3, hSa4, hSa5, hSa6, hSa7, hSa8, hSa9, hSa10, hSa11⟩ := hSw; go_simp <;> with_reducible rfl)
    try simp only [Act.put, List.setIfInBounds_toArray, List.set_cons_zero, List.set_cons_succ]
    refine wpAnyF_keep (i := 33) (v := ?_) (by (simp only [List.getElem?_toArray, List.getElem?_cons_succ, List.getElem?_cons_zero]; rfl)) (by kernel_rfl) (by kernel_rfl) (by kernel_rfl) (by decide) (by exact fun _ _ _ h => h) ⟨hHeld.1, .inr hHeld.2⟩ (Or.inl ⟨by rfl, ?_⟩) ?_
    rotate_left
    · (intro w' hSw; (try dsimp only at hSw); obtain ⟨hSa0, hSa1, hSa2, hSa3, hSa4, hSa5, hSa6, hSa7, hSa8, hSa9, hSa10, hSa11⟩ := hSw; go_simp <;> with_reducible rfl)
    try simp only [Act.put, List.setIfInBounds_toArray, List.set_cons_zero, List.set_cons_succ]
    refine wpAnyF_ready (rs := [32]) (by kernel_rfl) (by simp) ?_
    refine AllReadyF.cons (by (simp only [List.getElem?_toArray, List.getElem?_cons_succ, List.getElem?_cons_zero]; rfl)) (fun K hK => ?_) AllReadyF.nil
    go_simp
    go_at_call 22
    refine (IE.out _ (hTV.on (hHeld.1.2.2.2.2.2.2.2.2.2.2.2))).mono ?_
    rintro e wh ⟨rfl, bh⟩
    refine hK.out _ _ ⟨keep11c bh hHeld.1, trivial⟩ (fun hNew => ?_)
    clear hK K hHeld
    have hHeld := hNew
    clear hNew
    try simp only [Act.put, List.setIfInBounds_toArray, List.set_cons_zero, List.set_cons_succ]
    refine wpAnyF_ready (rs := [34]) (by kernel_rfl) (by simp) ?_
    refine AllReadyF.cons (by (simp only [List.getElem?_toArray, List.getElem?_cons_succ, List.getElem?_cons_zero]; rfl)) (fun K hK => ?_) AllReadyF.nil
    go_simp
    go_at_call 23
    refine (SE.out _).mono ?_
    rintro e wi ⟨rfl, bi⟩
    refine hK.out _ _ ⟨keep11c bi hHeld.1, trivial⟩ (fun hNew => ?_)
    clear hK K hHeld
    have hHeld := hNew
    clear hNew
    try simp only [Act.put, List.setIfInBounds_toArray, List.set_cons_zero, List.set_cons_succ]
    refine wpAnyF_take (i := 35) (v := ?_) (by (simp only [List.getElem?_toArray, List.getElem?_cons_succ, List.getElem?_cons_zero]; rfl)) (by kernel_rfl) (by kernel_rfl) (by kernel_rfl) (by decide) (by exact fun _ _ _ h => h) ⟨hHeld.1, .inr hHeld.2⟩ (Or.inl ⟨by rfl, ?_⟩) ?_
    rotate_left
    · (intro w' _; go_simp <;> with_reducible rfl)
    try simp only [Act.put, List.setIfInBounds_toArray, List.set_cons_zero, List.set_cons_succ]
    refine wpAnyF_take (i := 36) (v := ?_) (by (simp only [List.getElem?_toArray, List.getElem?_cons_succ, List.getElem?_cons_zero]; rfl)) (by kernel_rfl) (by kernel_rfl) (by kernel_rfl) (by decide) (by exact fun _ _ _ h => h) ⟨hHeld.1, .inr hHeld.2⟩ (Or.inl ⟨by rfl, ?_⟩) ?_
    rotate_left
    · (intro w' _; go_simp <;> with_reducible rfl)
    try simp only [Act.put, List.setIfInBounds_toArray, List.set_cons_zero, List.set_cons_succ]
    refine wpAnyF_done (by kernel_rfl) ?_ _
    have b11 := (hHeld.1).2.2.2.2.2.2.2.2.2.2.2
    clear c0 c1 c2 c3 c4 c5 c6 c7 c8 c9 c10 bD hHeld SP ST SH SX SN SE IN IE rb ba bb bc bd be bf bg bh bi hTV
    clear ke
    have z_15 := Below.size b11
    replace r1 := (r1.below b11).lt
    replace B := B.trans (b11.mono B.size)
    replace kp := kp.kept b11
    replace rdd := (rdd.below b11).lt
    replace kr := kr.kept b11
    replace kh := kh.kept b11
    replace kx := kx.kept b11
    clear b11
    go_upto_region 15 with fail
    go_cut [95] (fun s wx => s = .bool false ∧ Below wi.heap.size wi wx)
    case first => as_aux_lemma =>
      have q0 := (kh.cell 0).trans (rfl : _ = some (Value.int .i64 hc))
      have q1 := (kh.cell 1).trans (rfl : _ = some (Value.string (strOfNums hs)))
      have q2 := (kx.cell 0).trans (rfl : _ = some (Value.int .i64 xc))
      have q3 := (kx.cell 1).trans (rfl : _ = some (Value.int .i64 xv))
      have hTI := HT.out.on B
      have XY := hide (fun (h0 : xc = 0) => x_back h0 HXC.out HXV.out)
      have HY := hide (fun (h0 : hc = 0) => h_back n h0 HHC.out HHS.out)
      clear HHC HHS HXC HXV HPC HPS HDK HDT
      by_cases h0 : hc = 0
      · obtain ⟨y2, y8, y9⟩ := HY.out h0
        have IR0 := hide (fun W => ReadHex_any hs W y8 (by unfold maxLen; omega))
        rw [y2] at IR0
        have e1 : inC n = 0 := by unfold inC; rw [if_neg (by omega)]
        have e2 : inV n = n := by unfold inV; rw [if_neg (by omega)]
        rw [e1, e2] at IR0
        subst h0
        clear y2 y8 y9 e1 e2 HY
        go_wp2_with fail
        refine (IR0.out _).mono ?_
        rintro e wy ⟨rfl, by0⟩
        have q2 := cell_kept by0 q2
        have q3 := cell_kept by0 q3
        by_cases x0 : xc = 0
        · have IQ := hide (fun W hT => HexOf_any xv W hT)
          obtain ⟨y0, y1⟩ := XY.out x0
          rw [y0, y1] at IQ
          subst x0
          clear y0 y1 XY
          go_wp2_with fail
          refine (IQ.out _ (hTI.on by0).1).mono ?_
          rintro e wz ⟨rfl, bz⟩
          go_wp2_with fail
          go_meet
          exact ⟨rfl, by0.trans (bz.mono by0.size)⟩
        · have x1 : (xc == 0) = false := beq_eq_false_iff_ne.2 x0
          clear x0 XY
          go_wp2_with fail
          go_meet
          exact ⟨rfl, by0⟩
      · have h1 : (hc == 0) = false := beq_eq_false_iff_ne.2 h0
        clear h0 HY
        by_cases x0 : xc = 0
        · have IQ := hide (fun W hT => HexOf_any xv W hT)
          obtain ⟨y0, y1⟩ := XY.out x0
          rw [y0, y1] at IQ
          subst x0
          clear y0 y1 XY
          go_wp2_with fail
          refine (IQ.out _ hTI.1).mono ?_
          rintro e wz ⟨rfl, bz⟩
          go_wp2_with fail
          go_meet
          exact ⟨rfl, bz⟩
        · have x1 : (xc == 0) = false := beq_eq_false_iff_ne.2 x0
          clear x0 XY
          go_wp2_with fail
          go_meet
          exact ⟨rfl, Below.refl _ _⟩
    case rest =>
      obtain ⟨rfl, b12⟩ := hcut
      clear kh kx
      clear HHC HHS HXC HXV IH IX
      have z_16 := Below.size b12
      replace r1 := (r1.below b12).lt
      replace B := B.trans (b12.mono B.size)
      replace kp := kp.kept b12
      replace rdd := (rdd.below b12).lt
      replace kr := kr.kept b12
      clear b12
      go_upto_region 17 with fail
      go_cut [106] (fun s wx => s = .bool false ∧ Below wc.heap.size wc wx)
      case first => as_aux_lemma =>
        have q0 := (kr.cell 0).trans (rfl : _ = some (Value.int .i64 dk))
        have q1 := (kr.cell 1).trans (rfl : _ = some (Value.slice Ad dt.length cd))
        by_cases h0 : dk = 0
        · obtain ⟨z0, z1⟩ := ps_back h0 HDK.out HDT.out
          have IQ := hide (fun W hW hT => PrintTrace_any dt Ad cd W ldt hW hT)
          unfold ptL at IQ
          rw [z0, if_pos rfl, z1] at IQ
          have hTI := HT.out.on B
          subst h0
          clear z0 z1 HDK HDT HPC HPS
          go_wp2_with fail
          refine (IQ.out _ rdd hTI).mono ?_
          rintro e wz ⟨rfl, bz⟩
          go_wp2_with fail
          go_meet
          exact ⟨rfl, bz⟩
        · have h1 : (dk == 0) = false := beq_eq_false_iff_ne.2 h0
          clear h0 HDK HDT HPC HPS
          go_wp2_with fail
          go_meet
          exact ⟨rfl, Below.refl _ _⟩
      case rest =>
        obtain ⟨rfl, b13⟩ := hcut
        clear kr rdd
        clear HDK HDT
        have z_17 := Below.size b13
        replace r1 := (r1.below b13).lt
        replace B := B.trans (b13.mono B.size)
        replace kp := kp.kept b13
        clear b13
        have q0 := (kp.cell 0).trans (rfl : _ = some (Value.int .i64 pc))
        have q1 := (kp.cell 1).trans (rfl : _ = some (Value.string (strOfNums ps)))
        by_cases h0 : pc = 0
        · have z0 : trF t = 0 := by rw [← show pc = trF t from HPC.out]; exact h0
          have z1 : ps = prL t := by rw [show ps = ptL t from HPS.out]; unfold ptL; rw [if_pos z0]
          have p8 : B8 ps := by rw [z1]; exact prL_B8 t
          have pl : ps.length ≤ 580 := by rw [z1]; exact prL_len z0
          obtain ⟨y0, y1⟩ := ps_again z0
          rw [← z1] at y0 y1
          have IQ := hide (fun W hM => ParseTrace_any ps W hM p8 (by unfold maxLen; omega))
          unfold PsPost at IQ
          rw [y0, y1] at IQ
          have zs := strOfNums_size ps
          have hl2 : ¬ (2000 : Int) < (ps.length : Int) := by omega
          have hMI := HM.out.below B
          subst h0
          clear z0 z1 y0 y1 HPC HPS
          go_wp2_with fail
          refine (IQ.out _ hMI).mono ?_
          rintro e wz ⟨Ag, cg, ug, rfl, og, bz⟩
          have rg := og.rd
          have r1 := (r1.below bz).lt
          have B := B.trans (bz.mono B.size)
          clear og
          go_wp2_with fail
          refine (lwTrace_same 0 t Ag D1 cg d1 _ lt rg r1).mono ?_
          rintro e wy ⟨rfl, by0⟩
          have B := B.trans (by0.mono B.size)
          clear q0 q1
          go_wp2
          go_ret
          exact ⟨rfl, B⟩
        · have h1 : (pc != 0) = true := bne_iff_ne.2 h0
          clear h0 HPC HPS
          go_wp2
          go_ret
          exact ⟨rfl, B⟩
  · go_enter Tryz.func3, Tryz.ntmps3
    go_wp2_with fail
    refine (lwBig_yes l A c w hL hl).mono ?_
    rintro e w0 ⟨rfl, rfl⟩
    go_wp2
    go_ret
    exact ⟨rfl, Below.refl _ _⟩
end Go.Proofs.YtmdaianbhpppfaaGreatDoor
