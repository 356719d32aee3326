/- The walk of the law FnSteps. -/
import Derived.Test.YtjdbakebcdkfcaaCopyT
import Derived.Test.YtjdbakebcdkfcaaDrawUn
import Derived.Test.YtjdbakebcdkfcaaLw
import Derived.Test.YtjdbakebcdkfcaaPackS2
import Derived.Test.YtjdbakebcdkfcaaUnpS2
import Derived.Test.YtjdbakebcdkfcaaUnpI2
import Derived.Test.YtjdbakebcdkfcaaTrF
import Derived.Test.YtjdbakebcdkfcaaST
import Derived.Deep.RegionHeld3
import Derived.Deep.DeepCutAuto
namespace Go.Proofs.Ytjdbakebcdkfcaa
open Go.RowKit

theorem field_unc (a : Int) (D : Option Addr) (n d : Nat) (W : World) : (Instr.field 31 (.agg #[.int .i64 a, .slice D n d]) 0).run Try.prog W = .ok (.int .i64 a) W := by kernel_rfl
theorem field_une (a : Int) (D : Option Addr) (n d : Nat) (W : World) : (Instr.field 31 (.agg #[.int .i64 a, .slice D n d]) 1).run Try.prog W = .ok (.slice D n d) W := by kernel_rfl
theorem keep7 {W w w' : World} {a0 a1 a2 a3 a4 a5 a6 : Addr} {v0 v1 v2 v3 v4 v5 v6 : Value} (hb : Below w.heap.size w w') (h0 : w.cell? a0 = some v0) (h1 : w.cell? a1 = some v1) (h2 : w.cell? a2 = some v2) (h3 : w.cell? a3 = some v3) (h4 : w.cell? a4 = some v4) (h5 : w.cell? a5 = some v5) (h6 : w.cell? a6 = some v6) (hB : Below W.heap.size W w) :
    w'.cell? a0 = some v0 ∧ w'.cell? a1 = some v1 ∧ w'.cell? a2 = some v2 ∧ w'.cell? a3 = some v3 ∧ w'.cell? a4 = some v4 ∧ w'.cell? a5 = some v5 ∧ w'.cell? a6 = some v6 ∧ Below W.heap.size W w' :=
  ⟨cell_kept hb h0, cell_kept hb h1, cell_kept hb h2, cell_kept hb h3, cell_kept hb h4, cell_kept hb h5, cell_kept hb h6, hB.trans (hb.mono hB.size)⟩

set_option maxRecDepth 100000 in
set_option maxHeartbeats 12000000 in
theorem FnSteps_walk (HB : BentOk) (l : List Int) (A : Option Addr) (c : Nat) (w : World) (hl : l.length ≤ maxLen) (h : Rd .u8 w w.heap.size A l) (b8 : B8 l) :
    Calls Try.prog 3 #[.slice A l.length c] w fun e w' => e = .returned (.bool true) ∧ Below w.heap.size w w' := by
  by_cases hL : l.length ≤ 1048576
  · clear hl
    go_enter Try.func3, Try.ntmps3
    go_wp2_with fail
    refine (lwBig_no l A c w hL).mono ?_
    rintro e w' ⟨rfl, rfl⟩
    go_wp2_with fail
    refine (DrawPackSteps_any HB l A c w hL h b8).mono ?_
    rintro e w1 ⟨ls, D1, d1, rfl, l20, r1, B1⟩
    have ln : ls.length ≤ maxLen := by unfold maxLen; omega
    obtain ⟨pc, hpc⟩ : ∃ x, x = pkC ls := ⟨_, rfl⟩
    obtain ⟨pl, hpl⟩ : ∃ x, x = pkB ls := ⟨_, rfl⟩
    have HPC := hide hpc
    have HPL := hide hpl
    have IP := hide (implPack_any ls D1 d1 w1 ln r1)
    rw [← hpc, ← hpl] at IP
    have plen : pl.length ≤ 144 := by rw [hpl]; exact pkB_len ls
    have p8 : B8 pl := by rw [hpl]; exact pkB_B8 ls
    clear hpc hpl
    go_wp2_with fail
    refine IP.out.mono ?_
    rintro e w2 ⟨Ap, cp, rfl, o2, b2⟩
    have pcap := (own_capE o2).1
    have rp := Rd.of_own o2
    have r1 := (r1.below b2).lt
    have B2 := B1.trans (b2.mono B1.size)
    clear IP o2 b2 B1
    go_wp2_with fail
    have E2 := (Below.refl w2.heap.size w2).alloc (Nat.le_refl _) (.cells #[.int .i64 pc, .slice Ap pl.length cp] 27)
    have k4 := Bk.new w2 #[.int .i64 pc, .slice Ap pl.length cp] 27
    have B2' := B2.trans (E2.mono B2.size)
    refine (DrawUnpackSteps_any l A c _ hL (h.below B2').lt b8).mono ?_
    rintro e w3 ⟨xs, Dx, dx, rfl, xl, xd, x8, rx, b3⟩
    have k4 := k4.kept b3
    have E3 := E2.trans (b3.mono E2.size)
    have rp := (rp.below E3).lt
    have r1 := (r1.below E3).lt
    have B3 := B2.trans (E3.mono B2.size)
    clear b3 E2 E3 B2 B2'
    obtain ⟨uc, huc⟩ : ∃ x, x = unC xs := ⟨_, rfl⟩
    obtain ⟨ul, hul⟩ : ∃ x, x = unE xs := ⟨_, rfl⟩
    have HUC := hide huc
    have HUL := hide hul
    have IU := hide (implUn_any xs Dx dx w3 (by omega) xd rx x8)
    rw [← huc, ← hul] at IU
    have u8 : ul.length ≤ 8 := by rw [hul]; exact unE_len x8
    clear huc hul
    go_wp2_with fail
    refine IU.out.mono ?_
    rintro e w4 ⟨Au, cu, rfl, o4, b4⟩
    have ru := RdE.of_own o4
    have k4 := k4.kept b4
    have rp := (rp.below b4).lt
    have r1 := (r1.below b4).lt
    have rx := (rx.below b4).lt
    have B4 := B3.trans (b4.mono B3.size)
    clear IU o4 b4 B3
    go_wp2_with fail
    have E4 := (Below.refl w4.heap.size w4).alloc (Nat.le_refl _) (.cells #[.int .i64 uc, .slice Au ul.length cu] 31)
    have k6 := Bk.new w4 #[.int .i64 uc, .slice Au ul.length cu] 31
    have B4' := B4.trans (E4.mono B4.size)
    refine (DrawSameSteps_any l A c _ hL (h.below B4').lt b8).mono ?_
    rintro e w5 ⟨ya, yb, Da, Db, da, db, rfl, a20, b20, ra, rb, b5⟩
    have k6 := k6.kept b5
    have E5 := E4.trans (b5.mono E4.size)
    have k4 := k4.kept E5
    have rp := (rp.below E5).lt
    have r1 := (r1.below E5).lt
    have rx := (rx.below E5).lt
    have ru := (ru.below E5).lt
    have B5 := B4.trans (E5.mono B4.size)
    clear b5 E4 E5 B4 B4'
    go_wp2_with fail
    refine (DrawSameTraces_any l A c _ hL (h.below B5).lt b8).mono ?_
    rintro e w6 ⟨ts, us, Dt, Du, dt, du, rfl, t5, u5, t20, u20, rt, rus, b6⟩
    have k6 := k6.kept b6
    have k4 := k4.kept b6
    have rp := (rp.below b6).lt
    have r1 := (r1.below b6).lt
    have rx := (rx.below b6).lt
    have ru := (ru.below b6).lt
    have ra := (ra.below b6).lt
    have rb := (rb.below b6).lt
    have B6 := B5.trans (b6.mono B5.size)
    clear b6 B5 t20 u20
    go_wp2_with fail
    refine (DrawEventFault_any l A c _ hL (h.below B6).lt b8).mono ?_
    rintro e w7 ⟨ek, ea, ev, rfl, b7⟩
    have k6 := k6.kept b7
    have k4 := k4.kept b7
    have rp := (rp.below b7).lt
    have r1 := (r1.below b7).lt
    have rx := (rx.below b7).lt
    have ru := (ru.below b7).lt
    have ra := (ra.below b7).lt
    have rb := (rb.below b7).lt
    have rt := (rt.below b7).lt
    have rus := (rus.below b7).lt
    have B7 := B6.trans (b7.mono B6.size)
    clear b7 B6
    go_wp2_with fail
    have E7 := (Below.refl w7.heap.size w7).alloc (Nat.le_refl _) (.cells #[.int .i64 ek, .int .i64 ea, .int .i64 ev] 39)
    have k11 := Bk.new w7 #[.int .i64 ek, .int .i64 ea, .int .i64 ev] 39
    have B7' := B7.trans (E7.mono B7.size)
    refine (DrawTraceFault_any HB l A c _ hL (h.below B7').lt b8).mono ?_
    rintro e W ⟨vt, Dv, dv, rfl, v5, v20, rv, b9⟩
    have k11 := k11.kept b9
    have E9 := E7.trans (b9.mono E7.size)
    have k6 := k6.kept E9
    have k4 := k4.kept E9
    have rp := (rp.below E9).lt
    have r1 := (r1.below E9).lt
    have rx := (rx.below E9).lt
    have ru := (ru.below E9).lt
    have ra := (ra.below E9).lt
    have rb := (rb.below E9).lt
    have rt := (rt.below E9).lt
    have rus := (rus.below E9).lt
    have BW := B7.trans (E9.mono B7.size)
    clear b9 E7 E9 B7 B7' v20 h
    go_wp2_with fail
    have q20 : W.cell? ⟨w2.heap.size, 0, none⟩ = some (.int .i64 pc) := (k4.cell 0).trans rfl
    have q21 : W.cell? ⟨w2.heap.size, 1, none⟩ = some (.slice Ap pl.length cp) := (k4.cell 1).trans rfl
    have q40 : W.cell? ⟨w4.heap.size, 0, none⟩ = some (.int .i64 uc) := (k6.cell 0).trans rfl
    have q41 : W.cell? ⟨w4.heap.size, 1, none⟩ = some (.slice Au ul.length cu) := (k6.cell 1).trans rfl
    have q70 : W.cell? ⟨w7.heap.size, 0, none⟩ = some (.int .i64 ek) := (k11.cell 0).trans rfl
    have q71 : W.cell? ⟨w7.heap.size, 1, none⟩ = some (.int .i64 ea) := (k11.cell 1).trans rfl
    have q72 : W.cell? ⟨w7.heap.size, 2, none⟩ = some (.int .i64 ev) := (k11.cell 2).trans rfl
    obtain ⟨F1, hF1⟩ : ∃ x, x = sameE ya yb := ⟨_, rfl⟩
    obtain ⟨F2, hF2⟩ : ∃ x, x = sameT ts us := ⟨_, rfl⟩
    obtain ⟨F3, hF3⟩ : ∃ x, x = evF ⟨ek, ea, ev⟩ := ⟨_, rfl⟩
    obtain ⟨F4, hF4⟩ : ∃ x, x = trF vt := ⟨_, rfl⟩
    have SP := hide (fun W hW => specPack_any ls D1 d1 W ln hW)
    have SU := hide (fun W hW => specUn_any xs Dx dx W (by omega) xd hW x8)
    have UU := hide (fun A' c' W hW hW' => implSS_any ul ul Au A' cu c' W (by unfold maxLen; omega) hW hW')
    have I1 := hide (fun W hW hW' => implSS_any ya yb Da Db da db W (by unfold maxLen; omega) hW hW')
    have S1 := hide (fun W hW hW' => specSS_any ya yb Da Db da db W (by unfold maxLen; omega) hW hW')
    have I2 := hide (fun W hW hW' => implST_any ts us Dt Du dt du W (by unfold maxLen; omega) hW hW')
    have S2 := hide (fun W hW hW' => specST_any ts us Dt Du dt du W (by unfold maxLen; omega) hW hW')
    have I3 := hide (fun W => implEvF_any ek ea ev W)
    have S3 := hide (fun W => specEvF_any ek ea ev W)
    have I4 := hide (fun W hW => implTrF_any vt Dv dv W (by unfold maxLen; omega) hW)
    have S4 := hide (fun W hW => specTrF_any vt Dv dv W (by unfold maxLen; omega) hW)
    have I5 := hide (fun W hW => implStF_any ls D1 d1 W ln hW)
    rw [← HPC.out, ← HPL.out] at SP
    rw [← HUC.out, ← HUL.out] at SU
    rw [sameE_refl] at UU
    rw [← hF1] at I1 S1
    rw [← hF2] at I2 S2
    rw [← hF3] at I3 S3
    rw [← hF4] at I4 S4
    rw [show stF ls = pc from HPC.out.symm] at I5
    clear hF1 hF2 hF3 hF4
    have f0 := field_unc
    have f1 := field_une
    go_cut [98] (fun s98 wx => s98 = .bool false ∧ Below W.heap.size W wx)
    case first => as_aux_lemma =>
      go_region_held3 (fun w' => w'.cell? ⟨w2.heap.size, 0, none⟩ = some (.int .i64 pc) ∧ w'.cell? ⟨w2.heap.size, 1, none⟩ = some (.slice Ap pl.length cp) ∧ w'.cell? ⟨w4.heap.size, 0, none⟩ = some (.int .i64 uc) ∧ w'.cell? ⟨w4.heap.size, 1, none⟩ = some (.slice Au ul.length cu) ∧ w'.cell? ⟨w7.heap.size, 0, none⟩ = some (.int .i64 ek) ∧ w'.cell? ⟨w7.heap.size, 1, none⟩ = some (.int .i64 ea) ∧ w'.cell? ⟨w7.heap.size, 2, none⟩ = some (.int .i64 ev) ∧ Below W.heap.size W w')
        (first | assumption | exact ⟨q20, q21, q40, q41, q70, q71, q72, (Below.refl _ _).drew⟩ | (go_split_ands; exact keep7 (by assumption) (by assumption) (by assumption) (by assumption) (by assumption) (by assumption) (by assumption) (by assumption) (by assumption)))
        (first
          | (go_at_call 21; refine (SP.out _ ?_).mono ?_; (go_split_ands; exact (r1.below (by assumption)).lt); rintro e wa ⟨A1, c1, rfl, oa, ba⟩)
          | (go_at_call 20; refine (lwBytes_same pc pl _ _ _ _ _ ?_ ?_ p8).mono ?_; (go_split_ands; exact (rp.below (by assumption)).lt); exact Rd.of_own (by assumption); rintro e wa ⟨rfl, ba⟩)
          | (go_at_call 22; refine (SU.out _ ?_).mono ?_; (go_split_ands; exact (rx.below (by assumption)).lt); rintro e wa ⟨A2, c2, rfl, ou, ba⟩)
          | (go_at_call 23; (with_reducible refine (UU.out _ _ _ ?_ ?_).mono ?_); (go_split_ands; exact (ru.below (by assumption)).lt); exact RdE.of_own (by assumption); rintro e wa ⟨rfl, ba⟩)
          | (go_at_call 23; (with_reducible refine (I1.out _ ?_ ?_).mono ?_); (go_split_ands; exact (ra.below (by assumption)).lt); (go_split_ands; exact (rb.below (by assumption)).lt); rintro e wa ⟨rfl, ba⟩)
          | (go_at_call 24; refine (S1.out _ ?_ ?_).mono ?_; (go_split_ands; exact (ra.below (by assumption)).lt); (go_split_ands; exact (rb.below (by assumption)).lt); rintro e wa ⟨rfl, ba⟩)
          | (go_at_call 25; refine (I2.out _ ?_ ?_).mono ?_; (go_split_ands; exact (rt.below (by assumption)).lt); (go_split_ands; exact (rus.below (by assumption)).lt); rintro e wa ⟨rfl, ba⟩)
          | (go_at_call 26; refine (S2.out _ ?_ ?_).mono ?_; (go_split_ands; exact (rt.below (by assumption)).lt); (go_split_ands; exact (rus.below (by assumption)).lt); rintro e wa ⟨rfl, ba⟩)
          | (go_at_call 27; refine (I3.out _).mono ?_; rintro e wa ⟨rfl, ba⟩)
          | (go_at_call 28; refine (S3.out _).mono ?_; rintro e wa ⟨rfl, ba⟩)
          | (go_at_call 29; refine (I4.out _ ?_).mono ?_; (go_split_ands; exact (rv.below (by assumption)).lt); rintro e wa ⟨rfl, ba⟩)
          | (go_at_call 30; refine (S4.out _ ?_).mono ?_; (go_split_ands; exact (rv.below (by assumption)).lt); rintro e wa ⟨rfl, ba⟩)
          | (go_at_call 31; refine (I5.out _ ?_).mono ?_; (go_split_ands; exact (r1.below (by assumption)).lt); rintro e wa ⟨rfl, ba⟩))
      go_wp2_with fail
      go_meet
      exact ⟨rfl, by go_split_ands; assumption⟩
    case rest =>
      obtain ⟨rfl, C1⟩ := hcut
      clear q20 q21 q40 q41 q70 q71 q72 SP SU UU I1 S1 I2 S2 I3 S3 I4 S4 I5 f0 f1
      go_upto_region 13 with (fail)
      go_cut [110] (fun s110 wx => s110 = .bool false ∧ Below W.heap.size W wx)
      case first => as_aux_lemma =>
        have j6 := k6.kept C1
        have rx2 := (rx.below C1).lt
        have ru2 := (ru.below C1).lt
        by_cases huc : uc = 0
        · have PU := pack_un x8 (show unC xs = 0 by rw [← HUC.out]; exact huc)
          rw [← HUL.out] at PU
          have IP := hide (fun W hW => implPack_any ul Au cu W (by unfold maxLen; omega) hW)
          rw [PU.1] at IP
          have q0 := (j6.cell 0).trans (rfl : _ = some (Value.int .i64 uc))
          have q1 := (j6.cell 1).trans (rfl : _ = some (Value.slice Au ul.length cu))
          subst huc
          clear PU HUC HUL
          have hfl := field_bytes
          go_wp2_with fail
          refine (IP.out _ ru2).mono ?_
          rintro e wa ⟨A1, c1, rfl, oa, ba⟩
          have CA := C1.trans (ba.mono C1.size)
          have rx3 := (rx2.below ba).lt
          go_wp2_with fail
          refine (lwSame_any xs xs A1 Dx c1 dx wa (Rd.of_own oa) rx3 x8 x8).mono ?_
          rintro e wb ⟨rfl, rfl⟩
          rw [show sameB xs xs = true by unfold sameB; simp]
          go_wp2_with fail
          go_meet
          exact ⟨rfl, CA⟩
        · have b0 : (uc == 0) = false := beq_eq_false_iff_ne.2 huc
          have q0 := (j6.cell 0).trans (rfl : _ = some (Value.int .i64 uc))
          clear huc
          go_wp2_with fail
          go_meet
          exact ⟨rfl, C1⟩
      case rest =>
        obtain ⟨rfl, C2⟩ := hcut
        clear C1
        have j4 := k4.kept C2
        have rp2 := (rp.below C2).lt
        have rl2 := (r1.below C2).lt
        have q0 := (j4.cell 0).trans (rfl : _ = some (Value.int .i64 pc))
        have q1 := (j4.cell 1).trans (rfl : _ = some (Value.slice Ap pl.length cp))
        by_cases hpc : pc = 0
        · have hst : stF ls = 0 := by rw [← show pc = stF ls from HPC.out]; exact hpc
          have PU := un_pack hst
          rw [← HPL.out] at PU
          have IU := hide (fun W hW => implUn_any pl Ap cp W (by omega) pcap hW p8)
          rw [PU.1, PU.2] at IU
          subst hpc
          clear PU hst HPC HPL
          go_wp2_with fail
          refine (IU.out _ rp2).mono ?_
          rintro e wa ⟨A1, c1, rfl, oa, ba⟩
          have ka := Bk.new wa #[.int .i64 0, .slice A1 ls.length c1] 31
          have CA := C2.trans (ba.mono C2.size)
          have rl3 := (((rl2.below ba).lt).alloc (Nat.le_refl _) (.cells #[.int .i64 0, .slice A1 ls.length c1] 31)).lt
          have rk3 := ((RdE.of_own oa).alloc (Nat.le_refl _) (.cells #[.int .i64 0, .slice A1 ls.length c1] 31)).lt
          have CB := CA.alloc CA.size (.cells #[.int .i64 0, .slice A1 ls.length c1] 31)
          clear q0 q1 oa ba CA
          go_wp2_with fail
          refine (implSS_any ls ls A1 D1 c1 d1 _ ln rk3 rl3).mono ?_
          rw [sameE_refl]
          rintro e wb ⟨rfl, bb⟩
          have kb := ka.kept bb
          have q1 := (kb.cell 1).trans (rfl : _ = some (Value.slice A1 ls.length c1))
          have CC := CB.trans (bb.mono CB.size)
          have rl4 := (rl3.below bb).lt
          have rk4 := (rk3.below bb).lt
          clear bb CB ka rl3 rk3
          go_wp2_with fail
          refine (specSS_any ls ls A1 D1 c1 d1 _ ln rk4 rl4).mono ?_
          rw [sameE_refl]
          rintro e wd ⟨rfl, bd⟩
          have CD := CC.trans (bd.mono CC.size)
          go_wp2
          go_ret
          exact ⟨rfl, BW.trans (CD.mono BW.size)⟩
        · have b0 : (pc != 0) = true := bne_iff_ne.2 hpc
          have b1 : (pc == 0) = false := beq_eq_false_iff_ne.2 hpc
          clear hpc
          go_wp2
          go_ret
          exact ⟨rfl, BW.trans (C2.mono BW.size)⟩
  · go_enter Try.func3, Try.ntmps3
    go_wp2_with fail
    refine (lwBig_yes l A c w hL hl).mono ?_
    rintro e w' ⟨rfl, rfl⟩
    go_wp2
    go_ret
    exact ⟨rfl, Below.refl _ _⟩
end Go.Proofs.Ytjdbakebcdkfcaa
