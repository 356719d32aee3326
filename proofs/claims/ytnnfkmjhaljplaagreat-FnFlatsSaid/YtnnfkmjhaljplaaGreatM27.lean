/- What the laws' walks rest upon, part 27. -/
import Derived.Test.YtnnfkmjhaljplaaGreatM19
import Derived.Test.YtnnfkmjhaljplaaGreatM26
import Derived.Test.YtnnfkmjhaljplaaGreatM12
namespace Go.Proofs.YtnnfkmjhaljplaaGreat
open Go.RowKit
set_option maxRecDepth 100000 in
set_option maxHeartbeats 6400000 in
theorem implSim_any (t : List (List Ev)) (L : Int) (picks : List Int) (A Ap : Option Addr) (c cp : Nat) (w : World) (hm : t.length ≤ maxLen) (hpm : picks.length ≤ maxLen) (hpI : ∀ p ∈ picks, I64 p) (h : RdT w w.heap.size A t) (hp : Rd .i64 w w.heap.size Ap picks) :
    Calls Tryz.prog 8 #[.slice A t.length c, .int .i64 L, .slice Ap picks.length cp] w (SimPost (simR t L picks) w) := by
  unfold SimPost
  obtain ⟨C, S, M, hC⟩ : ∃ C S M, simR t L picks = (C, S, M) := ⟨_, _, _, rfl⟩
  rw [hC]
  have HC := hide hC
  clear hC
  obtain ⟨W, hW⟩ : ∃ W, W = w.alloc (Obj.cells #[.int .i64 0, .slice none 0 0, .slice none 0 0, .slice none 0 0] 37) := ⟨_, rfl⟩
  have k1 : Bk W w.heap.size #[.int .i64 0, .slice none 0 0, .slice none 0 0, .slice none 0 0] 37 := by rw [hW]; exact Bk.new _ _ _
  have B0 : Below w.heap.size w W := by rw [hW]; exact (Below.refl _ _).alloc (Nat.le_refl _) _
  have hz : W.heap.size = w.heap.size + 1 := by rw [hW]; simp
  have HW := hide hW
  clear hW
  have hset : ∀ V : World, Below w.heap.size w V → ∀ (x0 x1 x2 x3 : Value), Below w.heap.size w ((((V.setCell ⟨w.heap.size, 0, none⟩ x0).setCell ⟨w.heap.size, 1, none⟩ x1).setCell ⟨w.heap.size, 2, none⟩ x2).setCell ⟨w.heap.size, 3, none⟩ x3) := fun V hb x0 x1 x2 x3 => (((hb.setCell (Nat.le_refl _) x0).setCell (Nat.le_refl _) x1).setCell (Nat.le_refl _) x2).setCell (Nat.le_refl _) x3
  have HSET := hide hset
  have PF := hide (implPgF_any t A c W hm (h.below B0).lt)
  clear hset
  go_enter Tryz.func8, Tryz.ntmps8
  go_wp2_with fail
  rw [← HW.out]
  refine PF.out.mono ?_
  rintro e w1 ⟨rfl, b1⟩
  replace k1 := k1.kept b1
  have B1 := B0.trans (b1.mono B0.size)
  have z1 := b1.size
  clear PF b1 B0
  by_cases hg : pgF t = 0
  · rw [hg]
    obtain ⟨⟨ht1, ht4⟩, hall⟩ := pgF_zero hg
    have htr := pgF_tr hg
    obtain ⟨N, hN⟩ : ∃ N, N = t.length := ⟨_, rfl⟩
    have HN := hide hN.symm
    have NW := hide (implNew_any (t.length : Int) L w1)
    unfold MrPost at NW
    rw [← hN] at NW ht1 ht4
    have hNt : t.length = N := hN.symm
    rw [hNt]
    clear hN
    go_wp2_with fail
    refine NW.out.mono ?_
    rintro e w2 ⟨A2, c2, A2p, c2p, us2, rfl, om, b2⟩
    replace k1 := k1.kept b2
    have B2 := B1.trans (b2.mono B1.size)
    have z2 := b2.size
    clear NW b2
    by_cases hLL : 1 ≤ L ∧ L ≤ 4
    · rw [newR_ok (show newOk (N : Int) L from ⟨by omega, hLL⟩)] at om ⊢
      obtain ⟨Ln, rfl⟩ := Int.eq_ofNat_of_zero_le (show 0 ≤ L by omega)
      rw [Int.toNat_natCast, Int.toNat_natCast] at om ⊢
      obtain ⟨m0, hm0⟩ : ∃ m0, m0 = newM N Ln := ⟨_, rfl⟩
      have G0 : GoodM N Ln m0 := by rw [hm0]; exact new_good (by omega)
      have hm0l : m0.mem.length ≤ 1 := by rw [hm0]; simp [newM]
      rw [← hm0] at om ⊢
      have HM0 := hide hm0
      have HLL := hide hLL
      have HM0N := hide (show m0.cs.length = N from G0.shp.1)
      clear hm0 hLL
      have k8 := Bk.new w2 #[.int .i64 0, .slice A2 m0.cs.length c2, .slice A2p m0.mem.length c2p, .int .i64 0] 72
      replace k1 := k1.alloc (Obj.cells #[.int .i64 0, .slice A2 m0.cs.length c2, .slice A2p m0.mem.length c2p, .int .i64 0] 72)
      have om2 := om.alloc (Obj.cells #[.int .i64 0, .slice A2 m0.cs.length c2, .slice A2p m0.mem.length c2p, .int .i64 0] 72)
      have B3 := B2.alloc B2.size (Obj.cells #[.int .i64 0, .slice A2 m0.cs.length c2, .slice A2p m0.mem.length c2p, .int .i64 0] 72)
      have R2 := om2.rd
      obtain ⟨X8, hX8⟩ : ∃ X8, X8 = w2.alloc (Obj.cells #[.int .i64 0, .slice A2 m0.cs.length c2, .slice A2p m0.mem.length c2p, .int .i64 0] 72) := ⟨_, rfl⟩
      rw [← hX8] at k8 k1 om2 B3 R2
      obtain ⟨b8, hb8⟩ : ∃ b8, b8 = w2.heap.size := ⟨_, rfl⟩
      rw [← hb8] at k8
      have zX8 : X8.heap.size = w2.heap.size + 1 := by rw [hX8]; simp
      have hb8z : w.heap.size < b8 ∧ b8 < X8.heap.size := ⟨by omega, by omega⟩
      clear zX8
      have HX8 := hide hX8
      have HB8 := hide hb8
      have EV := hide (eventsOf_any t A c X8 (by rw [HN.out]; exact ht1) (by rw [HN.out]; exact ht4) (fun l hl => (hall l hl).1) ((h.below B3).more B3.size).lt)
      rw [hNt] at EV
      have HHALL := hide hall
      have c8 := (k8.cell 0).trans (rfl : _ = some (Value.int .i64 0))
      clear hX8 hb8 om om2 hall B2
      go_upto_region 5 with fail
      rw [← HX8.out, ← HB8.out]
      go_wp2_with fail
      refine EV.out.mono ?_
      rintro e w3 ⟨gE, usE, rfl, oE, b3⟩
      clear EV c8
      replace k1 := k1.kept b3
      replace k8 := k8.kept b3
      replace R2 := R2.below b3
      have B4 := B3.trans (b3.mono B3.size)
      have z3 := b3.size
      have rE : RdT w3 w3.heap.size (some ⟨gE, 0, none⟩) t := by
        have h9 := oE
        rw [← hNt] at h9
        exact h9.rd
      have MG := hide (implMg_any t picks (some ⟨gE, 0, none⟩) Ap N cp w3 hm hpm hpI rE ((hp.below B4).more B4.size).lt)
      unfold MgPost at MG
      rw [hNt] at MG
      clear oE b3 rE B3
      go_wp2_with fail
      refine MG.out.mono ?_
      rintro e w4 ⟨LA, cL, rfl, oL, b4⟩
      replace k1 := k1.kept b4
      replace k8 := k8.kept b4
      replace R2 := R2.below (b4.mono z3)
      have B5 := B4.trans (b4.mono B4.size)
      have z4 := b4.size
      clear MG b4 B4
      by_cases hpk : picks.length ≤ 100
      · rw [mgC_ok htr hpk]
        have hml : mgL t picks = logO t (ordF t picks) := if_pos (mgC_ok htr hpk)
        rw [hml] at oL ⊢
        obtain ⟨l, hl⟩ : ∃ l, l = logO t (ordF t picks) := ⟨_, rfl⟩
        rw [← hl] at oL ⊢
        have hsim : simL t (Ln : Int) picks = runL m0 l := by unfold simL; rw [HN.out, Int.toNat_natCast, ← HM0.out, ← hl]
        have e0 := HC.out
        rw [simR_ok (simC_ok hg HLL.out hpk), hsim] at e0
        simp only [Prod.mk.injEq] at e0
        obtain ⟨rfl, e0⟩ := e0
        have HS := hide (show (runL m0 l).1 = S ∧ (runL m0 l).2 = M by rw [e0]; exact ⟨rfl, rfl⟩)
        have hops : ∀ s ∈ l, (0 ≤ s.c ∧ s.c < (N : Int)) ∧ opF s.e = 0 := fun s hs => by
          rw [hl] at hs
          obtain ⟨a, l2, hl2, he⟩ := logO_mem (ordF_ok t picks) hs
          rw [HN.out] at a
          exact ⟨a, (HHALL.out l2 hl2).2 _ he⟩
        have hrun := fun i => run_ok (n := N) (L := Ln) (l.take i) m0 (fun _ => 0) [] G0 (fun s hs => hops s (List.mem_of_mem_take hs)) (fun a => by rw [HM0.out]; exact new_has _ _ a) (by rw [HM0.out]; exact new_src _ _)
        have HRUN := hide hrun
        have HOPS := hide hops
        have hl32 : l.length ≤ 1000 := by
          have hF := logF_logO (picks := picks) htr
          rw [← hl] at hF
          have := (logF_zero hF).2.1
          omega
        clear hl hml hsim e0 hops hrun
        obtain ⟨n, hn⟩ : ∃ n, n = l.length := ⟨_, rfl⟩
        rw [← hn] at oL hl32 ⊢
        have HNL := hide hn.symm
        clear hn
        have k9 := Bk.new w4 #[.int .i64 0, .slice LA n cL] 75
        have e9 := (Below.refl w4.heap.size w4).alloc (Nat.le_refl _) (Obj.cells #[.int .i64 0, .slice LA n cL] 75)
        replace k1 := k1.kept e9
        replace k8 := k8.kept e9
        replace R2 := (R2.below (e9.mono (by omega)))
        have oL2 := own_below oL e9 (Nat.le_refl _)
        have B6 := B5.trans (e9.mono (by omega))
        have hLb := fun b e => (oL.lt b e).2
        obtain ⟨X9, hX9⟩ : ∃ X9, X9 = w4.alloc (Obj.cells #[.int .i64 0, .slice LA n cL] 75) := ⟨_, rfl⟩
        rw [← hX9] at k9 k1 k8 R2 oL2 B6
        have zX9 : X9.heap.size = w4.heap.size + 1 := by rw [hX9]; simp
        obtain ⟨b9, hb9⟩ : ∃ b9, b9 = w4.heap.size := ⟨_, rfl⟩
        rw [← hb9] at k9 hLb zX9
        have hq9 : w.heap.size < b9 := by omega
        have HX9 := hide hX9
        have HB9 := hide hb9
        have BO := hide (busOf_any m0 A2 A2p c2 c2p X9 G0 (by omega) (R2.more (by omega)))
        unfold BusOfPost at BO
        have c9 := (k9.cell 0).trans (rfl : _ = some (Value.int .i64 0))
        have c81 := (k8.cell 1).trans (rfl : _ = some (Value.slice A2 m0.cs.length c2))
        have c82 := (k8.cell 2).trans (rfl : _ = some (Value.slice A2p m0.mem.length c2p))
        clear hX9 hb9 oL e9 B5
        go_upto_region 8 with fail
        rw [← HX9.out, ← HB9.out]
        go_wp2_with fail
        refine BO.out.mono ?_
        rintro e w5 ⟨gv, cg, pm, vm, us, rfl, hb, b5⟩
        clear BO c9 c81 c82 k8 R2
        replace k1 := k1.kept b5
        replace k9 := k9.kept b5
        have oL3 := own_below oL2 b5 (Nat.le_refl _)
        have B7 := B6.trans (b5.mono B6.size)
        have z5 := b5.size
        have k10 := Bk.new w5 #[.slice (some ⟨gv, 0, none⟩) m0.cs.length cg, .pointer (some ⟨pm, 0, none⟩)] 81
        have e10 := (Below.refl w5.heap.size w5).alloc (Nat.le_refl _) (Obj.cells #[.slice (some ⟨gv, 0, none⟩) m0.cs.length cg, .pointer (some ⟨pm, 0, none⟩)] 81)
        have SA : SimAt w (w5.alloc (Obj.cells #[.slice (some ⟨gv, 0, none⟩) m0.cs.length cg, .pointer (some ⟨pm, 0, none⟩)] 81)) w.heap.size b9 w5.heap.size w3.heap.size X9.heap.size gv cg pm LA cL n l m0 vm us :=
          ⟨k1.kept e10, k9.kept e10, k10, own_below oL3 e10 (Nat.le_refl _), hb.alloc _, ⟨by omega, by omega, hLb, hq9, z5⟩, fun e => by have := hb.low e; omega, B7.trans (e10.mono B7.size)⟩
        obtain ⟨X10, hX10⟩ : ∃ X10, X10 = w5.alloc (Obj.cells #[.slice (some ⟨gv, 0, none⟩) m0.cs.length cg, .pointer (some ⟨pm, 0, none⟩)] 81) := ⟨_, rfl⟩
        rw [← hX10] at SA
        obtain ⟨b10, hb10⟩ : ∃ b10, b10 = w5.heap.size := ⟨_, rfl⟩
        rw [← hb10] at SA
        obtain ⟨base1, hbase1⟩ : ∃ x, x = w3.heap.size := ⟨_, rfl⟩
        obtain ⟨base2, hbase2⟩ : ∃ x, x = X9.heap.size := ⟨_, rfl⟩
        rw [← hbase1, ← hbase2] at SA
        have HX10 := hide hX10
        have HB10 := hide hb10
        have HBA := hide (And.intro hbase1 hbase2)
        obtain ⟨q, hq⟩ : ∃ q, q = w.heap.size := ⟨_, rfl⟩
        rw [← hq] at SA
        have HQ := hide hq
        have c91 := (SA.box9.cell 1).trans (rfl : _ = some (Value.slice LA n cL))
        have SA0 : SimAt w X10 q b9 b10 base1 base2 gv cg pm LA cL n (logI m0 l 0) (runL m0 (l.take 0)).2 vm us := by rw [logI_zero]; exact SA
        clear hX10 hb10 hbase1 hbase2 hq k1 k9 oL2 oL3 B6 B7 b5 hb k10 e10 hLb SA
        go_upto_region 11 with fail
        rw [← HX10.out, ← HB10.out]
        go_wp2
        clear c91
        rw [← HQ.out]
        go_loopw [45] (fun s wr => ∃ (i : Nat) (vm : Value), i ≤ n ∧ s = .int .i64 i ∧ SimAt w wr q b9 b10 base1 base2 gv cg pm LA cL n (logI m0 l i) (runL m0 (l.take i)).2 vm us) (fun s _ => n - (intOf s).toNat)
        case atStart => exact ⟨0, _, Nat.zero_le _, rfl, SA0⟩
        case round =>
          clear SA0
          obtain ⟨i, vm, hin, rfl, SA⟩ := hrel
          have hr := HRUN.out i
          obtain ⟨_, GI, _, _⟩ := hr
          obtain ⟨mI, hmI⟩ : ∃ mI, mI = (runL m0 (l.take i)).2 := ⟨_, rfl⟩
          rw [← hmI] at SA GI
          have hIn : mI.cs.length = N := GI.shp.1
          obtain ⟨XI, hXI⟩ : ∃ XI, XI = logI m0 l i := ⟨_, rfl⟩
          rw [← hXI] at SA
          have hXl : XI.length = n := by rw [hXI, logI_length m0 l (by rw [HNL.out]; exact hin), HNL.out]
          by_cases hlt : i < n
          · have hil : i < l.length := by rw [HNL.out]; exact hlt
            have hiX : i < XI.length := by omega
            obtain ⟨x, hx⟩ : ∃ x, x = XI[i] := ⟨_, rfl⟩
            have hxl : x = l[i] := by rw [hx]; subst hXI; exact logI_get m0 l (Nat.le_refl i) hil hiX
            obtain ⟨hcr, hox⟩ := HOPS.out x (by rw [hxl]; exact List.getElem_mem hil)
            obtain ⟨cr, hcx⟩ := Int.eq_ofNat_of_zero_le hcr.1
            have hcN : cr < N := by omega
            obtain ⟨bL, capL, cur, hLA, hcur⟩ := own_open SA.log (by omega)
            clear hcur
            simp only [Value.slice.injEq, true_and] at hLA
            obtain ⟨rfl, rfl⟩ := hLA
            obtain ⟨s0, s1, s2, s3⟩ := stps_get XI i hiX
            rw [← hx, hcx] at s0
            rw [← hx] at s1 s2 s3
            have d0 : wr.cell? ⟨bL, i * 4, none⟩ = some (.int .i64 cr) := by rw [SA.log.cellAt _ (by omega)]; exact s0
            have d1 : wr.cell? ⟨bL, i * 4 + 1, none⟩ = some (.int .i64 x.e.k) := by rw [SA.log.cellAt _ (by omega)]; exact s1
            have d2 : wr.cell? ⟨bL, i * 4 + 2, none⟩ = some (.int .i64 x.e.a) := by rw [SA.log.cellAt _ (by omega)]; exact s2
            have d3 : wr.cell? ⟨bL, i * 4 + 3, none⟩ = some (.int .i64 x.e.v) := by rw [SA.log.cellAt _ (by omega)]; exact s3
            have hpd := pDo_eq GI hcN hox
            have hdid := do_ok GI hcN hox
            obtain ⟨mJ, hmJ⟩ : ∃ mJ, mJ = (doM mI cr x.e).1 := ⟨_, rfl⟩
            obtain ⟨vJ, hvJ⟩ : ∃ vJ, vJ = (doM mI cr x.e).2 := ⟨_, rfl⟩
            have hJ : doM mI cr x.e = (mJ, vJ) := by rw [hmJ, hvJ]
            rw [hJ] at hpd hdid
            have hJn : mJ.cs.length = mI.cs.length := by rw [hdid.good.shp.1, hIn]
            have HSTEP := hide (show (logI m0 l (i + 1) = XI.set i ⟨x.c, ⟨x.e.k, x.e.a, vJ⟩⟩) ∧ (runL m0 (l.take (i + 1))).2 = mJ from ⟨by rw [← logI_step m0 l hil, ← hxl, ← hXI, ← hmI, hcx, Int.toNat_natCast, hJ], by rw [mac_step m0 l hil, ← hxl, ← hmI, hcx, Int.toNat_natCast, hJ]⟩)
            have HPD := hide hpd
            have HJN := hide hJn
            have HXX := hide (And.intro hXl hx)
            have HGI := hide GI
            have HOX := hide hox
            have HSA := hide SA
            have p0 := SA.box9.lt
            clear hx hxl hcr hcx hpd hdid hJ hmJ hvJ hJn hXI hmI s0 s1 s2 s3 hXl GI hox SA hil
            go_wp2_with fail
            clear d0 d1 d2 d3
            have kp := Bk.new wr #[.int .i64 cr, .int .i64 x.e.k, .int .i64 x.e.a, .int .i64 x.e.v] 66
            have S1 := HSA.out.below ((Below.refl wr.heap.size wr).alloc (Nat.le_refl _) (Obj.cells #[.int .i64 cr, .int .i64 x.e.k, .int .i64 x.e.a, .int .i64 x.e.v] 66))
            obtain ⟨p, hp⟩ : ∃ p, p = wr.heap.size := ⟨_, rfl⟩
            rw [← hp] at kp ⊢
            have hpS : ¬ BusS pm vm us p := fun e => by have := HSA.out.bus.low e; omega
            have hp9 : ∀ b, (Value.slice (some ⟨bL, 0, none⟩) n cL).ownBlock = some b → b ≠ p := fun b e => by have := (HSA.out.log.lt b e).2; omega
            obtain ⟨Y, hY⟩ : ∃ Y, Y = wr.alloc (Obj.cells #[.int .i64 cr, .int .i64 x.e.k, .int .i64 x.e.a, .int .i64 x.e.v] 66) := ⟨_, rfl⟩
            rw [← hY] at kp S1 ⊢
            clear hY hp p0
            have S2 := S1.below (Below.refl _ _).drew
            have kd : Bk Y.drew p #[.int .i64 cr, .int .i64 x.e.k, .int .i64 x.e.a, .int .i64 x.e.v] 66 := kp
            have AC : ∀ (V : World) (m : Mac) (vm : Value) (X : List Stp), m.cs.length = N → SimAt w V q b9 b10 base1 base2 gv cg pm (some ⟨bL, 0, none⟩) cL n X m vm us → Bk V p #[.int .i64 cr, .int .i64 x.e.k, .int .i64 x.e.a, .int .i64 x.e.v] 66 → V.cell? ⟨b9, 1, none⟩ = some (Value.slice (some ⟨bL, 0, none⟩) n cL) ∧ V.cell? ⟨b10, 0, none⟩ = some (Value.slice (some ⟨gv, 0, none⟩) N cg) ∧ V.cell? ⟨b10, 1, none⟩ = some (Value.pointer (some ⟨pm, 0, none⟩)) ∧ V.cell? ⟨p, 0, none⟩ = some (Value.int .i64 cr) ∧ V.cell? ⟨p, 1, none⟩ = some (Value.int .i64 x.e.k) ∧ V.cell? ⟨p, 2, none⟩ = some (Value.int .i64 x.e.a) ∧ V.cell? ⟨p, 3, none⟩ = some (Value.int .i64 x.e.v) := fun V m vm X hm hs hk => by
              have e0 := hs.box10.cell 0
              rw [hm] at e0
              exact ⟨(hs.box9.cell 1).trans rfl, e0.trans rfl, (hs.box10.cell 1).trans rfl, (hk.cell 0).trans rfl, (hk.cell 1).trans rfl, (hk.cell 2).trans rfl, (hk.cell 3).trans rfl⟩
            have a0 := AC _ _ _ _ hIn S2 kd
            have HAC := hide AC
            clear AC S1 kp
            refine wp_region_F 12 (fun w' => w'.cell? ⟨b9, 1, none⟩ = some (Value.slice (some ⟨bL, 0, none⟩) n cL) ∧ w'.cell? ⟨b10, 0, none⟩ = some (Value.slice (some ⟨gv, 0, none⟩) N cg) ∧ w'.cell? ⟨b10, 1, none⟩ = some (Value.pointer (some ⟨pm, 0, none⟩)) ∧ w'.cell? ⟨p, 0, none⟩ = some (Value.int .i64 cr) ∧ w'.cell? ⟨p, 1, none⟩ = some (Value.int .i64 x.e.k) ∧ w'.cell? ⟨p, 2, none⟩ = some (Value.int .i64 x.e.a) ∧ w'.cell? ⟨p, 3, none⟩ = some (Value.int .i64 x.e.v)) (fun w' => True) (by kernel_rfl) ⟨a0, trivial⟩ (fun hHeld => ?_)
            try simp only [Act.put, List.setIfInBounds_toArray, List.set_cons_zero, List.set_cons_succ]
            clear a0
            generalize Y.drew = Z at *
            refine wpAnyF_take (i := 0) (v := ?_) (by (simp only [List.getElem?_toArray, List.getElem?_cons_zero]; rfl)) (by kernel_rfl) (by kernel_rfl) (by kernel_rfl) (by decide) (by exact fun _ _ _ h => h) ⟨hHeld.1, .inr hHeld.2⟩ (Or.inl ⟨by rfl, ?_⟩) ?_
            rotate_left
            · (intro w' _; go_simp <;> with_reducible rfl)
            try simp only [Act.put, List.setIfInBounds_toArray, List.set_cons_zero, List.set_cons_succ]
            refine wpAnyF_keep (i := 1) (v := ?_) (by (simp only [List.getElem?_toArray, List.getElem?_cons_succ, List.getElem?_cons_zero]; rfl)) (by kernel_rfl) (by kernel_rfl) (by kernel_rfl) (by decide) (by exact fun _ _ _ h => h) ⟨hHeld.1, .inr hHeld.2⟩ (Or.inl ⟨by rfl, ?_⟩) ?_
            rotate_left
            · (intro w' hSw; (try dsimp only at hSw); obtain ⟨hSa0, hSa1, hSa2, hSa3, hSa4, hSa5, hSa6⟩ := hSw; go_simp <;> with_reducible rfl)
            try simp only [Act.put, List.setIfInBounds_toArray, List.set_cons_zero, List.set_cons_succ]
            refine wpAnyF_take (i := 2) (v := ?_) (by (simp only [List.getElem?_toArray, List.getElem?_cons_succ, List.getElem?_cons_zero]; rfl)) (by kernel_rfl) (by kernel_rfl) (by kernel_rfl) (by decide) (by exact fun _ _ _ h => h) ⟨hHeld.1, .inr hHeld.2⟩ (Or.inl ⟨by rfl, ?_⟩) ?_
            rotate_left
            · (intro w' _; go_simp <;> with_reducible rfl)
            try simp only [Act.put, List.setIfInBounds_toArray, List.set_cons_zero, List.set_cons_succ]
            refine wpAnyF_keep (i := 3) (v := ?_) (by (simp only [List.getElem?_toArray, List.getElem?_cons_succ, List.getElem?_cons_zero]; rfl)) (by kernel_rfl) (by kernel_rfl) (by kernel_rfl) (by decide) (by exact fun _ _ _ h => h) ⟨hHeld.1, .inr hHeld.2⟩ (Or.inl ⟨by rfl, ?_⟩) ?_
            rotate_left
            · (intro w' hSw; (try dsimp only at hSw); obtain ⟨hSa0, hSa1, hSa2, hSa3, hSa4, hSa5, hSa6⟩ := hSw; go_simp <;> with_reducible rfl)
            try simp only [Act.put, List.setIfInBounds_toArray, List.set_cons_zero, List.set_cons_succ]
            refine wpAnyF_take (i := 4) (v := ?_) (by (simp only [List.getElem?_toArray, List.getElem?_cons_succ, List.getElem?_cons_zero]; rfl)) (by kernel_rfl) (by kernel_rfl) (by kernel_rfl) (by decide) (by exact fun _ _ _ h => h) ⟨hHeld.1, .inr hHeld.2⟩ (Or.inl ⟨by rfl, ?_⟩) ?_
            rotate_left
            · (intro w' _; go_simp <;> with_reducible rfl)
            try simp only [Act.put, List.setIfInBounds_toArray, List.set_cons_zero, List.set_cons_succ]
            refine wpAnyF_keep (i := 5) (v := ?_) (by (simp only [List.getElem?_toArray, List.getElem?_cons_succ, List.getElem?_cons_zero]; rfl)) (by kernel_rfl) (by kernel_rfl) (by kernel_rfl) (by decide) (by exact fun _ _ _ h => h) ⟨hHeld.1, .inr hHeld.2⟩ (Or.inl ⟨by rfl, ?_⟩) ?_
            rotate_left
            · (intro w' hSw; (try dsimp only at hSw); obtain ⟨hSa0, hSa1, hSa2, hSa3, hSa4, hSa5, hSa6⟩ := hSw; go_simp <;> with_reducible rfl)
            try simp only [Act.put, List.setIfInBounds_toArray, List.set_cons_zero, List.set_cons_succ]
            refine wpAnyF_take (i := 6) (v := ?_) (by (simp only [List.getElem?_toArray, List.getElem?_cons_succ, List.getElem?_cons_zero]; rfl)) (by kernel_rfl) (by kernel_rfl) (by kernel_rfl) (by decide) (by exact fun _ _ _ h => h) ⟨hHeld.1, .inr hHeld.2⟩ (Or.inl ⟨by rfl, ?_⟩) ?_
            rotate_left
            · (intro w' _; go_simp <;> with_reducible rfl)
            try simp only [Act.put, List.setIfInBounds_toArray, List.set_cons_zero, List.set_cons_succ]
            refine wpAnyF_keep (i := 7) (v := ?_) (by (simp only [List.getElem?_toArray, List.getElem?_cons_succ, List.getElem?_cons_zero]; rfl)) (by kernel_rfl) (by kernel_rfl) (by kernel_rfl) (by decide) (by exact fun _ _ _ h => h) ⟨hHeld.1, .inr hHeld.2⟩ (Or.inl ⟨by rfl, ?_⟩) ?_
            rotate_left
            · (intro w' hSw; (try dsimp only at hSw); obtain ⟨hSa0, hSa1, hSa2, hSa3, hSa4, hSa5, hSa6⟩ := hSw; go_simp <;> with_reducible rfl)
            try simp only [Act.put, List.setIfInBounds_toArray, List.set_cons_zero, List.set_cons_succ]
            refine wpAnyF_ready (rs := [8]) (by kernel_rfl) (by simp) ?_
            refine AllReadyF.cons (by (simp only [List.getElem?_toArray, List.getElem?_cons_succ, List.getElem?_cons_zero]; rfl)) (fun K hK => ?_) AllReadyF.nil
            go_simp
            have DO := busDo_any S2.bus HGI.out hcN HOX.out
            rw [HPD.out] at DO
            go_at_call 31
            refine DO.mono ?_
            clear DO
            rintro e wz ⟨rfl, vm2, hb2, mv2, bt2⟩
            have S3 := S2.did hb2 mv2 bt2 HJN.out
            have kz := bt2.bk kd hpS
            have a3 := HAC.out _ _ _ _ (HJN.out.trans hIn) S3 kz
            clear hb2 mv2 bt2
            refine hK.out _ _ ⟨a3, trivial⟩ (fun hNew => ?_)
            clear hK K hHeld
            have hHeld := hNew
            clear hNew
            clear S2 kd
            refine wpAnyF_take (i := 9) (v := ?_) (by (simp only [List.getElem?_toArray, List.getElem?_cons_succ, List.getElem?_cons_zero]; rfl)) (by kernel_rfl) (by kernel_rfl) (by kernel_rfl) (by decide) (by exact fun _ _ _ h => h) ⟨hHeld.1, .inr hHeld.2⟩ (Or.inl ⟨by rfl, ?_⟩) ?_
            rotate_left
            · (intro w' _; go_simp <;> with_reducible rfl)
            try simp only [Act.put, List.setIfInBounds_toArray, List.set_cons_zero, List.set_cons_succ]
            refine wpAnyF_take (i := 10) (v := ?_) (by (simp only [List.getElem?_toArray, List.getElem?_cons_succ, List.getElem?_cons_zero]; rfl)) (by kernel_rfl) (by kernel_rfl) (by kernel_rfl) (by decide) (by exact fun _ _ _ h => h) ⟨hHeld.1, .inr hHeld.2⟩ (Or.inl ⟨by rfl, ?_⟩) ?_
            rotate_left
            · (intro w' _; go_simp <;> with_reducible rfl)
            try simp only [Act.put, List.setIfInBounds_toArray, List.set_cons_zero, List.set_cons_succ]
            refine wpAnyF_take (i := 11) (v := ?_) (by (simp only [List.getElem?_toArray, List.getElem?_cons_succ, List.getElem?_cons_zero]; rfl)) (by kernel_rfl) (by kernel_rfl) (by kernel_rfl) (by decide) (by exact fun _ _ _ h => h) ⟨hHeld.1, .inr hHeld.2⟩ (Or.inl ⟨by rfl, ?_⟩) ?_
            rotate_left
            · (intro w' _; go_simp <;> with_reducible rfl)
            try simp only [Act.put, List.setIfInBounds_toArray, List.set_cons_zero, List.set_cons_succ]
            refine wpAnyF_ready (rs := [12]) (by kernel_rfl) (by simp) ?_
            refine AllReadyF.last (by (simp only [List.getElem?_toArray, List.getElem?_cons_succ, List.getElem?_cons_zero]; rfl)) (by kernel_rfl) (fun K hK => ?_) AllReadyF.nil
            have hX := HXX.out.1
            have d3 : ∃ u, wz.cell? ⟨bL, i * 4 + 3, none⟩ = some u := by (rw [S3.log.cellAt _ (by omega)]; exact ⟨_, (stps_get XI i (by omega)).2.2.2⟩)
            obtain ⟨u3, d3⟩ := d3
            have f3 := S3.log.frozenAt (i * 4 + 3)
            have S4 := S3.put (i := i) (by omega) vJ
            rw [show XI[i] = x from HXX.out.2.symm] at S4
            have k4 := kz.far (p := ⟨bL, i * 4 + 3, none⟩) (by have := hp9 bL rfl; simp only; omega) (.int .i64 vJ)
            have a4 := HAC.out _ _ _ _ (HJN.out.trans hIn) S4 k4
            have HS4 := hide S4
            clear S3 S4 kz k4 hX
            go_simp
            refine hK.out _ _ a4 ?_
            clear hK K
            try simp only [Act.put, List.setIfInBounds_toArray, List.set_cons_zero, List.set_cons_succ]
            refine wpAnyF_done (by kernel_rfl) ?_ _
            have S5 := HS4.out
            rw [← HSTEP.out.1, ← HSTEP.out.2] at S5
            have HS5 := hide S5
            clear S5
            go_wp2
            go_roundw
            case rel => exact ⟨i + 1, _, by omega, by go_num, HS5.out⟩
            case measure => simp [intOf]; omega
          · have hie : i = n := by omega
            subst hie
            have hlc : l.take i = l := by rw [← HNL.out]; exact List.take_length
            have hXS : XI = S := by rw [hXI, ← HNL.out, logI_all]; exact HS.out.1
            have hMS : mI = M := by rw [hmI, hlc]; exact HS.out.2
            rw [hXS] at SA hXl
            rw [hMS] at SA GI hIn
            have HXL := hide hXl
            clear hXI hmI hXS hMS hlc hXl
            have zq := SA.res.lt
            have c91 := (SA.box9.cell 1).trans (rfl : _ = some (Value.slice LA i cL))
            have c10 := SA.box10.cell 0
            rw [hIn] at c10
            have c10' := c10.trans (rfl : _ = some (Value.slice (some ⟨gv, 0, none⟩) N cg))
            have c11 := (SA.box10.cell 1).trans (rfl : _ = some (Value.pointer (some ⟨pm, 0, none⟩)))
            have HSA := hide SA
            have HGI := hide GI
            clear c10 SA GI
            go_wp2_with fail
            have S2 := HSA.out.below (Below.refl wr.heap.size wr).drew
            have a0 : wr.drew.cell? ⟨b9, 1, none⟩ = some (Value.slice LA i cL) := c91
            have a1 : wr.drew.cell? ⟨b10, 0, none⟩ = some (Value.slice (some ⟨gv, 0, none⟩) N cg) := c10'
            have a2 : wr.drew.cell? ⟨b10, 1, none⟩ = some (Value.pointer (some ⟨pm, 0, none⟩)) := c11
            clear c91 c10' c11
            refine wp_region_F 5 (fun w' => w'.cell? ⟨b9, 1, none⟩ = some (Value.slice LA i cL) ∧ w'.cell? ⟨b10, 0, none⟩ = some (Value.slice (some ⟨gv, 0, none⟩) N cg) ∧ w'.cell? ⟨b10, 1, none⟩ = some (Value.pointer (some ⟨pm, 0, none⟩))) (fun w' => True) (by kernel_rfl) ⟨⟨a0, a1, a2⟩, trivial⟩ (fun hHeld => ?_)
            try simp only [Act.put, List.setIfInBounds_toArray, List.set_cons_zero, List.set_cons_succ]
            clear a0 a1 a2
            generalize wr.drew = Z at *
            refine wpAnyF_take (i := 0) (v := ?_) (by (simp only [List.getElem?_toArray, List.getElem?_cons_zero]; rfl)) (by kernel_rfl) (by kernel_rfl) (by kernel_rfl) (by decide) (by exact fun _ _ _ h => h) ⟨hHeld.1, .inr hHeld.2⟩ (Or.inl ⟨by rfl, ?_⟩) ?_
            rotate_left
            · (intro w' _; go_simp <;> with_reducible rfl)
            try simp only [Act.put, List.setIfInBounds_toArray, List.set_cons_zero, List.set_cons_succ]
            refine wpAnyF_keep (i := 1) (v := ?_) (by (simp only [List.getElem?_toArray, List.getElem?_cons_succ, List.getElem?_cons_zero]; rfl)) (by kernel_rfl) (by kernel_rfl) (by kernel_rfl) (by decide) (by exact fun _ _ _ h => h) ⟨hHeld.1, .inr hHeld.2⟩ (Or.inl ⟨by rfl, ?_⟩) ?_
            rotate_left
            · (intro w' hSw; (try dsimp only at hSw); obtain ⟨hSa0, hSa1, hSa2⟩ := hSw; go_simp <;> with_reducible rfl)
            try simp only [Act.put, List.setIfInBounds_toArray, List.set_cons_zero, List.set_cons_succ]
            refine wpAnyF_keep (i := 2) (v := ?_) (by (simp only [List.getElem?_toArray, List.getElem?_cons_succ, List.getElem?_cons_zero]; rfl)) (by kernel_rfl) (by kernel_rfl) (by kernel_rfl) (by decide) (by exact fun _ _ _ h => h) ⟨hHeld.1, .inr hHeld.2⟩ (Or.inl ⟨by rfl, ?_⟩) ?_
            rotate_left
            · (intro w' hSw; (try dsimp only at hSw); obtain ⟨hSa0, hSa1, hSa2⟩ := hSw; go_simp <;> with_reducible rfl)
            try simp only [Act.put, List.setIfInBounds_toArray, List.set_cons_zero, List.set_cons_succ]
            refine wpAnyF_ready (rs := [3]) (by kernel_rfl) (by simp) ?_
            refine AllReadyF.cons (by (simp only [List.getElem?_toArray, List.getElem?_cons_succ, List.getElem?_cons_zero]; rfl)) (fun K hK => ?_) AllReadyF.nil
            go_simp
            have MC := busMachine_any S2.bus HGI.out
            go_at_call 32
            refine MC.mono ?_
            clear MC
            rintro e wz ⟨A5, c5, AM5, cM5, us5, hv5, rfl, om, b5⟩
            have S3 := S2.below b5
            refine hK.out _ _ ⟨⟨cell_kept b5 hHeld.1.1, cell_kept b5 hHeld.1.2.1, cell_kept b5 hHeld.1.2.2⟩, trivial⟩ (fun hNew => ?_)
            clear hK K hHeld
            have hHeld := hNew
            clear hNew
            try simp only [Act.put, List.setIfInBounds_toArray, List.set_cons_zero, List.set_cons_succ]
            clear S2
            refine wpAnyF_take (i := 4) (v := ?_) (by (simp only [List.getElem?_toArray, List.getElem?_cons_succ, List.getElem?_cons_zero]; rfl)) (by kernel_rfl) (by kernel_rfl) (by kernel_rfl) (by decide) (by exact fun _ _ _ h => h) ⟨hHeld.1, .inr hHeld.2⟩ (Or.inl ⟨by rfl, ?_⟩) ?_
            rotate_left
            · (intro w' _; go_simp <;> with_reducible rfl)
            try simp only [Act.put, List.setIfInBounds_toArray, List.set_cons_zero, List.set_cons_succ]
            refine wpAnyF_ready (rs := [5]) (by kernel_rfl) (by simp) ?_
            refine AllReadyF.last (by (simp only [List.getElem?_toArray, List.getElem?_cons_succ, List.getElem?_cons_zero]; rfl)) (by kernel_rfl) (fun K hK => ?_) AllReadyF.nil
            have z0 := (S3.res.cell 0).trans (rfl : _ = some (Value.int .i64 0))
            have z1 := (S3.res.cell 1).trans (rfl : _ = some (Value.slice none 0 0))
            have z2 := (S3.res.cell 2).trans (rfl : _ = some (Value.slice none 0 0))
            have z3 := (S3.res.cell 3).trans (rfl : _ = some (Value.slice none 0 0))
            have f0 := S3.res.frozen 0
            have f1 := S3.res.frozen 1
            have f2 := S3.res.frozen 2
            have f3 := S3.res.frozen 3
            go_simp
            have n9 := S3.nums
            have hA3 : wz.cell? ⟨b9, 1, none⟩ = some (Value.slice LA i cL) ∧ wz.cell? ⟨b10, 0, none⟩ = some (Value.slice (some ⟨gv, 0, none⟩) N cg) ∧ wz.cell? ⟨b10, 1, none⟩ = some (Value.pointer (some ⟨pm, 0, none⟩)) := hHeld.1
            have KP : ∀ (b j : Nat) {u : Value}, q ≠ b → wz.cell? ⟨b, j, none⟩ = some u → ∀ {x0 x1 x2 x3 : Value}, ((((wz.setCell ⟨q, 0, none⟩ x0).setCell ⟨q, 1, none⟩ x1).setCell ⟨q, 2, none⟩ x2).setCell ⟨q, 3, none⟩ x3).cell? ⟨b, j, none⟩ = some u := fun b j u hne hc x0 x1 x2 x3 => by
              rw [World.cell?_setCell_far _ ⟨q, 3, none⟩ ⟨b, j, none⟩ _ (by simp only; omega), World.cell?_setCell_far _ ⟨q, 2, none⟩ ⟨b, j, none⟩ _ (by simp only; omega), World.cell?_setCell_far _ ⟨q, 1, none⟩ ⟨b, j, none⟩ _ (by simp only; omega), World.cell?_setCell_far _ ⟨q, 0, none⟩ ⟨b, j, none⟩ _ (by simp only; omega)]
              exact hc
            refine hK.out _ _ ⟨KP b9 1 (by omega) hA3.1, KP b10 0 (by omega) hA3.2.1, KP b10 1 (by omega) hA3.2.2⟩ ?_
            clear hK K
            try simp only [Act.put, List.setIfInBounds_toArray, List.set_cons_zero, List.set_cons_succ]
            refine wpAnyF_done (by kernel_rfl) ?_ _
            go_wp2
            refine bodyPost_ret (v := siV 0 LA i cL A5 M.cs.length c5 AM5 M.mem.length cM5) (by simp [results, Tryz.results8, go_sem, z0, z1, z2, z3, hIn]) rfl ?_
            have hXi := HXL.out
            have own4 : ∀ (e : TypeId) (s n : Nat) (v : Value) (xs : List Value), wz.ownsRow base1 e s v n xs → ∀ {x0 x1 x2 x3 : Value}, ((((wz.setCell ⟨q, 0, none⟩ x0).setCell ⟨q, 1, none⟩ x1).setCell ⟨q, 2, none⟩ x2).setCell ⟨q, 3, none⟩ x3).ownsRow w.heap.size e s v n xs := fun e s n v xs hh x0 x1 x2 x3 =>
              own_mono (ownsRow_setCell_below (ownsRow_setCell_below (ownsRow_setCell_below (ownsRow_setCell_below hh (a := ⟨q, 0, none⟩) n9.1 _) (a := ⟨q, 1, none⟩) n9.1 _) (a := ⟨q, 2, none⟩) n9.1 _) (a := ⟨q, 3, none⟩) n9.1 _) (by have := HQ.out; have := n9.1; omega)
            have hb2 := S3.bus.gv_lt
            refine ⟨LA, cL, A5, c5, AM5, cM5, us5, by rw [hXi], by rw [hXi]; exact own4 _ _ _ _ _ S3.log, ?_, fun b e => ?_, ?_⟩
            · refine OwnMac.mono (base := base2) ?_ (by have := HQ.out; omega)
              exact (((om.set_ (by omega) _).set_ (by omega) _).set_ (by omega) _).set_ (by omega) _
            · rw [hXi] at e
              have h3 := n9.2.2.1 b e
              have hba := om.allB
              exact ⟨fun e2 => by have := (hba _ (by simp) b e2).1; omega, fun e2 => by have := (hba _ (by simp) b e2).1; omega, fun u hu e2 => by have := (hba u (by simp [hu]) b e2).1; omega⟩
            · have hO := S3.old
              rw [HQ.out] at hO ⊢
              exact HSET.out _ hO _ _ _ _
      · rw [mgC_many htr hpk]
        have k9 := k1
        clear k8 R2 oL
        have hml : mgL t picks = [] := if_neg (by rw [mgC_many htr hpk]; decide)
        rw [hml]
        replace k9 := k9.alloc (Obj.cells #[.int .i64 2, .slice LA ([] : List Stp).length cL] 75)
        have c9 := ((Bk.new w4 #[.int .i64 2, .slice LA ([] : List Stp).length cL] 75).cell 0).trans (rfl : _ = some (Value.int .i64 2))
        have B6 := B5.alloc B5.size (Obj.cells #[.int .i64 2, .slice LA ([] : List Stp).length cL] 75)
        clear B5 k1
        go_upto_region 8 with fail
        generalize w4.alloc (Obj.cells #[.int .i64 2, .slice LA ([] : List Stp).length cL] 75) = X9 at *
        have hC2 := simC_k (L := (Ln : Int)) hg HLL.out hpk
        have e0 := HC.out
        have hne : ¬ simC t (Ln : Int) picks = 0 := by rw [hC2]; first | assumption | decide
        rw [simR_no hne, hC2] at e0
        simp only [Prod.mk.injEq] at e0
        obtain ⟨rfl, rfl, rfl⟩ := e0
        have z0 := (k9.cell 0).trans (rfl : _ = some (Value.int .i64 0))
        have z1 := (k9.cell 1).trans (rfl : _ = some (Value.slice none 0 0))
        have z2 := (k9.cell 2).trans (rfl : _ = some (Value.slice none 0 0))
        have z3 := (k9.cell 3).trans (rfl : _ = some (Value.slice none 0 0))
        have f0 := k9.frozen 0
        have f1 := k9.frozen 1
        have f2 := k9.frozen 2
        have f3 := k9.frozen 3
        have HBB := hide (HSET.out _ B6)
        clear HC hC2 hne
        go_wp2
        refine bodyPost_ret (v := siV (2) none 0 0 none 0 0 none 0 0) (by simp [results, Tryz.results8, go_sem, z0, z1, z2, z3]) rfl ?_
        first
          | exact ⟨none, 0, none, 0, none, 0, rfl, World.ownsRow_nil _ _ _ _, [], OwnMac.nil_ _ _, HBB.out _ _ _ _⟩
          | exact ⟨none, 0, none, 0, none, 0, rfl, World.ownsRow_nil _ _ _ _, ⟨[], OwnMac.nil_ _ _⟩, HBB.out _ _ _ _⟩
          | exact ⟨none, 0, none, 0, none, 0, rfl, World.ownsRow_nil _ _ _ _, ⟨[], OwnMac.nil_ _ _, fun b e => (by cases e)⟩, HBB.out _ _ _ _⟩
          | exact ⟨none, 0, none, 0, none, 0, rfl, World.ownsRow_nil _ _ _ _, [], OwnMac.nil_ _ _, fun b e => (by cases e), HBB.out _ _ _ _⟩
    · rw [newR_no (fun hh => hLL hh.2)]
      have k9 := k1.alloc (Obj.cells #[.int .i64 3, .slice A2 ([] : List (List Ev)).length c2, .slice A2p ([] : List Cel).length c2p, .int .i64 0] 72)
      have c9 := ((Bk.new w2 #[.int .i64 3, .slice A2 ([] : List (List Ev)).length c2, .slice A2p ([] : List Cel).length c2p, .int .i64 0] 72).cell 0).trans (rfl : _ = some (Value.int .i64 3))
      have B6 := B2.alloc B2.size (Obj.cells #[.int .i64 3, .slice A2 ([] : List (List Ev)).length c2, .slice A2p ([] : List Cel).length c2p, .int .i64 0] 72)
      clear B2 k1 om
      go_upto_region 5 with fail
      generalize w2.alloc (Obj.cells #[.int .i64 3, .slice A2 ([] : List (List Ev)).length c2, .slice A2p ([] : List Cel).length c2p, .int .i64 0] 72) = X9 at *
      have hC2 := simC_l (picks := picks) hg hLL
      have e0 := HC.out
      have hne : ¬ simC t L picks = 0 := by rw [hC2]; first | assumption | decide
      rw [simR_no hne, hC2] at e0
      simp only [Prod.mk.injEq] at e0
      obtain ⟨rfl, rfl, rfl⟩ := e0
      have z0 := (k9.cell 0).trans (rfl : _ = some (Value.int .i64 0))
      have z1 := (k9.cell 1).trans (rfl : _ = some (Value.slice none 0 0))
      have z2 := (k9.cell 2).trans (rfl : _ = some (Value.slice none 0 0))
      have z3 := (k9.cell 3).trans (rfl : _ = some (Value.slice none 0 0))
      have f0 := k9.frozen 0
      have f1 := k9.frozen 1
      have f2 := k9.frozen 2
      have f3 := k9.frozen 3
      have HBB := hide (HSET.out _ B6)
      clear HC hC2 hne
      go_wp2
      refine bodyPost_ret (v := siV (3) none 0 0 none 0 0 none 0 0) (by simp [results, Tryz.results8, go_sem, z0, z1, z2, z3]) rfl ?_
      first
        | exact ⟨none, 0, none, 0, none, 0, rfl, World.ownsRow_nil _ _ _ _, [], OwnMac.nil_ _ _, HBB.out _ _ _ _⟩
        | exact ⟨none, 0, none, 0, none, 0, rfl, World.ownsRow_nil _ _ _ _, ⟨[], OwnMac.nil_ _ _⟩, HBB.out _ _ _ _⟩
        | exact ⟨none, 0, none, 0, none, 0, rfl, World.ownsRow_nil _ _ _ _, ⟨[], OwnMac.nil_ _ _, fun b e => (by cases e)⟩, HBB.out _ _ _ _⟩
        | exact ⟨none, 0, none, 0, none, 0, rfl, World.ownsRow_nil _ _ _ _, [], OwnMac.nil_ _ _, fun b e => (by cases e), HBB.out _ _ _ _⟩
  · have g0 : (pgF t != 0) = true := bne_iff_ne.2 hg
    have g1 : (pgF t == 0) = false := beq_eq_false_iff_ne.2 hg
    have hC2 := simC_p (L := L) (picks := picks) hg
    have e0 := HC.out
    have hne : ¬ simC t L picks = 0 := by rw [hC2]; first | assumption | decide
    rw [simR_no hne, hC2] at e0
    simp only [Prod.mk.injEq] at e0
    obtain ⟨rfl, rfl, rfl⟩ := e0
    have z0 := (k1.cell 0).trans (rfl : _ = some (Value.int .i64 0))
    have z1 := (k1.cell 1).trans (rfl : _ = some (Value.slice none 0 0))
    have z2 := (k1.cell 2).trans (rfl : _ = some (Value.slice none 0 0))
    have z3 := (k1.cell 3).trans (rfl : _ = some (Value.slice none 0 0))
    have f0 := k1.frozen 0
    have f1 := k1.frozen 1
    have f2 := k1.frozen 2
    have f3 := k1.frozen 3
    have HBB := hide (HSET.out _ B1)
    clear HC hC2 hne
    go_wp2
    refine bodyPost_ret (v := siV (pgF t) none 0 0 none 0 0 none 0 0) (by simp [results, Tryz.results8, go_sem, z0, z1, z2, z3]) rfl ?_
    first
      | exact ⟨none, 0, none, 0, none, 0, rfl, World.ownsRow_nil _ _ _ _, [], OwnMac.nil_ _ _, HBB.out _ _ _ _⟩
      | exact ⟨none, 0, none, 0, none, 0, rfl, World.ownsRow_nil _ _ _ _, ⟨[], OwnMac.nil_ _ _⟩, HBB.out _ _ _ _⟩
      | exact ⟨none, 0, none, 0, none, 0, rfl, World.ownsRow_nil _ _ _ _, ⟨[], OwnMac.nil_ _ _, fun b e => (by cases e)⟩, HBB.out _ _ _ _⟩
      | exact ⟨none, 0, none, 0, none, 0, rfl, World.ownsRow_nil _ _ _ _, [], OwnMac.nil_ _ _, fun b e => (by cases e), HBB.out _ _ _ _⟩
end Go.Proofs.YtnnfkmjhaljplaaGreat
