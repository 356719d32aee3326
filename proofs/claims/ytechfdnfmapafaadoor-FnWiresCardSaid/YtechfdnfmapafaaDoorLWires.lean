/- The walk of the law of numbers and sums. -/
import Derived.Test.YtechfdnfmapafaaDoorDrawWire
import Derived.Test.YtechfdnfmapafaaDoorLw
import Derived.Test.YtechfdnfmapafaaDoorRead3
import Derived.Test.YtechfdnfmapafaaDoorCrc
import Derived.Test.YtechfdnfmapafaaDoorZig
import Derived.Deep.RegionHeld3
import Derived.Deep.DeepCutAuto
import Derived.Test.YtechfdnfmapafaaDoorReadMath2
import Derived.Test.YtechfdnfmapafaaDoorFlip
namespace Go.Proofs.YtechfdnfmapafaaDoor
open Go.RowKit

theorem field_bytes (a : Int) (D : Option Addr) (n d : Nat) (W : World) : (Instr.field 26 (.agg #[.int .i64 a, .slice D n d]) 1).run Tryd.prog W = .ok (.slice D n d) W := by kernel_rfl
theorem field_code (a b : Int) (W : World) : (Instr.field 33 (.agg #[.int .i64 a, .int .i64 b]) 0).run Tryd.prog W = .ok (.int .i64 a) W := by kernel_rfl
theorem zigV_bd (z : Int) (h : zigC z = 0) : 0 ≤ zigV z ∧ zigV z ≤ 2000000000000 := by
  have := (zag_zig h).1
  unfold zagC at this
  split at this
  · assumption
  · omega
theorem zagV_bd (y : Int) (h : zagC y = 0) : -1000000000000 ≤ zagV y ∧ zagV y ≤ 1000000000000 := by
  have := (zig_zag h).1
  unfold zigC at this
  split at this
  · assumption
  · omega
/-- A copy of ds in which one byte is another one. -/
def BadRel (ds : List Int) (wc : World) (gb db B : Nat) (wx : World) : Prop := ∃ (i : Nat) (hi : i < ds.length) (y : Int), 0 ≤ y ∧ y < 256 ∧ y ≠ ds[i] ∧
  wx.ownsRow B 5 1 (.slice (some ⟨gb, 0, none⟩) ds.length db) ds.length ((ds.set i y).map (Value.int .u8)) ∧ Below B wc wx
theorem lwAt_int (i n : Int) (l : List Int) (A : Option Addr) (c : Nat) (w : World) (hi : 0 ≤ i ∧ i ≤ 100) (hn : 0 ≤ n ∧ n ≤ 1000000) (hl : l.length ≤ 1048576) (hr : Rd .u8 w w.heap.size A l) (b8 : B8 l) :
    Calls Tryd.prog 25 #[.slice A l.length c, .int .i64 i, .int .i64 n] w (AtPost n w) := by
  obtain ⟨k, rfl⟩ := Int.eq_ofNat_of_zero_le hi.1
  exact lwAt_any k n l A c w (by omega) hn.2 hn.1 hl hr b8
theorem lwSame_len (l m : List Int) (A A' : Option Addr) (c c' n n' : Nat) (w : World) (hn : n = l.length) (hn' : n' = m.length) (h : Rd .u8 w w.heap.size A l) (h' : Rd .u8 w w.heap.size A' m) (b : B8 l) (b' : B8 m) :
    Calls Tryd.prog 24 #[.slice A n c, .slice A' n' c'] w fun e w' => e = .returned (.bool (sameB l m)) ∧ w = w' := by
  subst hn hn'
  exact lwSame_any l m A A' c c' w h h' b b'
theorem keep11 {W w w' : World} {a0 a1 a2 a3 a4 a5 a6 a7 a8 a9 a10 : Addr} {v0 v1 v2 v3 v4 v5 v6 v7 v8 v9 v10 : Value} (hb : Below w.heap.size w w') (h0 : w.cell? a0 = some v0) (h1 : w.cell? a1 = some v1) (h2 : w.cell? a2 = some v2) (h3 : w.cell? a3 = some v3) (h4 : w.cell? a4 = some v4) (h5 : w.cell? a5 = some v5) (h6 : w.cell? a6 = some v6) (h7 : w.cell? a7 = some v7) (h8 : w.cell? a8 = some v8) (h9 : w.cell? a9 = some v9) (h10 : w.cell? a10 = some v10) (hB : Below W.heap.size W w) :
    w'.cell? a0 = some v0 ∧ w'.cell? a1 = some v1 ∧ w'.cell? a2 = some v2 ∧ w'.cell? a3 = some v3 ∧ w'.cell? a4 = some v4 ∧ w'.cell? a5 = some v5 ∧ w'.cell? a6 = some v6 ∧ w'.cell? a7 = some v7 ∧ w'.cell? a8 = some v8 ∧ w'.cell? a9 = some v9 ∧ w'.cell? a10 = some v10 ∧ Below W.heap.size W w' :=
  ⟨cell_kept hb h0, cell_kept hb h1, cell_kept hb h2, cell_kept hb h3, cell_kept hb h4, cell_kept hb h5, cell_kept hb h6, cell_kept hb h7, cell_kept hb h8, cell_kept hb h9, cell_kept hb h10, hB.trans (hb.mono hB.size)⟩

set_option maxRecDepth 100000 in
set_option maxHeartbeats 12000000 in
theorem FnWires_walk (l : List Int) (A : Option Addr) (c : Nat) (w : World) (hl : l.length ≤ maxLen) (h : Rd .u8 w w.heap.size A l) (b8 : B8 l) (hT : Tab w) :
    Calls Tryd.prog 3 #[.slice A l.length c] w fun e w' => e = .returned (.bool true) ∧ Below w.heap.size w w' := by
  by_cases hL : l.length ≤ 1048576
  · clear hl
    have HT := hide hT
    clear hT
    go_enter Tryd.func3, Tryd.ntmps3
    go_wp2_with fail
    refine (lwBig_no l A c w hL).mono ?_
    rintro e w' ⟨rfl, rfl⟩
    go_wp2_with fail
    refine (DrawPutVar_any l A c w hL h b8).mono ?_
    rintro e w1 ⟨n, rfl, hn0, hn1, B1⟩
    obtain ⟨pc, hpc⟩ : ∃ x, x = putC n := ⟨_, rfl⟩
    obtain ⟨pl, hpl⟩ : ∃ x, x = putB n := ⟨_, rfl⟩
    have HPC := hide hpc
    have HPL := hide hpl
    have IP := hide (implPut_any n w1 hn1)
    rw [← hpc, ← hpl] at IP
    clear hpc hpl
    go_wp2_with fail
    refine IP.out.mono ?_
    rintro e w2 ⟨Ap, cp, rfl, o2, b2⟩
    have B2 := B1.trans (b2.mono B1.size)
    have r2 := Rd.of_own o2
    go_wp2_with fail
    have B2' := B2.alloc B2.size (.cells #[.int .i64 pc, .slice Ap pl.length cp] 26)
    have k4 := Bk.new w2 #[.int .i64 pc, .slice Ap pl.length cp] 26
    have r2 := (r2.alloc (Nat.le_refl _) (.cells #[.int .i64 pc, .slice Ap pl.length cp] 26)).lt
    clear o2 b2 B2 IP
    refine (DrawReadVar_any l A c _ hL (h.below B2').lt b8).mono ?_
    rintro e w3 ⟨v3, rfl, ⟨xs, Dx, dx, rfl, xl, xd, x8, rx⟩, b3⟩
    have B3 := B2'.trans (b3.mono B2'.size)
    have E3 := b3
    clear B2'
    obtain ⟨rc, hrc⟩ : ∃ x, x = rdC xs := ⟨_, rfl⟩
    obtain ⟨rv, hrv⟩ : ∃ x, x = rdV xs := ⟨_, rfl⟩
    obtain ⟨rz, hrz⟩ : ∃ x, x = rdZ xs := ⟨_, rfl⟩
    have HRC := hide hrc
    have HRV := hide hrv
    have HRZ := hide hrz
    have IR := hide (implRead_any xs Dx dx w3 (by omega) xd rx x8)
    rw [← hrc, ← hrv, ← hrz] at IR
    clear hrc hrv hrz
    go_wp2_with fail
    refine IR.out.mono ?_
    rintro e w4 ⟨rfl, b4⟩
    go_wp2_with fail
    have E4 := b4.alloc b4.size (.cells #[.int .i64 rc, .int .i64 rv, .int .i64 rz] 30)
    have B4 := B3.trans (E4.mono B3.size)
    have k6 := Bk.new w4 #[.int .i64 rc, .int .i64 rv, .int .i64 rz] 30
    clear b4 B3 IR b3
    refine (DrawZigZag_any l A c _ hL (h.below B4).lt b8).mono ?_
    rintro e w5 ⟨z, rfl, hz0, hz1, b5⟩
    have B5 := B4.trans (b5.mono B4.size)
    have E5 := b5
    clear b5 B4
    obtain ⟨zc, hzc⟩ : ∃ x, x = zigC z := ⟨_, rfl⟩
    obtain ⟨zv, hzv⟩ : ∃ x, x = zigV z := ⟨_, rfl⟩
    have HZC := hide hzc
    have HZV := hide hzv
    have IZ := hide (implZig_any z w5 ⟨hz0, hz1⟩)
    rw [← hzc, ← hzv] at IZ
    clear hzc hzv
    go_wp2_with fail
    refine IZ.out.mono ?_
    rintro e w6 ⟨rfl, b6⟩
    go_wp2_with fail
    have E6 := b6.alloc b6.size (.cells #[.int .i64 zc, .int .i64 zv] 33)
    have B6 := B5.trans (E6.mono B5.size)
    have k8 := Bk.new w6 #[.int .i64 zc, .int .i64 zv] 33
    clear b6 B5 IZ
    refine (DrawZagZig_any l A c _ hL (h.below B6).lt b8).mono ?_
    rintro e w7 ⟨y, rfl, hy0, hy1, b7⟩
    have B7 := B6.trans (b7.mono B6.size)
    have E7 := b7
    clear b7 B6
    obtain ⟨yc, hyc⟩ : ∃ x, x = zagC y := ⟨_, rfl⟩
    obtain ⟨yv, hyv⟩ : ∃ x, x = zagV y := ⟨_, rfl⟩
    have HYC := hide hyc
    have HYV := hide hyv
    have IY := hide (implZag_any y w7 ⟨hy0, hy1⟩)
    rw [← hyc, ← hyv] at IY
    clear hyc hyv
    go_wp2_with fail
    refine IY.out.mono ?_
    rintro e w8 ⟨rfl, b8'⟩
    go_wp2_with fail
    have E8 := b8'.alloc b8'.size (.cells #[.int .i64 yc, .int .i64 yv] 33)
    have B8' := B7.trans (E8.mono B7.size)
    have k10 := Bk.new w8 #[.int .i64 yc, .int .i64 yv] 33
    clear b8' B7 IY
    refine (DrawCrcOf_any l A c _ hL (h.below B8').lt b8).mono ?_
    rintro e w9 ⟨v9, rfl, ⟨ds, Dd, dd, rfl, dl, ddc, d8, rd⟩, b9⟩
    have B9 := B8'.trans (b9.mono B8'.size)
    have E9 := b9
    clear b9 B8'
    obtain ⟨cc, hcc⟩ : ∃ x, x = crcC ds := ⟨_, rfl⟩
    obtain ⟨cv, hcv⟩ : ∃ x, x = crcV ds := ⟨_, rfl⟩
    have HCC := hide hcc
    have HCV := hide hcv
    have IC := hide (implCrc_any ds Dd dd w9 (by omega) rd d8 (HT.out.below B9))
    rw [← hcc, ← hcv] at IC
    clear hcc hcv
    go_wp2_with fail
    refine IC.out.mono ?_
    rintro e w10 ⟨rfl, b10⟩
    go_wp2_with fail
    have E10 := b10.alloc b10.size (.cells #[.int .i64 cc, .int .i64 cv] 33)
    have B10 := B9.trans (E10.mono B9.size)
    have k12 := Bk.new w10 #[.int .i64 cc, .int .i64 cv] 33
    clear b10 B9 IC
    refine (DrawSameBytes_any l A c _ hL (h.below B10).lt b8).mono ?_
    rintro e W ⟨v11, v12, rfl, ⟨us, Du, du, rfl, ul, ud, u8', ru⟩, ⟨vs, Dv, dv, rfl, vl, vd, v8', rv'⟩, E11⟩
    have BW := B10.trans (E11.mono B10.size)
    have k12 := k12.kept E11
    have E10 := E10.trans (E11.mono E10.size)
    have E9 := E9.trans (E10.mono E9.size)
    have E8 := E8.trans (E9.mono E8.size)
    have E7 := E7.trans (E8.mono E7.size)
    have E6 := E6.trans (E7.mono E6.size)
    have E5 := E5.trans (E6.mono E5.size)
    have E4 := E4.trans (E5.mono E4.size)
    have E3 := E3.trans (E4.mono E3.size)
    have k10 := k10.kept E9
    have k8 := k8.kept E7
    have k6 := k6.kept E5
    have k4 := k4.kept E3
    have rp := (r2.below E3).lt
    have rx := (rx.below E4).lt
    have rd := (rd.below E10).lt
    have rA := (h.below BW).lt
    have TW : Hid (Tab W) := hide (HT.out.below BW)
    clear E3 E4 E5 E6 E7 E8 E9 E10 E11 r2 h HT B10
    go_wp2_with fail
    have q20 : W.cell? ⟨w2.heap.size, 0, none⟩ = some (.int .i64 pc) := k4.cell 0
    have q21 : W.cell? ⟨w2.heap.size, 1, none⟩ = some (.slice Ap pl.length cp) := k4.cell 1
    have q40 : W.cell? ⟨w4.heap.size, 0, none⟩ = some (.int .i64 rc) := k6.cell 0
    have q41 : W.cell? ⟨w4.heap.size, 1, none⟩ = some (.int .i64 rv) := k6.cell 1
    have q42 : W.cell? ⟨w4.heap.size, 2, none⟩ = some (.int .i64 rz) := k6.cell 2
    have q60 : W.cell? ⟨w6.heap.size, 0, none⟩ = some (.int .i64 zc) := k8.cell 0
    have q61 : W.cell? ⟨w6.heap.size, 1, none⟩ = some (.int .i64 zv) := k8.cell 1
    have q80 : W.cell? ⟨w8.heap.size, 0, none⟩ = some (.int .i64 yc) := k10.cell 0
    have q81 : W.cell? ⟨w8.heap.size, 1, none⟩ = some (.int .i64 yv) := k10.cell 1
    have q100 : W.cell? ⟨w10.heap.size, 0, none⟩ = some (.int .i64 cc) := k12.cell 0
    have q101 : W.cell? ⟨w10.heap.size, 1, none⟩ = some (.int .i64 cv) := k12.cell 1
    have SP := hide (fun W => specPut_any n W hn1)
    have SR := hide (fun A c W => specRead_any xs A c W (by omega))
    have SZ := hide (fun W => specZig_any z W ⟨hz0, hz1⟩)
    have SY := hide (fun W => specZag_any y W ⟨hy0, hy1⟩)
    have SC := hide (fun A c W => specCrc_any ds A c W (by omega))
    rw [← HPC.out, ← HPL.out] at SP
    rw [← HRC.out, ← HRV.out, ← HRZ.out] at SR
    rw [← HZC.out, ← HZV.out] at SZ
    rw [← HYC.out, ← HYV.out] at SY
    rw [← HCC.out, ← HCV.out] at SC
    have p8 : B8 pl := by rw [HPL.out]; exact putB_B8 n
    go_cut [80] (fun s80 wx => s80 = .bool false ∧ Below W.heap.size W wx)
    case first => as_aux_lemma =>
      go_region_held3 (fun w' => w'.cell? ⟨w2.heap.size, 0, none⟩ = some (.int .i64 pc) ∧ w'.cell? ⟨w2.heap.size, 1, none⟩ = some (.slice Ap pl.length cp) ∧ w'.cell? ⟨w4.heap.size, 0, none⟩ = some (.int .i64 rc) ∧ w'.cell? ⟨w4.heap.size, 1, none⟩ = some (.int .i64 rv) ∧ w'.cell? ⟨w4.heap.size, 2, none⟩ = some (.int .i64 rz) ∧ w'.cell? ⟨w6.heap.size, 0, none⟩ = some (.int .i64 zc) ∧ w'.cell? ⟨w6.heap.size, 1, none⟩ = some (.int .i64 zv) ∧ w'.cell? ⟨w8.heap.size, 0, none⟩ = some (.int .i64 yc) ∧ w'.cell? ⟨w8.heap.size, 1, none⟩ = some (.int .i64 yv) ∧ w'.cell? ⟨w10.heap.size, 0, none⟩ = some (.int .i64 cc) ∧ w'.cell? ⟨w10.heap.size, 1, none⟩ = some (.int .i64 cv) ∧ Below W.heap.size W w') (first | assumption | (go_split_ands; exact keep11 (by assumption) (by assumption) (by assumption) (by assumption) (by assumption) (by assumption) (by assumption) (by assumption) (by assumption) (by assumption) (by assumption) (by assumption) (by assumption)) | exact keep11 ((Below.refl _ _).drew) (by assumption) (by assumption) (by assumption) (by assumption) (by assumption) (by assumption) (by assumption) (by assumption) (by assumption) (by assumption) (by assumption) (Below.refl _ _))
        (first
          | (go_at_call 18; refine (SP.out _).mono ?_; rintro e wa ⟨A1, c1, rfl, oa, ba⟩)
          | (go_at_call 17; refine (lwBytes_same pc pl _ _ _ _ _ ?_ ?_ p8).mono ?_; (go_split_ands; exact (rp.below (by assumption)).lt); exact Rd.of_own (by assumption); rintro e wa ⟨rfl, ba⟩)
          | (go_at_call 19; refine (SR.out Dx dx _ xd ?_ x8).mono ?_; (go_split_ands; exact (rx.below (by assumption)).lt); rintro e wa ⟨rfl, ba⟩)
          | (go_at_call 20; refine (SZ.out _).mono ?_; rintro e wa ⟨rfl, ba⟩)
          | (go_at_call 21; refine (SY.out _).mono ?_; rintro e wa ⟨rfl, ba⟩)
          | (go_at_call 22; refine (SC.out Dd dd _ ?_ d8).mono ?_; (go_split_ands; exact (rd.below (by assumption)).lt); rintro e wa ⟨rfl, ba⟩)
          | (go_at_call 23; refine (implSame_any us vs Du Dv du dv _ ?_ ?_ u8' v8').mono ?_; (go_split_ands; exact (ru.below (by assumption)).lt); (go_split_ands; exact (rv'.below (by assumption)).lt); rintro e wa ⟨rfl, rfl⟩)
          | (go_at_call 24; refine (lwSame_any us vs Du Dv du dv _ ?_ ?_ u8' v8').mono ?_; (go_split_ands; exact (ru.below (by assumption)).lt); (go_split_ands; exact (rv'.below (by assumption)).lt); rintro e wa ⟨rfl, rfl⟩))
      go_wp2_with fail
      go_meet
      exact ⟨rfl, by go_split_ands; assumption⟩
    case rest =>
      obtain ⟨rfl, C1⟩ := hcut
      clear q20 q21 q40 q41 q42 q60 q61 q80 q81 q100 q101 SP SR SZ SY SC
      go_wp2_with fail
      go_cut [98] (fun s98 wx => s98 = .bool false ∧ Below W.heap.size W wx)
      case first => as_aux_lemma =>
        have j4 := k4.kept C1
        have q0 := j4.cell 0
        have q1 := j4.cell 1
        simp only [List.getElem?_toArray] at q0 q1
        by_cases hneg : n < 0
        · have hp : (pc == 0) = false := by rw [HPC.out, (put_neg hneg).1]; rfl
          go_quiet (fail)
          go_wp2_with fail
          go_meet
          exact ⟨rfl, below_drewN C1 _⟩
        · have hp : (pc == 0) = true := by rw [HPC.out, (put_pos (by omega)).1]; rfl
          have hpl : pl = putL n := by rw [HPL.out, (put_pos (by omega)).2]
          have HPL2 := hide hpl
          clear hpl
          obtain ⟨i0, hi, hz0, hz1, hz2⟩ := info_parts info_u8
          have pn : pl.length ≤ 9 := by rw [HPL.out]; exact putB_len hn1
          obtain ⟨ys, hys⟩ : ∃ ys, ys = pl ++ xs := ⟨_, rfl⟩
          have y8 : B8 ys := by rw [hys]; exact p8.append x8
          have EY : Hid (pl.length + xs.length = ys.length) := hide (by rw [hys, List.length_append])
          have yl : ys.length ≤ 1048576 := by have := EY.out; omega
          have IM := hide (fun D c W => implRead_any ys D c W yl)
          have R := rd_app n xs (by omega) hn1
          rw [← HPL2.out, ← hys] at R
          rw [R.1, R.2.1, R.2.2] at IM
          have HYS := hide hys
          clear hys R
          have HX : Below wc.heap.size wc ((wc.alloc (Obj.cells #[] 5)).drew) := ((Below.refl _ _).alloc (Nat.le_refl _) _).drew
          have OW : ((wc.alloc (Obj.cells #[] 5)).drew).ownsRow wc.heap.size 5 1 (.slice (some ⟨wc.heap.size, 0, none⟩) 0 0) 0 [] := (World.ownsRow_lit wc #[] 0 (Nat.le_refl _) (by simp) rfl).drew
          have rp1 := (rp.below C1).lt
          have rx1 := (rx.below C1).lt
          go_region_held3 (fun w' => w'.cell? ⟨w2.heap.size, 0, none⟩ = some (.int .i64 pc) ∧ w'.cell? ⟨w2.heap.size, 1, none⟩ = some (.slice Ap pl.length cp) ∧ Below wc.heap.size wc w')
            (first | assumption | exact ⟨q0, q1, (Below.refl _ _).drew⟩ | exact ⟨cell_kept (by assumption) q0, cell_kept (by assumption) q1, by assumption⟩)
            (first
              | (refine step_append_rd _ (by rfl) (.tmp 85) (.tmp 87) 22 (by rfl) wc.heap.size 5 i0 (.int .u8 0) 1 Tryd.underlying22 hi hz0 hz1 hz2 rfl .u8 (.slice (some ⟨wc.heap.size, 0, none⟩) 0 0) 0 [] (by rfl) OW Ap pl cp wc.heap.size (by rfl) (rp1.below HX) (by unfold maxLen; omega) (by omega) HX.size ?_; intro v1 wa o1 g1 hat1; have BA : Below wc.heap.size wc wa := HX.trans (grown_below OW g1 HX.size (Nat.le_refl _)); clear g1 hat1; rw [Nat.zero_add, List.nil_append] at o1; obtain ⟨D1, d1, hv1⟩ := own_shape o1; rw [hv1] at o1; rw [hv1]; clear hv1)
              | (refine step_append_rd _ (by rfl) (.tmp 88) (.tmp 89) 22 (by rfl) wc.heap.size 5 i0 (.int .u8 0) 1 Tryd.underlying22 hi hz0 hz1 hz2 rfl .u8 (.slice D1 pl.length d1) pl.length (pl.map (Value.int .u8)) (by rfl) o1 Dx xs dx wc.heap.size (by rfl) (rx1.below BA) (by unfold maxLen; omega) (by omega) BA.size ?_; intro v2 wb o2 g2 hat2; have BB : Below wc.heap.size wc wb := BA.trans (grown_below o1 g2 BA.size (Nat.le_refl _)); clear g2 hat2; rw [← List.map_append, ← HYS.out, EY.out] at o2; obtain ⟨D2, d2, hv2⟩ := own_shape o2; rw [hv2] at o2; rw [hv2]; clear hv2)
              | (go_at_call 9; refine (IM.out D2 d2 _ (own_cap o2) (Rd.of_own o2) y8).mono ?_; rintro e wd ⟨rfl, bd⟩; have BD : Below wc.heap.size wc wd := BB.trans (bd.mono BB.size)))
          go_wp2_with fail
          go_meet
          exact ⟨rfl, C1.trans ((show Below wc.heap.size wc _ by go_split_ands; assumption).mono C1.size)⟩
      case rest =>
        obtain ⟨rfl, C2⟩ := hcut
        clear C1
        go_wp2_with fail
        go_cut [125] (fun s125 wx => s125 = .bool false ∧ Below W.heap.size W wx)
        case first => as_aux_lemma =>
          have j6 := k6.kept C2
          have q0 := j6.cell 0
          have q1 := j6.cell 1
          have q2 := j6.cell 2
          simp only [List.getElem?_toArray] at q0 q1 q2
          by_cases hrc : rc = 0
          · have hp : (rc == 0) = true := beq_iff_eq.2 hrc
            obtain ⟨R1, R2, R3, R4, R5⟩ := rd_back x8 (by rw [← HRC.out]; exact hrc)
            rw [← HRZ.out] at R1 R2 R5
            rw [← HRV.out] at R3 R4 R5
            obtain ⟨ts, hts⟩ : ∃ ts, ts = xs.take rz.toNat := ⟨_, rfl⟩
            have tl : Hid (rz.toNat = ts.length) := hide (by rw [hts, List.length_take]; omega)
            have t8 : B8 ts := by rw [hts]; exact x8.take _
            have rt : Rd .u8 wc wc.heap.size Dx ts := by rw [hts]; exact ((rx.below C2).lt).take _
            have IPV := hide (fun W => implPut_any rv W R4)
            rw [(put_pos R3).1, (put_pos R3).2, R5, ← hts] at IPV
            have st : sameB ts ts = true := by unfold sameB; simp
            have e1 : decide (rz < 1) = false := by simp; omega
            have e2 : decide ((xs.length : Int) < rz) = false := by simp; omega
            have e3 : (0 : Int) ≤ rz := by omega
            have e4 : rz ≤ (dx : Int) := by omega
            clear hrc hts R5
            have hfl := field_bytes
            go_region_held3 (fun w' => w'.cell? ⟨w4.heap.size, 0, none⟩ = some (.int .i64 rc) ∧ w'.cell? ⟨w4.heap.size, 1, none⟩ = some (.int .i64 rv) ∧ w'.cell? ⟨w4.heap.size, 2, none⟩ = some (.int .i64 rz) ∧ Below wc.heap.size wc w')
              (first | assumption | exact ⟨q0, q1, q2, (Below.refl _ _).drew⟩ | exact ⟨cell_kept (by assumption) q0, cell_kept (by assumption) q1, cell_kept (by assumption) q2, by assumption⟩)
              (first
                | (go_at_call 7; refine (IPV.out _).mono ?_; rintro e wa ⟨A1, c1, rfl, oa, ba⟩; have BA : Below wc.heap.size wc wa := (show Below wc.heap.size wc _ by go_split_ands; assumption).trans (ba.mono (show Below wc.heap.size wc _ by go_split_ands; assumption).size))
                | (go_at_call 24; refine (lwSame_len ts ts _ _ _ _ _ _ _ rfl tl.out (Rd.of_own (by assumption)) (rt.below (by assumption)).lt t8 t8).mono ?_; rintro e we ⟨rfl, rfl⟩; rw [st]))
            go_wp2_with fail
            go_meet
            exact ⟨rfl, C2.trans ((show Below wc.heap.size wc _ by go_split_ands; assumption).mono C2.size)⟩
          · have hp : (rc == 0) = false := beq_eq_false_iff_ne.2 hrc
            clear hrc
            go_quiet (fail)
            go_wp2_with fail
            go_meet
            exact ⟨rfl, below_drewN C2 _⟩
        case rest => as_aux_lemma =>
          obtain ⟨rfl, C3⟩ := hcut
          clear C2
          go_upto_region 20 with fail
          go_cut [149] (fun s149 wx => s149 = .bool false ∧ Below W.heap.size W wx)
          case first => as_aux_lemma =>
            have j8 := k8.kept C3
            have j10 := k10.kept C3
            have q0 := j8.cell 0
            have q1 := j8.cell 1
            have p0 := j10.cell 0
            have p1 := j10.cell 1
            simp only [List.getElem?_toArray] at q0 q1 p0 p1
            by_cases hzc : zc = 0
            · have hp : (zc == 0) = true := beq_iff_eq.2 hzc
              have hb := zigV_bd z (by rw [← HZC.out]; exact hzc)
              have hz := zag_zig (n := z) (by rw [← HZC.out]; exact hzc)
              rw [← HZV.out] at hz hb
              have IZ := hide (fun W => implZag_any zv W ⟨by omega, by omega⟩)
              rw [hz.1, hz.2] at IZ
              clear hz hb hzc
              by_cases hyc : yc = 0
              · have hq : (yc == 0) = true := beq_iff_eq.2 hyc
                have hb := zagV_bd y (by rw [← HYC.out]; exact hyc)
                have hy := zig_zag (n := y) (by rw [← HYC.out]; exact hyc)
                rw [← HYV.out] at hy hb
                have IY := hide (fun W => implZig_any yv W ⟨by omega, by omega⟩)
                rw [hy.1, hy.2] at IY
                clear hy hb hyc
                go_wp2_with fail
                refine (IZ.out _).mono ?_
                rintro e wa ⟨rfl, ba⟩
                have p0 := cell_kept ba p0
                have p1 := cell_kept ba p1
                go_wp2_with fail
                refine (IY.out _).mono ?_
                rintro e wb ⟨rfl, bb⟩
                go_wp2_with fail
                go_meet
                exact ⟨rfl, C3.trans ((ba.trans (bb.mono ba.size)).mono C3.size)⟩
              · have hq : (yc == 0) = false := beq_eq_false_iff_ne.2 hyc
                clear hyc
                go_wp2_with fail
                refine (IZ.out _).mono ?_
                rintro e wa ⟨rfl, ba⟩
                have p0 := cell_kept ba p0
                go_wp2_with fail
                go_meet
                exact ⟨rfl, C3.trans (ba.mono C3.size)⟩
            · have hp : (zc == 0) = false := beq_eq_false_iff_ne.2 hzc
              clear hzc
              by_cases hyc : yc = 0
              · have hq : (yc == 0) = true := beq_iff_eq.2 hyc
                have hb := zagV_bd y (by rw [← HYC.out]; exact hyc)
                have hy := zig_zag (n := y) (by rw [← HYC.out]; exact hyc)
                rw [← HYV.out] at hy hb
                have IY := hide (fun W => implZig_any yv W ⟨by omega, by omega⟩)
                rw [hy.1, hy.2] at IY
                clear hy hb hyc
                go_wp2_with fail
                refine (IY.out _).mono ?_
                rintro e wb ⟨rfl, bb⟩
                go_wp2_with fail
                go_meet
                exact ⟨rfl, C3.trans (bb.mono C3.size)⟩
              · have hq : (yc == 0) = false := beq_eq_false_iff_ne.2 hyc
                clear hyc
                go_wp2_with fail
                go_meet
                exact ⟨rfl, C3⟩
          case rest =>
            obtain ⟨rfl, C4⟩ := hcut
            clear C3
            obtain ⟨V4, rfl⟩ : ∃ V : World, V = wc := ⟨_, rfl⟩
            have j12 := k12.kept C4
            have q0 := j12.cell 0
            have q1 := j12.cell 1
            simp only [List.getElem?_toArray] at q0 q1
            by_cases hcc : cc = 0
            · have hp : (cc == 0) = true := beq_iff_eq.2 hcc
              have hp2 : (cc != 0) = false := by rw [hcc]; rfl
              have hc0 : crcC ds = 0 := by rw [← HCC.out]; exact hcc
              have HC0 := hide hc0
              have HCC0 := hide hcc
              clear hcc hc0
              by_cases hd0 : ds.length = 0
              · have e0 : ((ds.length : Int) == 0) = true := by rw [hd0]; rfl
                clear hd0
                go_wp2
                go_ret
                exact ⟨rfl, BW.trans (C4.mono BW.size)⟩
              · have e0 : ((ds.length : Int) == 0) = false := beq_eq_false_iff_ne.2 (by omega)
                obtain ⟨i0, hi, hz0, hz1, hz2⟩ := info_parts info_u8
                have rd1 := (rd.below C4).lt
                have dpos : 0 < ds.length := by omega
                have HQ0 := hide q0
                have HQ1 := hide q1
                go_wp2_with (at_builtin; refine wpList_append_rd _ rfl (.tmp 158) (.tmp 159) 22 rfl V4.heap.size 5 i0 (.int .u8 0) 1 Tryd.underlying22 hi hz0 hz1 hz2 rfl .u8 _ _ _ rfl (World.ownsRow_lit V4 #[] 0 (Nat.le_refl _) (by simp) rfl) Dd ds dd V4.heap.size rfl (rd1.alloc (Nat.le_refl _) _) (by unfold maxLen; omega) (by omega) (by simp) ?_; intro v1 wd od gd hatd; have BD : Below V4.heap.size V4 wd := ((Below.refl _ _).alloc (Nat.le_refl _) _).grown gd (by simp) (fun k hk => by simp [Act.eval, Value.ownBlock] at hk; omega); clear gd hatd; rw [Nat.zero_add] at od; obtain ⟨Db, db, hv1⟩ := own_shape od; rw [hv1] at od; rw [hv1]; clear hv1)
                obtain ⟨gb, rfl⟩ : ∃ gb, Db = some ⟨gb, 0, none⟩ := by
                  rcases od.2 with ⟨h', h''⟩ | ⟨gg, cap, cur, h', _⟩
                  · omega
                  · simp only [Value.slice.injEq, true_and] at h'
                    exact ⟨gg, h'.1⟩
                have hgb := (od.lt gb rfl).1
                have od : wd.ownsRow V4.heap.size 5 1 (.slice (some ⟨gb, 0, none⟩) ds.length db) ds.length (ds.map (Value.int .u8)) := od
                have HOD := hide od
                have hcells : Hid (∀ j, (hj : j < ds.length) → wd.cell? ⟨gb, j, none⟩ = some (.int .u8 ds[j])) := hide (fun j hj => by
                  rw [od.cellAt j (by omega)]
                  simp [hj])
                have hfroz : Hid (∀ j, wd.frozen? ⟨gb, j, none⟩ = false) := hide (fun j => od.frozenAt j)
                clear od
                have rA1 := (rA.below (C4.trans (BD.mono C4.size))).lt
                go_cut [173] (fun s173 wx => BadRel ds V4 gb db V4.heap.size wx)
                case first => as_aux_lemma =>
                  go_region_with (first
                    | (go_at_call 25; ((with_reducible refine (lwAt_int _ (ds.length : Int) l A c _ (by omega) (by omega) hL ?_ b8).mono ?_); exact rA1; rintro e w' ⟨r1, k1, rfl, h10, h11, rfl⟩; obtain ⟨i1, rfl⟩ := Int.eq_ofNat_of_zero_le h10; have hi1 : i1 < ds.length := (by omega); have hc1 := hcells.out i1 hi1; have hf1 := hfroz.out i1; have hb1 := d8.get i1 hi1; clear h11))
                    | (go_at_call 25; refine (lwAt_int _ _ l A c _ (by omega) (by omega) hL ?_ b8).mono ?_; exact rA1; rintro e w' ⟨r2, k2, rfl, h20, h21, rfl⟩; obtain ⟨i2, rfl⟩ := Int.eq_ofNat_of_zero_le h20; have hi2 : i2 < 8 := (by omega); clear h21))
                  all_goals
                    go_wp2_with fail
                    go_meet
                    have hf := flip_bit ds[i1] hb1.1 hb1.2 i2 hi2
                    have hst := ((show (wd.drewN (1 + k1 + k2)).ownsRow V4.heap.size 5 1 (.slice (some ⟨gb, 0, none⟩) ds.length db) ds.length (ds.map (Value.int .u8)) from HOD.out).stored i1 (.int .u8 (bits BinOp.xor IntKind.u8 ds[i1] (IntKind.u8.wrap (2 ^ min (IntKind.u64.wrap (i2 : Int)).toNat 8))))).1
                    rw [← List.map_set] at hst
                    exact ⟨i1, hi1, _, hf.1, hf.2.1, hf.2.2, hst, (below_drewN BD _).setCell hgb _⟩
                case rest => as_aux_lemma =>
                  obtain ⟨ib, hib, yb, yb0, yb1, ybn, ob, BB⟩ := hcut
                  obtain ⟨V5, rfl⟩ : ∃ V : World, V = wc := ⟨_, rfl⟩
                  have NE := crc_ne ds ib hib yb d8 yb0 yb1 ybn HC0.out
                  obtain ⟨bs, hbs⟩ : ∃ bs, bs = ds.set ib yb := ⟨_, rfl⟩
                  have bs8 : B8 bs := by
                    rw [hbs]
                    intro x hx
                    rcases List.mem_or_eq_of_mem_set hx with a | rfl
                    · exact d8 x a
                    · exact ⟨yb0, yb1⟩
                  have bsl : bs.length = ds.length := by rw [hbs]; simp
                  have ICC := hide (fun D c W => implCrc_any bs D c W (by omega))
                  rw [← hbs] at NE ob
                  rw [NE.1, bsl] at ICC
                  obtain ⟨vb, hvb⟩ : ∃ v, v = crcV bs := ⟨_, rfl⟩
                  rw [← hvb] at ICC NE
                  have vne : vb ≠ cv := by rw [HCV.out]; exact NE.2
                  have hne1 : (vb == cv) = false := beq_eq_false_iff_ne.2 vne
                  have hne2 : (vb != cv) = true := bne_iff_ne.2 vne
                  have ob' := ob
                  rw [← bsl] at ob'
                  have rb : Rd .u8 V5 V5.heap.size (some ⟨gb, 0, none⟩) bs := Rd.of_own ob'
                  have B5 : Below W.heap.size W V5 := C4.trans (BB.mono C4.size)
                  have p12 := k12.kept B5
                  rw [HCC0.out] at p12
                  have q0 := p12.cell 0
                  have q1 := p12.cell 1
                  simp only [List.getElem?_toArray] at q0 q1
                  have hfl := field_code
                  clear ob ob' hbs hvb NE vne bsl ybn hp hp2
                  go_wp2_with fail
                  go_region_held3 (fun w' => w'.cell? ⟨w10.heap.size, 0, none⟩ = some (.int .i64 0) ∧ w'.cell? ⟨w10.heap.size, 1, none⟩ = some (.int .i64 cv) ∧ Below V5.heap.size V5 w')
                    (first | assumption | exact ⟨q0, q1, (Below.refl _ _).drew⟩ | exact ⟨cell_kept (by assumption) q0, cell_kept (by assumption) q1, by assumption⟩)
                    (first
                      | (go_at_call 15; refine (ICC.out _ _ _ ?_ bs8 ?_).mono ?_; (go_split_ands; exact (rb.below (by assumption)).lt); (go_split_ands; exact (TW.out.below B5).below (by assumption)); rintro e wa ⟨rfl, ba⟩; have BA : Below V5.heap.size V5 wa := (show Below V5.heap.size V5 _ by go_split_ands; assumption).trans (ba.mono (show Below V5.heap.size V5 _ by go_split_ands; assumption).size)))
                  go_wp2
                  go_ret
                  exact ⟨rfl, BW.trans ((B5.trans ((show Below V5.heap.size V5 _ by go_split_ands; assumption).mono B5.size)).mono BW.size)⟩
            · have hp : (cc == 0) = false := beq_eq_false_iff_ne.2 hcc
              have hp2 : (cc != 0) = true := bne_iff_ne.2 hcc
              clear hcc
              go_wp2
              go_ret
              exact ⟨rfl, BW.trans (C4.mono BW.size)⟩
  · go_enter Tryd.func3, Tryd.ntmps3
    go_wp2_with fail
    refine (lwBig_yes l A c w hL hl).mono ?_
    rintro e w' ⟨rfl, rfl⟩
    go_wp2
    go_ret
    exact ⟨rfl, Below.refl _ _⟩
end Go.Proofs.YtechfdnfmapafaaDoor
