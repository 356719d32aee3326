/- The walk of the law of frames. -/
import Derived.Test.YtkeifkdaddmkfaaDoorDrawFr2
import Derived.Test.YtkeifkdaddmkfaaDoorFrMath
import Derived.Test.YtkeifkdaddmkfaaDoorReadMath2
import Derived.Test.YtkeifkdaddmkfaaDoorReadF5
import Derived.Test.YtkeifkdaddmkfaaDoorLw
import Derived.Test.YtkeifkdaddmkfaaDoorFrS
import Derived.Test.YtkeifkdaddmkfaaDoorFrF
import Derived.Deep.RegionHeld3
import Derived.Deep.DeepCutAuto
import Derived.BigQuiet
namespace Go.Proofs.YtkeifkdaddmkfaaDoor
open Go.RowKit

theorem packL_pos {es : List Ev} (h : 0 < es.length) : 0 < (packL 0 es).length := by
  rcases es with _ | ⟨x, es⟩
  · simp at h
  · unfold packL
    rw [List.length_append]
    unfold evB
    have := putL_pos x.v
    rw [List.length_append]
    omega

/-- A frame's bytes, whatever stands behind them, are read back as the frame. -/
theorem fr_back {k : Int} {es : List Ev} (h : frF k es = 0) (d : List Int) :
    frC (frB k es ++ d) = 0 ∧ frK (frB k es ++ d) = k ∧ frE (frB k es ++ d) = es ∧ frZ (frB k es ++ d) = ((frB k es).length : Nat) := by
  obtain ⟨k0, k3, hpos, hst⟩ := frF_zero h
  have hpp := packL_pos hpos
  have hpl := packL_len8 hst
  have hun := un_pack hst
  have hpk : pkB es = packL 0 es := pk_ok hst
  rw [hpk] at hun
  rw [frB_ok h]
  obtain ⟨p, hp⟩ : ∃ p, p = packL 0 es := ⟨_, rfl⟩
  rw [← hp] at hpp hpl hun ⊢
  clear hp hpk h hst hpos
  obtain ⟨S, hS⟩ : ∃ S, S = fourL (crcV (hdL k p)) := ⟨_, rfl⟩
  have lS : S.length = 4 := by rw [hS]; exact fourL_length _
  have hD : frL k p ++ d = 66 :: k :: (putL (p.length : Int) ++ (p ++ (S ++ d))) := by
    unfold frL
    rw [← hS]
    unfold hdL
    simp [List.append_assoc]
  obtain ⟨r1, r2, r3⟩ := rd_app (p.length : Int) (p ++ (S ++ d)) (by omega) (by omega)
  have hd2 : (frL k p ++ d).drop 2 = putL (p.length : Int) ++ (p ++ (S ++ d)) := by rw [hD]; rfl
  have hF : frFrom (frL k p ++ d) = 2 + (putL (p.length : Int)).length := by unfold frFrom; rw [hd2, r3]; simp
  have hT : frTo (frL k p ++ d) = 2 + (putL (p.length : Int)).length + p.length := by unfold frTo; rw [hF, hd2, r2]; simp
  have lh : (hdL k p).length = 2 + (putL (p.length : Int)).length + p.length := by unfold hdL; rw [List.length_append, List.length_append]; simp
  have hL : frL k p ++ d = hdL k p ++ (S ++ d) := by unfold frL; rw [← hS, List.append_assoc]
  have hlen : (frL k p).length = 2 + (putL (p.length : Int)).length + p.length + 4 := by unfold frL; rw [List.length_append, lh, fourL_length]
  have tk : (frL k p ++ d).take (frTo (frL k p ++ d)) = hdL k p := by
    rw [hT, ← lh, hL]; exact List.take_left
  have dr : (frL k p ++ d).drop (frTo (frL k p ++ d)) = S ++ d := by
    rw [hT, ← lh, hL]; exact List.drop_left
  have hH : frHd (frL k p ++ d) := by
    refine ⟨by rw [List.length_append, hlen]; omega, by rw [hD]; rfl, ?_, by rw [hd2]; exact r1, by rw [hd2, r2]; omega, by rw [hd2, r2]; omega, by rw [hT, List.length_append, hlen]; omega⟩
    rw [hD]
    show k < 4
    omega
  have hQ : frSum (frL k p ++ d) := by
    unfold frSum
    rw [tk, dr, ← hS, ← lS]
    exact List.take_left.symm
  have hP : frPay (frL k p ++ d) = p := by
    unfold frPay
    rw [tk, hF]
    unfold hdL
    have : ([66, k] ++ putL (p.length : Int)).length = 2 + (putL (p.length : Int)).length := by rw [List.length_append]; simp
    rw [← this]
    exact List.drop_left
  have hC := frC_ok hH hQ (by rw [hP]; exact hun.1)
  obtain ⟨y1, y2, y3⟩ := frC_yes hC
  refine ⟨hC, ?_, by rw [y1, hP]; exact hun.2, by rw [y3, hT, hlen]; omega⟩
  rw [y2, hD]
  rfl

theorem take_more (d : List Int) (m n : Nat) : d.take (m + n) = d.take m ++ (d.drop m).take n := List.take_add
/-- What is read as a frame lays the bytes that it was read from. -/
theorem fr_again {d : List Int} (b : B8 d) (h : frC d = 0) : frB (frK d) (frE d) = d.take (frZ d).toNat ∧ 1 ≤ frZ d ∧ frZ d ≤ d.length := by
  obtain ⟨hH, hQ, hU⟩ := frC_zero h
  obtain ⟨y1, y2, y3⟩ := frC_yes h
  have hpl := frPay_len d hH
  obtain ⟨u1, u2, u3⟩ : pkB (unE (frPay d)) = frPay d ∧ stF (unE (frPay d)) = 0 ∧ (frPay d).length ≤ 4000 := pack_un ((b.take _).drop _) hU
  obtain ⟨h0, h1, h2, h3, h4, h5, h6⟩ := hH
  obtain ⟨z1, z2, z3, z4, z5⟩ := rd_back (b.drop 2) h3
  have hk : d.getD 1 0 = d[1] := by simp [show 1 < d.length by omega]
  have hz : d.getD 0 0 = d[0] := by simp [show 0 < d.length by omega]
  have bk := b.get 1 (by omega)
  rw [← hk] at bk
  have hpk : packL 0 (unE (frPay d)) = frPay d := by rw [← pk_ok u2]; exact u1
  have hne : 0 < (unE (frPay d)).length := by
    rcases he : unE (frPay d) with _ | ⟨x, es⟩
    · rw [he] at hpk
      have := congrArg List.length hpk
      rw [hpl] at this
      simp [packL] at this
      omega
    · simp
  have hF := frF_of bk.1 (by omega) hne u2
  have t2 : d.take 2 = [66, d.getD 1 0] := by
    rw [hk]
    rw [hz] at h1
    rcases d with _ | ⟨x, _ | ⟨y, d⟩⟩
    · simp at h0
    · simp at h0
    · simp at h1 ⊢; exact h1
  have tT : hdL (d.getD 1 0) (frPay d) = d.take (frTo d) := by
    have e1 : d.take (frTo d) = d.take (frFrom d) ++ frPay d := by
      unfold frPay
      have := (List.take_append_drop (frFrom d) (d.take (frTo d))).symm
      rw [List.take_take, Nat.min_eq_left (by unfold frTo; omega)] at this
      exact this
    have e2 : d.take (frFrom d) = [66, d.getD 1 0] ++ putL (rdV (d.drop 2)) := by
      unfold frFrom
      rw [take_more, t2, z5]
    unfold hdL
    rw [e1, e2, hpl, Int.toNat_of_nonneg z3]
  have hLL : frL (d.getD 1 0) (frPay d) = d.take (frTo d + 4) := by
    unfold frL
    rw [tT, take_more]
    unfold frSum at hQ
    rw [hQ]
  refine ⟨?_, by rw [y3]; omega, by rw [y3]; omega⟩
  rw [y1, y2, y3, frB_ok hF, hpk, hLL]
  congr 1

theorem keep16 {W w w' : World} {a0 a1 a2 a3 a4 a5 a6 a7 a8 a9 a10 a11 a12 a13 a14 a15 : Addr} {v0 v1 v2 v3 v4 v5 v6 v7 v8 v9 v10 v11 v12 v13 v14 v15 : Value} (hb : Below w.heap.size w w') (h0 : w.cell? a0 = some v0) (h1 : w.cell? a1 = some v1) (h2 : w.cell? a2 = some v2) (h3 : w.cell? a3 = some v3) (h4 : w.cell? a4 = some v4) (h5 : w.cell? a5 = some v5) (h6 : w.cell? a6 = some v6) (h7 : w.cell? a7 = some v7) (h8 : w.cell? a8 = some v8) (h9 : w.cell? a9 = some v9) (h10 : w.cell? a10 = some v10) (h11 : w.cell? a11 = some v11) (h12 : w.cell? a12 = some v12) (h13 : w.cell? a13 = some v13) (h14 : w.cell? a14 = some v14) (h15 : w.cell? a15 = some v15) (hB : Below W.heap.size W w) :
    w'.cell? a0 = some v0 ∧ w'.cell? a1 = some v1 ∧ w'.cell? a2 = some v2 ∧ w'.cell? a3 = some v3 ∧ w'.cell? a4 = some v4 ∧ w'.cell? a5 = some v5 ∧ w'.cell? a6 = some v6 ∧ w'.cell? a7 = some v7 ∧ w'.cell? a8 = some v8 ∧ w'.cell? a9 = some v9 ∧ w'.cell? a10 = some v10 ∧ w'.cell? a11 = some v11 ∧ w'.cell? a12 = some v12 ∧ w'.cell? a13 = some v13 ∧ w'.cell? a14 = some v14 ∧ w'.cell? a15 = some v15 ∧ Below W.heap.size W w' :=
  ⟨cell_kept hb h0, cell_kept hb h1, cell_kept hb h2, cell_kept hb h3, cell_kept hb h4, cell_kept hb h5, cell_kept hb h6, cell_kept hb h7, cell_kept hb h8, cell_kept hb h9, cell_kept hb h10, cell_kept hb h11, cell_kept hb h12, cell_kept hb h13, cell_kept hb h14, cell_kept hb h15, hB.trans (hb.mono hB.size)⟩
theorem keep4 {W w w' : World} {a0 a1 a2 a3 : Addr} {v0 v1 v2 v3 : Value} (hb : Below w.heap.size w w') (h0 : w.cell? a0 = some v0) (h1 : w.cell? a1 = some v1) (h2 : w.cell? a2 = some v2) (h3 : w.cell? a3 = some v3) (hB : Below W.heap.size W w) :
    w'.cell? a0 = some v0 ∧ w'.cell? a1 = some v1 ∧ w'.cell? a2 = some v2 ∧ w'.cell? a3 = some v3 ∧ Below W.heap.size W w' :=
  ⟨cell_kept hb h0, cell_kept hb h1, cell_kept hb h2, cell_kept hb h3, hB.trans (hb.mono hB.size)⟩

set_option maxRecDepth 100000 in
set_option maxHeartbeats 12000000 in
theorem FnFrames_walk (l : List Int) (A : Option Addr) (c : Nat) (aN aS aE : Addr) (w : World) (hl : l.length ≤ maxLen) (h : Rd .u8 w w.heap.size A l) (b8 : B8 l) (hT : Tab w) (hS : Sent aN aS aE w) :
    Calls Tryd.prog 3 #[.slice A l.length c] w fun e w' => e = .returned (.bool true) ∧ Below w.heap.size w w' := by
  have HT := hide hT
  have HS := hide hS
  clear hT hS
  by_cases hL : l.length ≤ 1048576
  · clear hl
    go_enter Tryd.func3, Tryd.ntmps3
    go_wp2_with fail
    refine (lwBig_no l A c w hL).mono ?_
    rintro e w0 ⟨rfl, rfl⟩
    go_wp2_with fail
    refine (DrawPackFrame_any l A c w hL h b8).mono ?_
    rintro e w1 ⟨k, es, D1, d1, rfl, h9, o1, B⟩
    have r1 := RdE.of_own o1
    have R := h.below B
    have zB := B.size
    clear o1 h
    obtain ⟨pl, hpl⟩ : ∃ x, x = frB k es := ⟨_, rfl⟩
    obtain ⟨pc, hpc⟩ : ∃ x, x = frF k es := ⟨_, rfl⟩
    have HPL := hide hpl
    have HPC := hide hpc
    have p8 : B8 pl := by rw [hpl]; exact frB_B8 k es
    have pln : pl.length ≤ 152 := by rw [hpl]; exact frB_len k es
    have ln : es.length ≤ maxLen := by unfold maxLen; omega
    have IP := hide (fun W hW hT => implPackF_any k es D1 d1 W ln hW hT)
    have SP := hide (fun W hW => specPackF_any k es D1 d1 W ln hW)
    rw [← hpl, ← hpc] at IP SP
    clear hpl hpc
    have e_ := (Below.refl w1.heap.size w1).alloc (Nat.le_refl _) (Obj.cells #[Value.int .i64 k, .slice D1 es.length d1] 26)
    have zz_0 : (w1.alloc (Obj.cells #[Value.int .i64 k, .slice D1 es.length d1] 26)).heap.size = w1.heap.size + 1 := by simp
    have z_1 := Below.size e_
    replace r1 := (r1.below e_).lt
    replace R := R.below (e_.mono (by omega))
    replace B := B.trans (e_.mono B.size)
    clear e_
    have k3 := Bk.new w1 #[Value.int .i64 k, .slice D1 es.length d1] 26
    have qK := k3.cell
    go_wp2_with fail
    clear qK
    refine (IP.out _ r1 (HT.out.below B)).mono ?_
    rintro e w2 ⟨Ap, cp, rfl, o2, b2⟩
    have z_2 := Below.size b2
    replace r1 := (r1.below b2).lt
    replace R := R.below (b2.mono (by omega))
    replace B := B.trans (b2.mono B.size)
    replace k3 := k3.kept b2
    clear b2
    have rp := Rd.of_own o2
    have pcap := (own_capE o2).1
    clear o2 IP
    have e_ := (Below.refl w2.heap.size w2).alloc (Nat.le_refl _) (Obj.cells #[Value.int .i64 pc, .slice Ap pl.length cp] 29)
    have zz_2 : (w2.alloc (Obj.cells #[Value.int .i64 pc, .slice Ap pl.length cp] 29)).heap.size = w2.heap.size + 1 := by simp
    have z_3 := Below.size e_
    replace r1 := (r1.below e_).lt
    replace R := R.below (e_.mono (by omega))
    replace B := B.trans (e_.mono B.size)
    replace k3 := k3.kept e_
    replace rp := (rp.below e_).lt
    clear e_
    have k4 := Bk.new w2 #[Value.int .i64 pc, .slice Ap pl.length cp] 29
    go_wp2_with fail
    refine (DrawReadFrame_any l A c _ hL (R.more (by omega)) b8).mono ?_
    rintro e w3 ⟨xs, Dx, dx, rfl, xl, xd, x8, rx, b3⟩
    have z_4 := Below.size b3
    replace r1 := (r1.below b3).lt
    replace R := R.below (b3.mono (by omega))
    replace B := B.trans (b3.mono B.size)
    replace k3 := k3.kept b3
    replace rp := (rp.below b3).lt
    replace k4 := k4.kept b3
    clear b3
    obtain ⟨ul, hul⟩ : ∃ x, x = frE xs := ⟨_, rfl⟩
    obtain ⟨uc, huc⟩ : ∃ x, x = frC xs := ⟨_, rfl⟩
    obtain ⟨uk, huk⟩ : ∃ x, x = frK xs := ⟨_, rfl⟩
    obtain ⟨uz, huz⟩ : ∃ x, x = frZ xs := ⟨_, rfl⟩
    have uln : ul.length ≤ 8 := by rw [hul]; exact frE_len x8
    have UA : Hid (uc = 0 → frB uk ul = xs.take uz.toNat ∧ 1 ≤ uz ∧ uz ≤ xs.length) := hide (fun h0 => by rw [huk, hul, huz]; exact fr_again x8 (by rw [← huc]; exact h0))
    have IR := hide (fun W hW hT hS => implRf_any xs Dx dx aN aS aE W (by omega) xd hW x8 hT hS)
    have SR := hide (fun W hW => specRf_any xs Dx dx W (by omega) xd hW x8)
    unfold RfPost at IR SR
    rw [← hul, ← huc, ← huk, ← huz] at IR SR
    clear hul huc huk huz
    go_wp2_with fail
    refine (IR.out _ rx (HT.out.below B) (HS.out.below B)).mono ?_
    rintro e w4 ⟨Au, cu, rfl, o4, b4⟩
    have z_5 := Below.size b4
    replace r1 := (r1.below b4).lt
    replace R := R.below (b4.mono (by omega))
    replace B := B.trans (b4.mono B.size)
    replace k3 := k3.kept b4
    replace rp := (rp.below b4).lt
    replace k4 := k4.kept b4
    replace rx := (rx.below b4).lt
    clear b4
    have ru := RdE.of_own o4
    clear o4 IR
    have e_ := (Below.refl w4.heap.size w4).alloc (Nat.le_refl _) (Obj.cells #[Value.int .i64 uc, .int .i64 uk, .slice Au ul.length cu, .int .i64 uz] 33)
    have zz_5 : (w4.alloc (Obj.cells #[Value.int .i64 uc, .int .i64 uk, .slice Au ul.length cu, .int .i64 uz] 33)).heap.size = w4.heap.size + 1 := by simp
    have z_6 := Below.size e_
    replace r1 := (r1.below e_).lt
    replace R := R.below (e_.mono (by omega))
    replace B := B.trans (e_.mono B.size)
    replace k3 := k3.kept e_
    replace rp := (rp.below e_).lt
    replace k4 := k4.kept e_
    replace rx := (rx.below e_).lt
    replace ru := (ru.below e_).lt
    clear e_
    have k6 := Bk.new w4 #[Value.int .i64 uc, .int .i64 uk, .slice Au ul.length cu, .int .i64 uz] 33
    go_wp2_with fail
    refine (SR.out _ rx).mono ?_
    rintro e w5 ⟨Aw, cw, rfl, o5, b5⟩
    have z_7 := Below.size b5
    replace r1 := (r1.below b5).lt
    replace R := R.below (b5.mono (by omega))
    replace B := B.trans (b5.mono B.size)
    replace k3 := k3.kept b5
    replace rp := (rp.below b5).lt
    replace k4 := k4.kept b5
    replace rx := (rx.below b5).lt
    replace ru := (ru.below b5).lt
    replace k6 := k6.kept b5
    clear b5
    have rw_ := RdE.of_own o5
    clear o5 SR
    have e_ := (Below.refl w5.heap.size w5).alloc (Nat.le_refl _) (Obj.cells #[Value.int .i64 uc, .int .i64 uk, .slice Aw ul.length cw, .int .i64 uz] 33)
    have zz_7 : (w5.alloc (Obj.cells #[Value.int .i64 uc, .int .i64 uk, .slice Aw ul.length cw, .int .i64 uz] 33)).heap.size = w5.heap.size + 1 := by simp
    have z_8 := Below.size e_
    replace r1 := (r1.below e_).lt
    replace R := R.below (e_.mono (by omega))
    replace B := B.trans (e_.mono B.size)
    replace k3 := k3.kept e_
    replace rp := (rp.below e_).lt
    replace k4 := k4.kept e_
    replace rx := (rx.below e_).lt
    replace ru := (ru.below e_).lt
    replace k6 := k6.kept e_
    replace rw_ := (rw_.below e_).lt
    clear e_
    have k7 := Bk.new w5 #[Value.int .i64 uc, .int .i64 uk, .slice Aw ul.length cw, .int .i64 uz] 33
    go_wp2_with fail
    refine (DrawSameFrames_any l A c _ hL (R.more (by omega)) b8).mono ?_
    rintro e w6 ⟨qa, qb, ys, Da, Db, da, db, rfl, yl, ra, rb, b6⟩
    have z_9 := Below.size b6
    replace r1 := (r1.below b6).lt
    replace R := R.below (b6.mono (by omega))
    replace B := B.trans (b6.mono B.size)
    replace k3 := k3.kept b6
    replace rp := (rp.below b6).lt
    replace k4 := k4.kept b6
    replace rx := (rx.below b6).lt
    replace ru := (ru.below b6).lt
    replace k6 := k6.kept b6
    replace rw_ := (rw_.below b6).lt
    replace k7 := k7.kept b6
    clear b6
    clear R
    have e_ := (Below.refl w6.heap.size w6).alloc (Nat.le_refl _) (Obj.cells #[Value.int .i64 qa, .slice Da ys.length da] 26)
    have zz_9 : (w6.alloc (Obj.cells #[Value.int .i64 qa, .slice Da ys.length da] 26)).heap.size = w6.heap.size + 1 := by simp
    have z_10 := Below.size e_
    replace r1 := (r1.below e_).lt
    replace B := B.trans (e_.mono B.size)
    replace k3 := k3.kept e_
    replace rp := (rp.below e_).lt
    replace k4 := k4.kept e_
    replace rx := (rx.below e_).lt
    replace ru := (ru.below e_).lt
    replace k6 := k6.kept e_
    replace rw_ := (rw_.below e_).lt
    replace k7 := k7.kept e_
    replace ra := (ra.below e_).lt
    replace rb := (rb.below e_).lt
    clear e_
    have k8 := Bk.new w6 #[Value.int .i64 qa, .slice Da ys.length da] 26
    have hs7 : (w6.alloc (Obj.cells #[Value.int .i64 qa, .slice Da ys.length da] 26)).heap.size = w6.heap.size + 1 := by simp
    have e_ := (Below.refl (w6.alloc (Obj.cells #[Value.int .i64 qa, .slice Da ys.length da] 26)).heap.size (w6.alloc (Obj.cells #[Value.int .i64 qa, .slice Da ys.length da] 26))).alloc (Nat.le_refl _) (Obj.cells #[Value.int .i64 qb, .slice Db ys.length db] 26)
    have zz_10 : ((w6.alloc (Obj.cells #[Value.int .i64 qa, .slice Da ys.length da] 26)).alloc (Obj.cells #[Value.int .i64 qb, .slice Db ys.length db] 26)).heap.size = (w6.alloc (Obj.cells #[Value.int .i64 qa, .slice Da ys.length da] 26)).heap.size + 1 := by simp
    have z_11 := Below.size e_
    replace r1 := (r1.below e_).lt
    replace B := B.trans (e_.mono B.size)
    replace k3 := k3.kept e_
    replace rp := (rp.below e_).lt
    replace k4 := k4.kept e_
    replace rx := (rx.below e_).lt
    replace ru := (ru.below e_).lt
    replace k6 := k6.kept e_
    replace rw_ := (rw_.below e_).lt
    replace k7 := k7.kept e_
    replace ra := (ra.below e_).lt
    replace rb := (rb.below e_).lt
    replace k8 := k8.kept e_
    clear e_
    have k9 := Bk.new (w6.alloc (Obj.cells #[Value.int .i64 qa, .slice Da ys.length da] 26)) #[Value.int .i64 qb, .slice Db ys.length db] 26
    rw [hs7] at k9
    clear hs7
    go_wp2_with fail
    generalize ((w6.alloc (Obj.cells #[Value.int .i64 qa, .slice Da ys.length da] 26)).alloc (Obj.cells #[Value.int .i64 qb, .slice Db ys.length db] 26)) = V at *
    have c30 : V.cell? ⟨w1.heap.size, 0, none⟩ = some (.int .i64 k) := (k3.cell 0).trans rfl
    have c31 : V.cell? ⟨w1.heap.size, 1, none⟩ = some (.slice D1 es.length d1) := (k3.cell 1).trans rfl
    have c40 : V.cell? ⟨w2.heap.size, 0, none⟩ = some (.int .i64 pc) := (k4.cell 0).trans rfl
    have c41 : V.cell? ⟨w2.heap.size, 1, none⟩ = some (.slice Ap pl.length cp) := (k4.cell 1).trans rfl
    have c60 : V.cell? ⟨w4.heap.size, 0, none⟩ = some (.int .i64 uc) := (k6.cell 0).trans rfl
    have c61 : V.cell? ⟨w4.heap.size, 1, none⟩ = some (.int .i64 uk) := (k6.cell 1).trans rfl
    have c62 : V.cell? ⟨w4.heap.size, 2, none⟩ = some (.slice Au ul.length cu) := (k6.cell 2).trans rfl
    have c63 : V.cell? ⟨w4.heap.size, 3, none⟩ = some (.int .i64 uz) := (k6.cell 3).trans rfl
    have c70 : V.cell? ⟨w5.heap.size, 0, none⟩ = some (.int .i64 uc) := (k7.cell 0).trans rfl
    have c71 : V.cell? ⟨w5.heap.size, 1, none⟩ = some (.int .i64 uk) := (k7.cell 1).trans rfl
    have c72 : V.cell? ⟨w5.heap.size, 2, none⟩ = some (.slice Aw ul.length cw) := (k7.cell 2).trans rfl
    have c73 : V.cell? ⟨w5.heap.size, 3, none⟩ = some (.int .i64 uz) := (k7.cell 3).trans rfl
    have c80 : V.cell? ⟨w6.heap.size, 0, none⟩ = some (.int .i64 qa) := (k8.cell 0).trans rfl
    have c81 : V.cell? ⟨w6.heap.size, 1, none⟩ = some (.slice Da ys.length da) := (k8.cell 1).trans rfl
    have c90 : V.cell? ⟨w6.heap.size + 1, 0, none⟩ = some (.int .i64 qb) := (k9.cell 0).trans rfl
    have c91 : V.cell? ⟨w6.heap.size + 1, 1, none⟩ = some (.slice Db ys.length db) := (k9.cell 1).trans rfl
    obtain ⟨F1, hF1⟩ : ∃ x, x = sameF qa qb ys ys := ⟨_, rfl⟩
    have UU := hide (fun W hW hW' => implFrS_any uk uk ul ul Au Aw cu cw W (by unfold maxLen; omega) hW hW')
    rw [sameF_refl] at UU
    have I1 := hide (fun W hW hW' => implFrS_any qa qb ys ys Da Db da db W (by unfold maxLen; omega) hW hW')
    have S1 := hide (fun W hW hW' => specFrS_any qa qb ys ys Da Db da db W (by unfold maxLen; omega) hW hW')
    rw [← hF1] at I1 S1
    have I3 := hide (fun W hW => implFrF_any k es D1 d1 W ln hW)
    rw [show frF k es = pc from HPC.out.symm] at I3
    clear hF1
    go_cut [70] (fun s wx => s = .bool false ∧ Below V.heap.size V wx)
    case first => as_aux_lemma =>
      go_region_held3 (fun w' => w'.cell? ⟨w1.heap.size, 0, none⟩ = some (.int .i64 k) ∧ w'.cell? ⟨w1.heap.size, 1, none⟩ = some (.slice D1 es.length d1) ∧ w'.cell? ⟨w2.heap.size, 0, none⟩ = some (.int .i64 pc) ∧ w'.cell? ⟨w2.heap.size, 1, none⟩ = some (.slice Ap pl.length cp) ∧ w'.cell? ⟨w4.heap.size, 0, none⟩ = some (.int .i64 uc) ∧ w'.cell? ⟨w4.heap.size, 1, none⟩ = some (.int .i64 uk) ∧ w'.cell? ⟨w4.heap.size, 2, none⟩ = some (.slice Au ul.length cu) ∧ w'.cell? ⟨w4.heap.size, 3, none⟩ = some (.int .i64 uz) ∧ w'.cell? ⟨w5.heap.size, 0, none⟩ = some (.int .i64 uc) ∧ w'.cell? ⟨w5.heap.size, 1, none⟩ = some (.int .i64 uk) ∧ w'.cell? ⟨w5.heap.size, 2, none⟩ = some (.slice Aw ul.length cw) ∧ w'.cell? ⟨w5.heap.size, 3, none⟩ = some (.int .i64 uz) ∧ w'.cell? ⟨w6.heap.size, 0, none⟩ = some (.int .i64 qa) ∧ w'.cell? ⟨w6.heap.size, 1, none⟩ = some (.slice Da ys.length da) ∧ w'.cell? ⟨w6.heap.size + 1, 0, none⟩ = some (.int .i64 qb) ∧ w'.cell? ⟨w6.heap.size + 1, 1, none⟩ = some (.slice Db ys.length db) ∧ Below V.heap.size V w')
        (first | assumption | exact ⟨c30, c31, c40, c41, c60, c61, c62, c63, c70, c71, c72, c73, c80, c81, c90, c91, (Below.refl _ _).drew⟩ | (go_split_ands; exact keep16 (by assumption) (by assumption) (by assumption) (by assumption) (by assumption) (by assumption) (by assumption) (by assumption) (by assumption) (by assumption) (by assumption) (by assumption) (by assumption) (by assumption) (by assumption) (by assumption) (by assumption) (by assumption)))
        (first
          | (go_at_call 14; refine (SP.out _ ?_).mono ?_; (go_split_ands; exact (r1.below (by assumption)).lt); rintro e wa ⟨A1, c1, rfl, oa, ba⟩)
          | (go_at_call 13; refine (lwBytes_same pc pl _ _ _ _ _ ?_ ?_ p8).mono ?_; (go_split_ands; exact (rp.below (by assumption)).lt); exact Rd.of_own (by assumption); rintro e wa ⟨rfl, ba⟩)
          | (go_at_call 15; (with_reducible refine (UU.out _ ?_ ?_).mono ?_); (go_split_ands; exact (ru.below (by assumption)).lt); (go_split_ands; exact (rw_.below (by assumption)).lt); rintro e wa ⟨rfl, ba⟩)
          | (go_at_call 15; (with_reducible refine (I1.out _ ?_ ?_).mono ?_); (go_split_ands; exact (ra.below (by assumption)).lt); (go_split_ands; exact (rb.below (by assumption)).lt); rintro e wa ⟨rfl, ba⟩)
          | (go_at_call 16; refine (S1.out _ ?_ ?_).mono ?_; (go_split_ands; exact (ra.below (by assumption)).lt); (go_split_ands; exact (rb.below (by assumption)).lt); rintro e wa ⟨rfl, ba⟩)
          | (go_at_call 17; refine (I3.out _ ?_).mono ?_; (go_split_ands; exact (r1.below (by assumption)).lt); rintro e wa ⟨rfl, ba⟩))
      go_wp2_with fail
      go_meet
      exact ⟨rfl, by go_split_ands; assumption⟩
    case rest =>
      obtain ⟨rfl, b7⟩ := hcut
      clear c30 c31 c40 c41 c60 c61 c62 c63 c70 c71 c72 c73 c80 c81 c90 c91 UU I1 S1 I3 SP
      clear ra rb k7 k8 k9 rw_
      have z_12 := Below.size b7
      replace r1 := (r1.below b7).lt
      replace B := B.trans (b7.mono B.size)
      replace k3 := k3.kept b7
      replace rp := (rp.below b7).lt
      replace k4 := k4.kept b7
      replace rx := (rx.below b7).lt
      replace ru := (ru.below b7).lt
      replace k6 := k6.kept b7
      clear b7
      go_upto_region 11 with (fail)
      go_cut [97] (fun s wx => s = .bool false ∧ Below wc.heap.size wc wx)
      case first => as_aux_lemma =>
        have e0 : wc.cell? ⟨w4.heap.size, 0, none⟩ = some (.int .i64 uc) := (k6.cell 0).trans rfl
        have e1 : wc.cell? ⟨w4.heap.size, 1, none⟩ = some (.int .i64 uk) := (k6.cell 1).trans rfl
        have e2 : wc.cell? ⟨w4.heap.size, 2, none⟩ = some (.slice Au ul.length cu) := (k6.cell 2).trans rfl
        have e3 : wc.cell? ⟨w4.heap.size, 3, none⟩ = some (.int .i64 uz) := (k6.cell 3).trans rfl
        by_cases huc : uc = 0
        · obtain ⟨UB, uz1, uz2⟩ := UA.out huc
          obtain ⟨z, rfl⟩ := Int.eq_ofNat_of_zero_le (show 0 ≤ uz by omega)
          rw [Int.toNat_natCast] at UB
          have hz : (xs.take z).length = z := by rw [List.length_take]; omega
          have IQ := hide (fun W hW hT => implPackF_any uk ul Au cu W (by unfold maxLen; omega) hW hT)
          rw [UB, hz] at IQ
          have LS := hide (fun A' c' W h h' => lwSame_any (xs.take z) (xs.take z) A' Dx c' dx W h h' (x8.take z) (x8.take z))
          rw [hz, show sameB (xs.take z) (xs.take z) = true by unfold sameB; simp] at LS
          have RC := fun W => run_head Dx xs.length z dx z W rfl (by omega)
          have rz := rx.take z
          have hTc := HT.out.below B
          have hfl := field_bytes
          have z1 : ¬ (z : Int) < 1 := by omega
          have z2 : ¬ (xs.length : Int) < (z : Int) := by omega
          subst huc
          clear UB hz uz1 uz2
          go_region_held3 (fun w' => w'.cell? ⟨w4.heap.size, 0, none⟩ = some (.int .i64 0) ∧ w'.cell? ⟨w4.heap.size, 1, none⟩ = some (.int .i64 uk) ∧ w'.cell? ⟨w4.heap.size, 2, none⟩ = some (.slice Au ul.length cu) ∧ w'.cell? ⟨w4.heap.size, 3, none⟩ = some (.int .i64 z) ∧ Below wc.heap.size wc w')
            (first | assumption | exact ⟨e0, e1, e2, e3, (Below.refl _ _).drew⟩ | (go_split_ands; exact keep4 (by assumption) (by assumption) (by assumption) (by assumption) (by assumption) (by assumption)))
            (first
              | (go_at_call 8; refine (IQ.out _ ?_ ?_).mono ?_; (go_split_ands; exact (ru.below (by assumption)).lt); (go_split_ands; exact hTc.below (by assumption)); rintro e wa ⟨A1, c1, rfl, oa, ba⟩)
              | (go_at_call 18; refine (LS.out _ _ _ ?_ ?_).mono ?_; exact Rd.of_own (by assumption); (go_split_ands; exact (rz.below (by assumption)).lt); rintro e wa ⟨rfl, rfl⟩))
          go_wp2_with fail
          go_meet
          exact ⟨rfl, by go_split_ands; assumption⟩
        · have u0 : (uc == 0) = false := beq_eq_false_iff_ne.2 huc
          have u1 : decide (uc = 0) = false := decide_eq_false huc
          clear huc
          go_quiet (fail)
          go_wp2_with fail
          go_meet
          exact ⟨rfl, below_drewN (Below.refl _ _) _⟩
      case rest =>
        obtain ⟨rfl, b9⟩ := hcut
        clear k6 ru
        have z_13 := Below.size b9
        replace r1 := (r1.below b9).lt
        replace B := B.trans (b9.mono B.size)
        replace k3 := k3.kept b9
        replace rp := (rp.below b9).lt
        replace k4 := k4.kept b9
        replace rx := (rx.below b9).lt
        clear b9
        have q40 := (k4.cell 0).trans (rfl : _ = some (Value.int .i64 pc))
        have q41 := (k4.cell 1).trans (rfl : _ = some (Value.slice Ap pl.length cp))
        clear UA
        by_cases hpc : pc = 0
        · have hfr : frF k es = 0 := by rw [← show pc = frF k es from HPC.out]; exact hpc
          have FB := fr_back hfr xs
          rw [← show pl = frB k es from HPL.out] at FB
          obtain ⟨FC, FK, FE, FZ⟩ := FB
          have FS := sameF_refl k es
          have IR := hide (fun A9 c9 W hc hW hT hS => implRf_any (pl ++ xs) A9 c9 aN aS aE W (by rw [List.length_append]; omega) hc hW (p8.append x8) hT hS)
          unfold RfPost at IR
          rw [FC, FK, FE, FZ] at IR
          obtain ⟨i0, hi, hz0, hz1, hz2⟩ := info_parts info_u8
          subst hpc
          clear hfr FC FK FE FZ HPC HPL x8 p8
          have ob : OwnB wc [] (.slice (some ⟨wc.heap.size, 0, none⟩) 0 0) (wc.alloc (Obj.cells #[] 5)) := ⟨World.ownsRow_lit wc #[] 0 (Nat.le_refl _) (by simp) rfl, (Below.refl _ _).alloc (Nat.le_refl _) _⟩
          have n4 : w2.heap.size ≠ wc.heap.size := by have := k4.lt; omega
          have q42 := ((k4.alloc (Obj.cells #[] 5)).cell 1).trans (rfl : _ = some (Value.slice Ap pl.length cp))
          have ep := (rp.alloc (Nat.le_refl _) (Obj.cells #[] 5))
          go_wp2_with (at_builtin; first
            | (refine wpList_append_rd _ rfl (.tmp 101) (.tmp 103) 22 rfl wc.heap.size 5 i0 (.int .u8 0) 1 Tryd.underlying22 hi hz0 hz1 hz2 rfl .u8 (.slice (some ⟨wc.heap.size, 0, none⟩) 0 0) _ _ rfl ob.1 Ap pl cp _ rfl ep (by unfold maxLen; simp only [List.length_nil]; omega) (by simp only [List.length_nil]; omega) ob.2.size ?_; intro v3 wa o3 g3 hat3; have oa := ob.more o3 g3; rw [List.nil_append] at oa; clear g3 hat3 o3 ep; have ex := rx.below oa.2)
            | (refine wpList_append_rd _ rfl (.tmp 104) (.tmp 105) 22 rfl wc.heap.size 5 i0 (.int .u8 0) 1 Tryd.underlying22 hi hz0 hz1 hz2 rfl .u8 v3 _ _ rfl oa.1 Dx xs dx _ rfl ex (by unfold maxLen; omega) (by omega) oa.2.size ?_; intro v4 wb o4 g4 hat4; have oc := oa.more o4 g4; clear g4 hat4 o4 oa ex; obtain ⟨A9, c9, hv9⟩ := own_shape oc.1; rw [hv9] at oc; rw [hv9]; clear hv9))
          have cap := (own_capE oc.1).1
          have r9 := Rd.of_own oc.1
          have B9 := B.trans (oc.2.mono B.size)
          replace k4 := k4.kept oc.2
          replace k3 := k3.kept oc.2
          replace r1 := (r1.below oc.2).lt
          rw [List.length_append] at IR cap
          clear oc B rx rp q40 q41 q42 n4
          refine (IR.out _ _ _ cap r9 (HT.out.below B9) (HS.out.below B9)).mono ?_
          rintro e w10 ⟨A10, c10, rfl, o10, b10⟩
          have ka := Bk.new w10 #[Value.int .i64 0, .int .i64 k, .slice A10 es.length c10, .int .i64 (pl.length : Nat)] 33
          have e10 := b10.alloc b10.size (Obj.cells #[Value.int .i64 0, .int .i64 k, .slice A10 es.length c10, .int .i64 (pl.length : Nat)] 33)
          have B10 := B9.trans (e10.mono B9.size)
          replace k4 := k4.kept e10
          replace k3 := k3.kept e10
          replace r1 := (r1.below e10).lt
          have r10 := ((RdE.of_own o10).alloc (Nat.le_refl _) (Obj.cells #[Value.int .i64 0, .int .i64 k, .slice A10 es.length c10, .int .i64 (pl.length : Nat)] 33)).lt
          clear o10 b10 e10 B9 r9 cap IR
          have q30 := (k3.cell 0).trans (rfl : _ = some (Value.int .i64 k))
          have q31 := (k3.cell 1).trans (rfl : _ = some (Value.slice D1 es.length d1))
          have q41 := (k4.cell 1).trans (rfl : _ = some (Value.slice Ap pl.length cp))
          have n3 : w1.heap.size < w2.heap.size := by omega
          have qa := ka.cell
          go_wp2_with fail
          refine (implFrS_any k k es es A10 D1 c10 d1 _ ln r10 r1).mono ?_
          rw [FS]
          rintro e w11 ⟨rfl, b11⟩
          replace ka := ka.kept b11
          replace k3 := k3.kept b11
          replace r1 := (r1.below b11).lt
          replace r10 := (r10.below b11).lt
          have B11 := B10.trans (b11.mono B10.size)
          clear b11 B10 q30 q31 q41 qa k4
          have q30 := (k3.cell 0).trans (rfl : _ = some (Value.int .i64 k))
          have q31 := (k3.cell 1).trans (rfl : _ = some (Value.slice D1 es.length d1))
          have qa := ka.cell
          go_wp2_with fail
          refine (specFrS_any k k es es A10 D1 c10 d1 _ ln r10 r1).mono ?_
          rw [FS]
          rintro e w12 ⟨rfl, b12⟩
          have B12 := B11.trans (b12.mono B11.size)
          clear b12 B11 q30 q31 qa ka k3
          go_wp2
          go_ret
          exact ⟨rfl, B12⟩
        · have p0 : (pc != 0) = true := bne_iff_ne.2 hpc
          have p1 : (pc == 0) = false := beq_eq_false_iff_ne.2 hpc
          clear hpc
          go_wp2
          go_ret
          exact ⟨rfl, B⟩
  · go_enter Tryd.func3, Tryd.ntmps3
    go_wp2_with fail
    refine (lwBig_yes l A c w hL hl).mono ?_
    rintro e w' ⟨rfl, rfl⟩
    go_wp2
    go_ret
    exact ⟨rfl, Below.refl _ _⟩
end Go.Proofs.YtkeifkdaddmkfaaDoor
