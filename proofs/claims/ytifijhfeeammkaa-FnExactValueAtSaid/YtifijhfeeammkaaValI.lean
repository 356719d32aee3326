/- The contract of ValueAt, in the program. -/
import Derived.Test.YtifijhfeeammkaaMacI
import Derived.Test.YtifijhfeeammkaaMsiV
namespace Go.Proofs.Ytifijhfeeammkaa
open Go.RowKit

theorem good_siz {n L : Nat} {m : Mac} (h : GoodM n L m) (hm : m.mem.length ≤ 32) : Siz m := by
  obtain ⟨h1, h2⟩ := h.rows
  have := h.nL
  exact ⟨by omega, hm, fun l hl => by rw [h2]; exact h.shp.2 l hl, by omega, by omega⟩
theorem good_sum {n L : Nat} {m : Mac} (h : GoodM n L m) : sumT m.cs ≤ 16 := by
  have := siz_sum (m := ⟨m.cs, []⟩) (by
    obtain ⟨h1, h2⟩ := h.rows
    have := h.nL
    exact ⟨by simp only; omega, by simp, fun l hl => by simp only at hl ⊢; rw [h2]; exact h.shp.2 l hl, by simp only; omega, by simp only; omega⟩)
  exact this
set_option maxRecDepth 100000 in
set_option maxHeartbeats 800000 in
theorem implValueAt_any (m : Mac) (A A' : Option Addr) (c c' : Nat) (ad : Int) (w : World) (h1 : m.cs.length ≤ maxLen) (h2 : m.mem.length ≤ maxLen) (h : RdMac w w.heap.size A A' m) :
    Calls Try.prog 18 #[macV A m.cs.length c A' m.mem.length c', .int .i64 ad] w fun e w' => e = .returned (.agg #[.int .i64 (vaC ad (macF m)), .int .i64 (vaV m ad (macF m))]) ∧ Below w.heap.size w w' := by
  obtain ⟨W, hW⟩ : ∃ W, W = (w.alloc (Obj.cells #[.slice A m.cs.length c, .slice A' m.mem.length c'] 27)).alloc (Obj.cells #[.int .i64 0, .int .i64 0] 38) := ⟨_, rfl⟩
  obtain ⟨k1, k2, hz, B0⟩ := two_new _ _ _ _ _ W hW
  have HW := hide hW
  have hRW := (h.below B0).lt
  have HM := implMacF_any m A A' c c' W h1 h2 hRW
  clear hW hRW
  by_cases hF : macF m = 0
  · obtain ⟨hG, hm32⟩ := macF_zero hF
    have HSm := hide (good_sum hG)
    rw [hF] at HM ⊢
    have HC := hide HM
    clear HM hF
    have hsh := hG.shp
    have hn := hG.nL
    generalize hLL : (m.cs.getD 0 []).length = L at hsh hn
    clear hG hLL
    by_cases ha : 0 ≤ ad ∧ ad ≤ 999999
    · rw [vaC_ok ha, vaV_ok ha]
      go_enter Try.func18, Try.ntmps18
      generalize hQ : w.heap.size = Q at *
      go_wp2_with fail
      rw [← HW.out]
      refine HC.out.mono ?_
      rintro e w1 ⟨rfl, hb1⟩
      have hbx := B0.trans (hb1.mono (by omega))
      have j1 := k1.kept hb1
      have j2 := k2.kept hb1
      clear hb1 HC
      go_wp2_with fail
      refine (allWithin_one _ _ _ _ _ _ (by simp [go_sem]) ha).mono ?_
      rintro e w2 ⟨rfl, rfl⟩
      have hsum : sumT m.cs ≤ 16 := HSm.out
      have y0 := fun o => ((j1.alloc o).cell 0).trans (rfl : _ = some (Value.slice A m.cs.length c))
      have Y1 := hide (fun o => j1.alloc o)
      have Y2 := hide (fun o => j2.alloc o)
      have HBX := hide (fun o => hbx.alloc (by have := hbx.size; omega) o)
      clear j1 j2
      go_wp2_with fail
      have z0 := y0 (Obj.cells #[.int .i64 ad] 2)
      refine (concat_any m.cs A c _ (by omega) (by omega) ((h.cs.below (HBX.out _)).more (by have := (HBX.out (Obj.cells #[.int .i64 ad] 2)).size; omega))).mono ?_
      rintro e w3 ⟨Z, z, rfl, hrZ, b3⟩
      have K1 := (Y1.out _).kept b3
      have K2 := (Y2.out _).kept b3
      have B3 := (HBX.out _).trans (b3.mono (by have := (HBX.out (Obj.cells #[.int .i64 ad] 2)).size; omega))
      have hfl : m.cs.flatten.length ≤ 16 := by rw [flat_len]; exact hsum
      obtain ⟨fl, hfe⟩ : ∃ fl, fl = m.cs.flatten := ⟨_, rfl⟩
      rw [← hfe] at hrZ hfl ⊢
      have HFE := hide hfe
      clear y0 z0 b3 hfe hsum
      go_wp2
      go_loopw [23] (fun i wr => ∃ k : Nat, k ≤ fl.length ∧ i = .int .i64 k ∧ Below w3.heap.size w3 wr ∧ Bk wr Q #[.slice A m.cs.length c, .slice A' m.mem.length c'] 27 ∧ Bk wr (Q + 1) #[.int .i64 0, .int .i64 0] 38 ∧ Hid (modL ad fl = modL ad (fl.drop k))) (fun i _ => fl.length - (intOf i).toNat)
      case atStart => exact ⟨0, Nat.zero_le _, rfl, Below.refl _ _, K1, K2, hide rfl⟩
      case round =>
        clear K1 K2
        obtain ⟨k, hk, rfl, hb, kb, kr, HR⟩ := hrel
        have B4 := B3.trans (hb.mono (by have := B3.size; omega))
        by_cases hlt : k < fl.length
        · obtain ⟨b, off, rfl, _, e0, e1, e2⟩ := (hrZ.below hb).get hlt
          have hd2 : modL ad (fl.drop k) = if fl[k].k = 2 ∧ fl[k].a = ad then some fl[k].v else modL ad (fl.drop (k + 1)) := by rw [List.drop_eq_getElem_cons hlt, modL_cons]
          obtain ⟨X, hX⟩ : ∃ X, X = fl[k] := ⟨_, rfl⟩
          rw [← hX] at e0 e1 e2 hd2
          clear hX
          have KB := hide (kb.alloc (Obj.cells #[.int .i64 X.k, .int .i64 X.a, .int .i64 X.v] 115))
          have KR := hide (kr.alloc (Obj.cells #[.int .i64 X.k, .int .i64 X.a, .int .i64 X.v] 115))
          have HB := hide (hb.alloc hb.size (Obj.cells #[.int .i64 X.k, .int .i64 X.a, .int .i64 X.v] 115))
          have HB4 := hide (B4.alloc (by have := B4.size; omega) (Obj.cells #[.int .i64 X.k, .int .i64 X.a, .int .i64 X.v] 115))
          by_cases hx : X.k = 2
          · have g0 : (X.k == 2) = true := beq_iff_eq.2 hx
            by_cases hxa : X.a = ad
            · have g1 : (X.a == ad) = true := beq_iff_eq.2 hxa
              rw [if_pos ⟨hx, hxa⟩] at hd2
              have HT := hide (show valM m ad = X.v by unfold valM; rw [← HFE.out, HR.out, hd2]; rfl)
              have q0 := KR.out.cell 0
              have q1 := KR.out.cell 1
              have f0 := KR.out.frozen 0
              have f1 := KR.out.frozen 1
              simp at q0 q1
              clear hd2 hx hxa kb kr B4
              go_wp2
              refine bodyPost_ret (v := .agg #[.int .i64 0, .int .i64 X.v]) (by simp [results, Try.results18, go_sem, q0, q1]) rfl ?_
              exact ⟨by rw [HT.out], (HB4.out.setCell (by simp) _).setCell (by simp) _⟩
            · have g1 : (X.a == ad) = false := beq_eq_false_iff_ne.2 hxa
              rw [if_neg (fun hh => hxa hh.2)] at hd2
              have HD := hide hd2
              clear hd2 hx hxa kb kr B4
              go_wp2
              go_roundw
              case rel => exact ⟨k + 1, by omega, by go_num, HB.out, KB.out, KR.out, hide (HR.out.trans HD.out)⟩
              case measure => simp [intOf]; omega
          · have g0 : (X.k == 2) = false := beq_eq_false_iff_ne.2 hx
            rw [if_neg (fun hh => hx hh.1)] at hd2
            have HD := hide hd2
            clear hd2 hx kb kr B4
            go_wp2
            go_roundw
            case rel => exact ⟨k + 1, by omega, by go_num, HB.out, KB.out, KR.out, hide (HR.out.trans HD.out)⟩
            case measure => simp [intOf]; omega
        · have HT := hide (show valM m ad = readM m.mem ad by unfold valM; rw [← HFE.out, HR.out, List.drop_eq_nil_of_le (by omega)]; rfl)
          have x1 := kb.cell 1
          simp at x1
          have HRM := (h.mem.below B4).more (show Q ≤ wr.heap.size by have := B4.size; omega)
          have HQ1 : Q + 1 < wr.heap.size := kr.lt
          go_wp2_with fail
          refine (valueAt_any m.mem A' c' ad _ (by unfold maxLen; omega) (by first | exact HRM | exact (h.mem.below B4).lt)).mono ?_
          rintro e w5 ⟨rfl, b5⟩
          have kr5 := kr.kept b5
          have B5 := B4.trans (b5.mono (by have := B4.size; omega))
          have q0 := kr5.cell 0
          have q1 := kr5.cell 1
          have f0 := kr5.frozen 0
          have f1 := kr5.frozen 1
          simp at q0 q1
          clear x1 kb kr kr5
          go_wp2
          refine bodyPost_ret (v := .agg #[.int .i64 0, .int .i64 (readM m.mem ad)]) (by simp [results, Try.results18, go_sem, q0, q1]) rfl ?_
          exact ⟨by rw [HT.out], (B5.setCell (by simp) _).setCell (by simp) _⟩
    · rw [vaC_no ha, vaV_no ha]
      have ha' : ad < 0 ∨ 999999 < ad := by omega
      clear ha
      go_enter Try.func18, Try.ntmps18
      generalize hQ : w.heap.size = Q at *
      go_wp2_with fail
      rw [← HW.out]
      refine HC.out.mono ?_
      rintro e w1 ⟨rfl, hb1⟩
      have hbx := B0.trans (hb1.mono (by omega))
      have j2 := (k2.kept hb1).alloc (Obj.cells #[.int .i64 ad] 2)
      have hbx := hbx.alloc (by have := hbx.size; omega) (Obj.cells #[.int .i64 ad] 2)
      have q0 := j2.cell 0
      have q1 := j2.cell 1
      have f0 := j2.frozen 0
      have f1 := j2.frozen 1
      simp at q0 q1
      clear hb1 HC
      go_wp2_with fail
      refine (allWithin_not _ _ _ _ _ _ (by simp [go_sem]) ha').mono ?_
      rintro e w2 ⟨rfl, rfl⟩
      go_wp2
      refine bodyPost_ret (v := .agg #[.int .i64 3, .int .i64 0]) (by simp [results, Try.results18, go_sem, q0, q1]) rfl ?_
      exact ⟨rfl, (hbx.setCell (by simp) _).setCell (by simp) _⟩
  · rw [vaC_bad hF, vaV_bad hF]
    generalize macF m = F at *
    have g0 : (F != 0) = true := bne_iff_ne.2 hF
    have g1 : (F == 0) = false := beq_eq_false_iff_ne.2 hF
    have HC := hide HM
    clear HM hF
    go_enter Try.func18, Try.ntmps18
    generalize hQ : w.heap.size = Q at *
    go_wp2_with fail
    rw [← HW.out]
    refine HC.out.mono ?_
    rintro e w1 ⟨rfl, hb1⟩
    have hbx := B0.trans (hb1.mono (by omega))
    have j2 := k2.kept hb1
    have q0 := j2.cell 0
    have q1 := j2.cell 1
    have f0 := j2.frozen 0
    have f1 := j2.frozen 1
    simp at q0 q1
    clear hb1 HC
    go_wp2
    refine bodyPost_ret (v := .agg #[.int .i64 F, .int .i64 0]) (by simp [results, Try.results18, go_sem, q0, q1]) rfl ?_
    exact ⟨rfl, (hbx.setCell (by simp) _).setCell (by simp) _⟩
end Go.Proofs.Ytifijhfeeammkaa
