/- The contract of ValueAt, in the model. -/
import Derived.Test.YtifijhfeeammkaaMsiJ
namespace Go.Proofs.Ytifijhfeeammkaa
open Go.RowKit

def vaC (a : Int) (F : Int) : Int := if F = 0 then (if 0 ≤ a ∧ a ≤ 999999 then 0 else 3) else F
def vaV (m : Mac) (a : Int) (F : Int) : Int := if F = 0 ∧ 0 ≤ a ∧ a ≤ 999999 then valM m a else 0
theorem modL_cons (a : Int) (x : Ev) (r : List Ev) : modL a (x :: r) = if x.k = 2 ∧ x.a = a then some x.v else modL a r := rfl
theorem modL_row (a : Int) (cs : List (List Ev)) (i : Nat) (hi : i < cs.length) (k : Nat) (hk : k < cs[i].length) :
    modL a (cs[i].drop k ++ (cs.drop (i + 1)).flatten) = if cs[i][k].k = 2 ∧ cs[i][k].a = a then some cs[i][k].v else modL a (cs[i].drop (k + 1) ++ (cs.drop (i + 1)).flatten) := by
  rw [List.drop_eq_getElem_cons hk, List.cons_append, modL_cons]
theorem flat_drop (cs : List (List Ev)) (i : Nat) (hi : i < cs.length) : (cs.drop i).flatten = cs[i].drop 0 ++ (cs.drop (i + 1)).flatten := by
  rw [List.drop_eq_getElem_cons hi, List.flatten_cons, List.drop_zero]

theorem vaC_ok {a : Int} (ha : 0 ≤ a ∧ a ≤ 999999) : vaC a 0 = 0 := by unfold vaC; rw [if_pos rfl, if_pos ha]
theorem vaC_no {a : Int} (ha : ¬ (0 ≤ a ∧ a ≤ 999999)) : vaC a 0 = 3 := by unfold vaC; rw [if_pos rfl, if_neg ha]
theorem vaC_bad {a F : Int} (h : ¬ F = 0) : vaC a F = F := if_neg h
theorem vaV_ok {m : Mac} {a : Int} (ha : 0 ≤ a ∧ a ≤ 999999) : vaV m a 0 = valM m a := if_pos ⟨rfl, ha⟩
theorem vaV_no {m : Mac} {a : Int} (ha : ¬ (0 ≤ a ∧ a ≤ 999999)) : vaV m a 0 = 0 := if_neg fun h => ha h.2
theorem vaV_bad {m : Mac} {a F : Int} (h : ¬ F = 0) : vaV m a F = 0 := if_neg fun h' => h h'.1

set_option maxRecDepth 100000 in
set_option maxHeartbeats 800000 in
theorem specValueAt_any (m : Mac) (A A' : Option Addr) (c c' : Nat) (ad : Int) (w : World) (h1 : m.cs.length ≤ maxLen) (h2 : m.mem.length ≤ maxLen) (h : RdMac w w.heap.size A A' m) :
    Calls Try.prog 24 #[macV A m.cs.length c A' m.mem.length c', .int .i64 ad] w fun e w' => e = .returned (.agg #[.int .i64 (vaC ad (macF m)), .int .i64 (vaV m ad (macF m))]) ∧ Below w.heap.size w w' := by
  obtain ⟨W, hW⟩ : ∃ W, W = (w.alloc (Obj.cells #[.slice A m.cs.length c, .slice A' m.mem.length c'] 27)).alloc (Obj.cells #[.int .i64 0, .int .i64 0] 38) := ⟨_, rfl⟩
  obtain ⟨k1, k2, hz, B0⟩ := two_new _ _ _ _ _ W hW
  have HW := hide hW
  have hRW := (h.below B0).lt
  have HM := specMacF_any m A A' c c' W h1 h2 hRW
  clear hW hRW
  by_cases hF : macF m = 0
  · obtain ⟨hG, hm32⟩ := macF_zero hF
    rw [hF] at HM ⊢
    have HC := hide HM
    clear HM hF
    have hsh := hG.shp
    have hn := hG.nL
    generalize hLL : (m.cs.getD 0 []).length = L at hsh hn
    clear hG hLL
    by_cases ha : 0 ≤ ad ∧ ad ≤ 999999
    · rw [vaC_ok ha, vaV_ok ha]
      go_enter Try.func24, Try.ntmps24
      generalize hQ : w.heap.size = Q at *
      go_wp2_with fail
      rw [← HW.out]
      refine HC.out.mono ?_
      rintro e w1 ⟨rfl, hb1⟩
      have hbx := B0.trans (hb1.mono (by omega))
      have j1 := k1.kept hb1
      have j2 := k2.kept hb1
      clear hb1 HC
      go_wp2_with fail
      refine (l1In_yes _ _ _ _ ha).mono ?_
      rintro e w2 ⟨rfl, rfl⟩
      have x0 := j1.cell 0
      simp at x0
      go_wp2
      clear x0
      go_loopw [22] (fun i wr => ∃ k : Nat, k ≤ m.cs.length ∧ i = .int .i64 k ∧ Below Q w wr ∧ Bk wr Q #[.slice A m.cs.length c, .slice A' m.mem.length c'] 27 ∧ Bk wr (Q + 1) #[.int .i64 0, .int .i64 0] 38 ∧ Hid (modL ad m.cs.flatten = modL ad (m.cs.drop k).flatten)) (fun i _ => m.cs.length - (intOf i).toNat)
      case atStart => exact ⟨0, Nat.zero_le _, rfl, hbx, j1, j2, hide rfl⟩
      case round =>
        clear hbx j1 j2
        obtain ⟨i, hik, rfl, hb, kb, kr, HR⟩ := hrel
        by_cases hi : i < m.cs.length
        · have x0 := kb.cell 0
          simp at x0
          obtain ⟨b, off, a, d, rfl, _, hc0, hle, hcm, _⟩ := (h.cs.below hb).get hi
          have hLi := hsh.2 _ (List.getElem_mem hi)
          rw [hLi] at hc0 hle
          go_wp2
          clear x0 hc0 hle hcm
          go_loopw [31] (fun q w2 => ∃ k : Nat, k ≤ L ∧ q = .int .i64 k ∧ Below Q w w2 ∧ Bk w2 Q #[.slice (some ⟨b, off, none⟩) m.cs.length c, .slice A' m.mem.length c'] 27 ∧ Bk w2 (Q + 1) #[.int .i64 0, .int .i64 0] 38 ∧ Hid (modL ad m.cs.flatten = modL ad (m.cs[i].drop k ++ (m.cs.drop (i + 1)).flatten))) (fun q _ => L - (intOf q).toNat)
          case atStart => exact ⟨0, Nat.zero_le _, rfl, hb, kb, kr, hide (HR.out.trans (by rw [flat_drop _ _ hi]))⟩
          case round =>
            clear hb kb kr
            obtain ⟨k, hkL, rfl, hb2, kb2, kr2, HK⟩ := hrel
            by_cases hk : k < L
            · have x0 := kb2.cell 0
              simp at x0
              obtain ⟨b', off', a', d', hA, _, hc0, hle, hcm, hr⟩ := (h.cs.below hb2).get hi
              cases hA
              rw [hLi] at hc0 hle
              obtain ⟨b3, off3, rfl, hb3, e0, e1, e2⟩ := hr.get (i := k) (by omega)
              have hd2 := modL_row ad m.cs i hi k (by omega)
              obtain ⟨X, hX⟩ : ∃ X, X = m.cs[i][k]'(by omega) := ⟨_, rfl⟩
              rw [← hX] at e0 e1 e2 hd2
              clear hX
              have KB := hide (kb2.alloc (Obj.cells #[.int .i64 X.k, .int .i64 X.a, .int .i64 X.v] 115))
              have KR := hide (kr2.alloc (Obj.cells #[.int .i64 X.k, .int .i64 X.a, .int .i64 X.v] 115))
              have HB := hide (hb2.alloc (by have := hb2.size; omega) (Obj.cells #[.int .i64 X.k, .int .i64 X.a, .int .i64 X.v] 115))
              by_cases hx : X.k = 2
              · have g0 : (X.k == 2) = true := beq_iff_eq.2 hx
                by_cases hxa : X.a = ad
                · have g1 : (X.a == ad) = true := beq_iff_eq.2 hxa
                  rw [if_pos ⟨hx, hxa⟩] at hd2
                  have HT := hide (show valM m ad = X.v by unfold valM; rw [HK.out, hd2]; rfl)
                  have q0 := KR.out.cell 0
                  have q1 := KR.out.cell 1
                  have f0 := KR.out.frozen 0
                  have f1 := KR.out.frozen 1
                  simp at q0 q1
                  clear hd2 hx hxa kb2 kr2
                  go_wp2
                  refine bodyPost_ret (v := .agg #[.int .i64 0, .int .i64 X.v]) (by simp [results, Try.results24, go_sem, q0, q1]) rfl ?_
                  exact ⟨by rw [HT.out], (HB.out.setCell (by simp) _).setCell (by simp) _⟩
                · have g1 : (X.a == ad) = false := beq_eq_false_iff_ne.2 hxa
                  rw [if_neg (fun hh => hxa hh.2)] at hd2
                  have HD := hide hd2
                  clear hd2 hx hxa kb2 kr2
                  go_wp2
                  go_roundw
                  case rel => exact ⟨k + 1, by omega, by go_num, HB.out, KB.out, KR.out, hide (HK.out.trans HD.out)⟩
                  case measure => simp [intOf]; omega
              · have g0 : (X.k == 2) = false := beq_eq_false_iff_ne.2 hx
                rw [if_neg (fun hh => hx hh.1)] at hd2
                have HD := hide hd2
                clear hd2 hx kb2 kr2
                go_wp2
                go_roundw
                case rel => exact ⟨k + 1, by omega, by go_num, HB.out, KB.out, KR.out, hide (HK.out.trans HD.out)⟩
                case measure => simp [intOf]; omega
            · have HD := hide (show modL ad m.cs.flatten = modL ad (m.cs.drop (i + 1)).flatten by rw [HK.out, List.drop_eq_nil_of_le (by omega), List.nil_append])
              go_wp2
              go_roundw
              case rel => exact ⟨i + 1, by omega, by go_num, hb2, kb2, kr2, HD⟩
              case measure => simp [intOf]; omega
        · have HT := hide (show valM m ad = readM m.mem ad by unfold valM; rw [HR.out, List.drop_eq_nil_of_le (by omega)]; rfl)
          have x1 := kb.cell 1
          simp at x1
          have HRM := (h.mem.below hb).lt
          have q0 := kr.cell 0
          have q1 := kr.cell 1
          have f0 := kr.frozen 0
          have f1 := kr.frozen 1
          simp at q0 q1
          go_wp2_with fail
          refine (l7Read_any m.mem A' c' ad _ (by unfold maxLen; omega) HRM).mono ?_
          rintro e w3 ⟨rfl, rfl⟩
          go_wp2
          refine bodyPost_ret (v := .agg #[.int .i64 0, .int .i64 (readM m.mem ad)]) (by simp [results, Try.results24, go_sem, q0, q1]) rfl ?_
          exact ⟨by rw [HT.out], (hb.setCell (by simp) _).setCell (by simp) _⟩
    · rw [vaC_no ha, vaV_no ha]
      have ha' : ad < 0 ∨ 999999 < ad := by omega
      clear ha
      go_enter Try.func24, Try.ntmps24
      generalize hQ : w.heap.size = Q at *
      go_wp2_with fail
      rw [← HW.out]
      refine HC.out.mono ?_
      rintro e w1 ⟨rfl, hb1⟩
      have hbx := B0.trans (hb1.mono (by omega))
      have j2 := k2.kept hb1
      have q0 := j2.cell 0
      have q1 := j2.cell 1
      have f0 := j2.frozen 0
      have f1 := j2.frozen 1
      simp at q0 q1
      clear hb1 HC
      go_wp2_with fail
      refine (l1In_no _ _ _ _ ha').mono ?_
      rintro e w2 ⟨rfl, rfl⟩
      go_wp2
      refine bodyPost_ret (v := .agg #[.int .i64 3, .int .i64 0]) (by simp [results, Try.results24, go_sem, q0, q1]) rfl ?_
      exact ⟨rfl, (hbx.setCell (by simp) _).setCell (by simp) _⟩
  · rw [vaC_bad hF, vaV_bad hF]
    generalize macF m = F at *
    have g0 : (F != 0) = true := bne_iff_ne.2 hF
    have g1 : (F == 0) = false := beq_eq_false_iff_ne.2 hF
    have HC := hide HM
    clear HM hF
    go_enter Try.func24, Try.ntmps24
    generalize hQ : w.heap.size = Q at *
    go_wp2_with fail
    rw [← HW.out]
    refine HC.out.mono ?_
    rintro e w1 ⟨rfl, hb1⟩
    have hbx := B0.trans (hb1.mono (by omega))
    have j2 := k2.kept hb1
    have q0 := j2.cell 0
    have q1 := j2.cell 1
    have f0 := j2.frozen 0
    have f1 := j2.frozen 1
    simp at q0 q1
    clear hb1 HC
    go_wp2
    refine bodyPost_ret (v := .agg #[.int .i64 F, .int .i64 0]) (by simp [results, Try.results24, go_sem, q0, q1]) rfl ?_
    exact ⟨rfl, (hbx.setCell (by simp) _).setCell (by simp) _⟩
end Go.Proofs.Ytifijhfeeammkaa
