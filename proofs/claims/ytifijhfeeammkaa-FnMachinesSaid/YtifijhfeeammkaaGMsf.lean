/- Contracts of chapter 7's faults of ops, cells and lines, in the model. Contracts of chapter 7's faults of programs and lines, in the model. Contracts of chapter 7's sizes and keeping together, in the model. Contracts of chapter 7's keeping together, in the model. The contract of MachineFault, in the model. The contract of ValueAt, in the model. -/
import Derived.Test.YtifijhfeeammkaaGMcs
import Derived.Test.YtifijhfeeammkaaGMsi
import Derived.Test.YtifijhfeeammkaaGEv
import Derived.Deep.QuietTactic
import Derived.BigQuiet
namespace Go.Proofs.Ytifijhfeeammkaa
open Go.RowKit

theorem opF_bad {o : Ev} (h : ¬ evF o = 0) : opF o = evF o := if_neg h
theorem opF_form {o : Ev} (h : evF o = 0) (h2 : o.k = 0) (h3 : ¬ o.v = 0) : opF o = 1 := by unfold opF; rw [if_pos h, if_pos ⟨h2, h3⟩]
theorem opF_ok {o : Ev} (h : evF o = 0) (h2 : o.k = 1 ∨ o.v = 0) : opF o = 0 := by unfold opF; rw [if_pos h, if_neg (by omega)]

theorem specOpF_any (k a v : Int) (w : World) :
    Calls Try.prog 28 #[evV k a v] w fun e w' => e = .returned (.int .i64 (opF ⟨k, a, v⟩)) ∧ Below w.heap.size w w' := by
  have kb := Bk.new w #[.int .i64 k, .int .i64 a, .int .i64 v] 29
  have IM := hide (fun W => specEvF_any k a v W)
  by_cases h0 : evF ⟨k, a, v⟩ = 0
  · rw [h0] at IM
    have hk := (evF_zero h0).1
    simp only at hk
    by_cases h1 : k = 1
    · rw [opF_ok h0 (.inl h1)]
      subst h1
      clear hk h0
      go_enter Try.func28, Try.ntmps28
      go_wp2_with fail
      refine (IM.out _).mono ?_
      rintro e w1 ⟨rfl, hb⟩
      have q0 := (kb.kept hb).cell 0
      simp at q0
      clear kb
      go_wp2
      go_ret
      exact ⟨rfl, below_alloc hb⟩
    · obtain rfl : k = 0 := by omega
      by_cases hv : v = 0
      · rw [opF_ok h0 (.inr hv)]
        subst hv
        clear hk h0 h1
        go_enter Try.func28, Try.ntmps28
        go_wp2_with fail
        refine (IM.out _).mono ?_
        rintro e w1 ⟨rfl, hb⟩
        have q0 := (kb.kept hb).cell 0
        have q2 := (kb.kept hb).cell 2
        simp at q0 q2
        clear kb
        go_wp2
        go_ret
        exact ⟨rfl, below_alloc hb⟩
      · rw [opF_form h0 rfl hv]
        have f0 : (v == 0) = false := beq_eq_false_iff_ne.2 hv
        clear hk h0 h1
        go_enter Try.func28, Try.ntmps28
        go_wp2_with fail
        refine (IM.out _).mono ?_
        rintro e w1 ⟨rfl, hb⟩
        have q0 := (kb.kept hb).cell 0
        have q2 := (kb.kept hb).cell 2
        simp at q0 q2
        clear kb
        go_wp2
        go_ret
        exact ⟨rfl, below_alloc hb⟩
  · rw [opF_bad h0]
    obtain ⟨F, hF⟩ : ∃ F, F = evF ⟨k, a, v⟩ := ⟨_, rfl⟩
    rw [← hF] at h0 IM ⊢
    have f0 : (F != 0) = true := bne_iff_ne.2 h0
    have f1 : (F == 0) = false := beq_eq_false_iff_ne.2 h0
    clear h0 hF kb
    go_enter Try.func28, Try.ntmps28
    go_wp2_with fail
    refine (IM.out _).mono ?_
    rintro e w1 ⟨rfl, hb⟩
    go_wp2
    go_ret
    exact ⟨rfl, below_alloc hb⟩

theorem read_drop (l : List Cel) (i : Nat) (h : i < l.length) (a : Int) : readM (l.drop i) a = if l[i].a = a then l[i].v else readM (l.drop (i + 1)) a := by
  rw [List.drop_eq_getElem_cons h, readM]
theorem l7Read_any (l : List Cel) (A : Option Addr) (c : Nat) (a : Int) (w : World) (hm : l.length ≤ maxLen) (h : RdC w w.heap.size A l) :
    Calls Try.prog 78 #[.slice A l.length c, .int .i64 a] w fun e w' => e = .returned (.int .i64 (readM l a)) ∧ w = w' := by
  unfold maxLen at hm
  go_enter Try.func78, Try.ntmps78
  go_wp2
  go_loop [8] (fun i => ∃ k : Nat, k ≤ l.length ∧ i = .int .i64 k ∧ Hid (readM l a = readM (l.drop k) a)) (fun i => l.length - (intOf i).toNat)
  case atStart => exact ⟨0, Nat.zero_le _, rfl, hide rfl⟩
  case round =>
    obtain ⟨k, hk, rfl, HR⟩ := hrel
    by_cases hlt : k < l.length
    · obtain ⟨b, off, rfl, hbb, hc0, hc1⟩ := h.get hlt
      have hd := read_drop l k hlt a
      by_cases he : l[k].a = a
      · rw [if_pos he] at hd
        have HD := hide hd
        have f0 : (l[k].a == a) = true := beq_iff_eq.2 he
        clear hd he
        go_wp2
        go_ret
        exact ⟨ret_int (by rw [HR.out, HD.out]), rfl⟩
      · rw [if_neg he] at hd
        have HD := hide hd
        have f0 : (l[k].a == a) = false := beq_eq_false_iff_ne.2 he
        clear hd he
        go_wp2
        go_round
        case rel => exact ⟨k + 1, by omega, by go_num, hide (HR.out.trans HD.out)⟩
        case measure => simp [intOf]; omega
    · have hd : readM (l.drop k) a = 0 := by rw [List.drop_eq_nil_of_le (by omega)]; rfl
      have HD := hide hd
      clear hd
      go_wp2
      go_ret
      exact ⟨ret_int (by rw [HR.out, HD.out]), rfl⟩

theorem cellsF_range {l : List Cel} (h : allC l = false) : cellsF l = 3 := by unfold cellsF; rw [if_neg (by simp [h])]
theorem cellsF_form {l : List Cel} (h : allC l = true) (h2 : rise l = false) : cellsF l = 1 := by unfold cellsF; rw [if_pos h, if_neg (by simp [h2])]
theorem cellsF_ok {l : List Cel} (h : allC l = true) (h2 : rise l = true) : cellsF l = 0 := by unfold cellsF; rw [if_pos h, if_pos h2]
theorem allC_drop (l : List Cel) (i : Nat) (h : i < l.length) : allC (l.drop i) = (decide (celOk l[i]) && allC (l.drop (i + 1))) := by rw [List.drop_eq_getElem_cons h, allC]
theorem rise_drop (l : List Cel) (i : Nat) (h : i + 1 < l.length) : rise (l.drop i) = (decide (l[i].a < l[i + 1].a) && rise (l.drop (i + 1))) := by
  rw [List.drop_eq_getElem_cons (show i < l.length by omega), List.drop_eq_getElem_cons h]
  rfl
theorem rise_end (l : List Cel) (i : Nat) (h : ¬ i + 1 < l.length) : rise (l.drop i) = true := by
  by_cases h2 : i < l.length
  · rw [List.drop_eq_getElem_cons h2, List.drop_eq_nil_of_le (show l.length ≤ i + 1 by omega)]
    rfl
  · rw [List.drop_eq_nil_of_le (by omega)]
    rfl
set_option maxRecDepth 100000 in
set_option maxHeartbeats 400000 in
theorem l7Cells_any (l : List Cel) (A : Option Addr) (c : Nat) (w : World) (hm : l.length ≤ maxLen) (h : RdC w w.heap.size A l) :
    Calls Try.prog 87 #[.slice A l.length c] w fun e w' => e = .returned (.int .i64 (cellsF l)) ∧ Below w.heap.size w w' := by
  unfold maxLen at hm
  go_enter Try.func87, Try.ntmps87
  go_wp2
  go_loop [7] (fun i => ∃ k : Nat, k ≤ l.length ∧ i = .int .i64 k ∧ Hid (allC l = allC (l.drop k))) (fun i => l.length - (intOf i).toNat)
  case atStart => exact ⟨0, Nat.zero_le _, rfl, hide rfl⟩
  case round =>
    obtain ⟨k, hk, rfl, HR⟩ := hrel
    by_cases hlt : k < l.length
    · obtain ⟨b, off, rfl, hbb, hc0, hc1⟩ := h.get hlt
      have hd := allC_drop l k hlt
      by_cases h1 : 0 ≤ l[k].a ∧ l[k].a ≤ 999999
      · by_cases h2 : 1 ≤ l[k].v ∧ l[k].v ≤ 999999
        · rw [decide_eq_true (show celOk l[k] from ⟨h1.1, h1.2, h2.1, h2.2⟩), Bool.true_and] at hd
          have HD := hide hd
          clear hd
          go_wp2_with fail
          refine (l1In_yes _ _ _ _ h1).mono ?_
          rintro e w1 ⟨rfl, rfl⟩
          go_wp2_with fail
          refine (l1In_yes _ _ _ _ h2).mono ?_
          rintro e w1 ⟨rfl, rfl⟩
          go_wp2
          go_round
          case rel => exact ⟨k + 1, by omega, by go_num, hide (HR.out.trans HD.out)⟩
          case measure => simp [intOf]; omega
        · rw [decide_eq_false (show ¬ celOk l[k] from fun hc => h2 ⟨hc.2.2.1, hc.2.2.2⟩), Bool.false_and] at hd
          have h2' : l[k].v < 1 ∨ 999999 < l[k].v := by omega
          have HD := hide hd
          clear hd h2
          go_wp2_with fail
          refine (l1In_yes _ _ _ _ h1).mono ?_
          rintro e w1 ⟨rfl, rfl⟩
          go_wp2_with fail
          refine (l1In_no _ _ _ _ h2').mono ?_
          rintro e w1 ⟨rfl, rfl⟩
          go_wp2
          go_ret
          exact ⟨ret_int (by rw [cellsF_range (HR.out.trans HD.out)]), Below.refl _ _⟩
      · rw [decide_eq_false (show ¬ celOk l[k] from fun hc => h1 ⟨hc.1, hc.2.1⟩), Bool.false_and] at hd
        have h1' : l[k].a < 0 ∨ 999999 < l[k].a := by omega
        have HD := hide hd
        clear hd h1
        go_wp2_with fail
        refine (l1In_no _ _ _ _ h1').mono ?_
        rintro e w1 ⟨rfl, rfl⟩
        go_wp2
        go_ret
        exact ⟨ret_int (by rw [cellsF_range (HR.out.trans HD.out)]), Below.refl _ _⟩
    · have ha : allC l = true := by rw [HR.out, List.drop_eq_nil_of_le (by omega)]; rfl
      have HA := hide ha
      clear ha HR
      go_wp2

      go_loopw [4] (fun i wr => ∃ k : Nat, k ≤ l.length ∧ i = .int .i64 (k + 1 : Nat) ∧ Below w.heap.size w wr ∧ Hid (rise l = rise (l.drop k))) (fun i _ => l.length + 1 - (intOf i).toNat)
      case atStart => exact ⟨0, Nat.zero_le _, rfl, Below.refl _ _, hide rfl⟩
      case round =>
        obtain ⟨k, hk, rfl, hb, HR⟩ := hrel
        by_cases hlt : k + 1 < l.length
        · obtain ⟨b, off, rfl, hbb, hc0, hc1⟩ := (h.below hb).get hlt
          obtain ⟨b', off', hA, hbb', hd0, hd1⟩ := (h.below hb).get (i := k) (by omega)
          cases hA
          have hd := rise_drop l k hlt
          by_cases he : l[k].a < l[k + 1].a
          · rw [decide_eq_true he, Bool.true_and] at hd
            have HD := hide hd
            clear hd
            go_wp2
            go_quiet (fail)
            go_wp2
            go_roundw
            case rel => exact ⟨k + 1, by omega, by go_num, below_drewN hb _, hide (HR.out.trans HD.out)⟩
            case measure => simp [intOf]; omega
          · rw [decide_eq_false he, Bool.false_and] at hd
            have HD := hide hd
            have he' : l[k + 1].a ≤ l[k].a := by omega
            clear hd he
            go_wp2
            go_quiet (fail)
            go_wp2
            go_ret
            exact ⟨ret_int (by rw [cellsF_form HA.out (HR.out.trans HD.out)]), below_drewN hb _⟩
        · have HD := hide (rise_end l k hlt)
          go_wp2
          go_ret
          exact ⟨ret_int (by rw [cellsF_ok HA.out (HR.out.trans HD.out)]), hb⟩
end Go.Proofs.Ytifijhfeeammkaa
namespace Go.Proofs.Ytifijhfeeammkaa
open Go.RowKit

theorem opsF_drop (l : List Ev) (i : Nat) (h : i < l.length) : opsF (l.drop i) = if opF l[i] = 0 then opsF (l.drop (i + 1)) else opF l[i] := by rw [List.drop_eq_getElem_cons h, opsF]
theorem prsF_drop (t : List (List Ev)) (i : Nat) (h : i < t.length) : prsF (t.drop i) = if prF t[i] = 0 then prsF (t.drop (i + 1)) else prF t[i] := by rw [List.drop_eq_getElem_cons h, prsF]
set_option maxRecDepth 100000 in
set_option maxHeartbeats 800000 in
theorem specPgF_any (t : List (List Ev)) (A : Option Addr) (c : Nat) (w : World) (hm : t.length ≤ maxLen) (h : RdT w w.heap.size A t) :
    Calls Try.prog 37 #[.slice A t.length c] w fun e w' => e = .returned (.int .i64 (pgF t)) ∧ Below w.heap.size w w' := by
  unfold maxLen at hm
  by_cases h4 : 1 ≤ t.length ∧ t.length ≤ 4
  · have HF := hide (show pgF t = prsF t from if_pos h4)
    obtain ⟨h41, h42⟩ := h4
    go_enter Try.func37, Try.ntmps37
    go_wp2
    go_loopw [16] (fun i wr => ∃ k : Nat, k ≤ t.length ∧ i = .int .i64 k ∧ Below w.heap.size w wr ∧ Hid (prsF t = prsF (t.drop k))) (fun i _ => t.length - (intOf i).toNat)
    case atStart => exact ⟨0, Nat.zero_le _, rfl, Below.refl _ _, hide rfl⟩
    case round =>
      obtain ⟨k, hk, rfl, hb, HR⟩ := hrel
      by_cases hlt : k < t.length
      · obtain ⟨b, off, a, d, rfl, hbb, hc0, hle, hcm, hr⟩ := (h.below hb).get hlt
        have hd := prsF_drop t k hlt
        by_cases h8 : t[k].length ≤ 8
        · have HP := hide (show prF t[k] = opsF t[k] from if_pos h8)
          have HD := hide hd
          clear hd
          go_wp2
          clear hc0 hr
          go_loopw [30] (fun i w2 => ∃ j : Nat, j ≤ t[k].length ∧ i = .int .i64 j ∧ Below w.heap.size w w2 ∧ Hid (opsF t[k] = opsF (t[k].drop j))) (fun i _ => t[k].length - (intOf i).toNat)
          case atStart => exact ⟨0, Nat.zero_le _, rfl, hb, hide rfl⟩
          case round =>
            obtain ⟨j, hj, rfl, hb2, HS⟩ := hrel
            by_cases hl2 : j < t[k].length
            · obtain ⟨b', off', a', d', hA, _, hc1, hle', hcm', hr1⟩ := (h.below hb2).get hlt
              cases hA
              obtain ⟨b3, off3, rfl, _, e0, e1, e2⟩ := hr1.get hl2
              have hd2 := opsF_drop t[k] j hl2
              have IM := hide (fun W => specOpF_any t[k][j].k t[k][j].a t[k][j].v W)
              by_cases h0 : opF t[k][j] = 0
              · rw [if_pos h0] at hd2
                rw [show opF ⟨t[k][j].k, t[k][j].a, t[k][j].v⟩ = 0 from h0] at IM
                have HD2 := hide hd2
                clear hd2 h0
                go_wp2_with fail
                refine (IM.out _).mono ?_
                rintro e w3 ⟨rfl, hb3⟩
                have hb4 := hb2.trans (hb3.mono hb2.size)
                go_wp2
                go_roundw
                case rel => exact ⟨j + 1, by omega, by go_num, hb4, hide (HS.out.trans HD2.out)⟩
                case measure => simp [intOf]; omega
              · rw [if_neg h0] at hd2
                have hp : prF t[k] = opF t[k][j] := by rw [HP.out, HS.out, hd2]
                obtain ⟨F, hF⟩ : ∃ F, F = opF t[k][j] := ⟨_, rfl⟩
                have hD3 := HD.out
                rw [hp, if_neg h0] at hD3
                rw [← hF] at h0 hD3
                rw [show opF ⟨t[k][j].k, t[k][j].a, t[k][j].v⟩ = F from hF.symm] at IM
                have f0 : (F != 0) = true := bne_iff_ne.2 h0
                have f1 : (F == 0) = false := beq_eq_false_iff_ne.2 h0
                have HD3 := hide hD3
                clear hd2 h0 hF hp hD3
                go_wp2_with fail
                refine (IM.out _).mono ?_
                rintro e w3 ⟨rfl, hb3⟩
                have hb4 := hb2.trans (hb3.mono hb2.size)
                go_wp2
                go_ret
                exact ⟨ret_int (by rw [HF.out, HR.out, HD3.out]), hb4⟩
            · have hp : prF t[k] = 0 := by rw [HP.out, HS.out, List.drop_eq_nil_of_le (by omega)]; rfl
              have hD3 := HD.out
              rw [if_pos hp] at hD3
              have HD3 := hide hD3
              clear hp hD3
              go_wp2
              go_roundw
              case rel => exact ⟨k + 1, by omega, by go_num, hb2, hide (HR.out.trans HD3.out)⟩
              case measure => simp [intOf]; omega
        · have hp : prF t[k] = 2 := if_neg h8
          rw [hp, if_neg (by omega)] at hd
          have HD := hide hd
          clear hd hp
          go_wp2
          go_ret
          exact ⟨ret_int (by rw [HF.out, HR.out, HD.out]), hb⟩
      · have hd : prsF (t.drop k) = 0 := by rw [List.drop_eq_nil_of_le (by omega)]; rfl
        have HD := hide hd
        clear hd
        go_wp2
        go_ret
        exact ⟨ret_int (by rw [HF.out, HR.out, HD.out]), hb⟩
  · rw [show pgF t = 2 from if_neg h4]
    by_cases h1 : t.length < 1
    · go_enter Try.func37, Try.ntmps37
      go_wp2
      go_ret
      exact ⟨rfl, Below.refl _ _⟩
    · have h2 : 4 < t.length := by omega
      clear h4
      go_enter Try.func37, Try.ntmps37
      go_wp2
      go_ret
      exact ⟨rfl, Below.refl _ _⟩

section
variable {s a v : Int} {L k : Nat}
theorem lineF_k (h : ¬ (0 ≤ s ∧ s ≤ 2)) : lineF L k ⟨s, a, v⟩ = 1 := by unfold lineF; rw [if_neg (fun hh => h hh.1)]
theorem lineF_z (h : s = 0) (h2 : ¬ (a = 0 ∧ v = 0)) : lineF L k ⟨s, a, v⟩ = 1 := by unfold lineF; rw [if_neg (fun hh => h2 (hh.2 h))]
theorem lineF_r (h : 0 ≤ s ∧ s ≤ 2) (hz : s ≠ 0) (h2 : ¬ (0 ≤ a ∧ a ≤ 999999 ∧ 0 ≤ v ∧ v ≤ 999999)) : lineF L k ⟨s, a, v⟩ = 3 := by unfold lineF; rw [if_pos ⟨h, fun e => absurd e hz⟩, if_neg h2]
theorem lineF_p (h : 0 ≤ s ∧ s ≤ 2) (hz : s ≠ 0) (h2 : 0 ≤ a ∧ a ≤ 999999 ∧ 0 ≤ v ∧ v ≤ 999999) (h3 : a % (L : Int) ≠ (k : Int)) : lineF L k ⟨s, a, v⟩ = 1 := by unfold lineF; rw [if_pos ⟨h, fun e => absurd e hz⟩, if_pos h2, if_pos ⟨hz, h3⟩]
theorem lineF_o (h : 0 ≤ s ∧ s ≤ 2) (hz : s ≠ 0) (h2 : 0 ≤ a ∧ a ≤ 999999 ∧ 0 ≤ v ∧ v ≤ 999999) (h3 : a % (L : Int) = (k : Int)) : lineF L k ⟨s, a, v⟩ = 0 := by unfold lineF; rw [if_pos ⟨h, fun e => absurd e hz⟩, if_pos h2, if_neg (fun hh => hh.2 h3)]
end
set_option maxRecDepth 100000 in
theorem l7Line_any (s a v : Int) (b o k L : Nat) (w : World) (hL : 1 ≤ L ∧ L ≤ 1000) (c0 : w.cell? ⟨b, o, none⟩ = some (.int .i64 s)) (c1 : w.cell? ⟨b, o + 1, none⟩ = some (.int .i64 a)) (c2 : w.cell? ⟨b, o + 2, none⟩ = some (.int .i64 v)) :
    Calls Try.prog 88 #[.pointer (some ⟨b, o, none⟩), .int .i64 k, .int .i64 L] w fun e w' => e = .returned (.int .i64 (lineF L k ⟨s, a, v⟩)) ∧ w = w' := by
  obtain ⟨hL1, hL2⟩ := hL
  by_cases hs : 0 ≤ s ∧ s ≤ 2
  · by_cases hz : s = 0
    · by_cases h0 : a = 0 ∧ v = 0
      · rw [show lineF L k ⟨s, a, v⟩ = 0 by rw [hz, h0.1, h0.2]; exact lineF_Z L k]
        obtain ⟨rfl, rfl⟩ := h0
        subst hz
        go_enter Try.func88, Try.ntmps88
        go_wp2_with fail
        refine (l1In_yes _ _ _ _ (by omega)).mono ?_
        rintro e w1 ⟨rfl, rfl⟩
        go_wp2_with fail
        refine (l1In_yes _ _ _ _ (by omega)).mono ?_
        rintro e w1 ⟨rfl, rfl⟩
        go_wp2_with fail
        refine (l1In_yes _ _ _ _ (by omega)).mono ?_
        rintro e w1 ⟨rfl, rfl⟩
        go_wp2
        go_ret
        exact ⟨rfl, rfl⟩
      · rw [lineF_z hz h0]
        subst hz
        by_cases ha : a = 0
        · have hv : ¬ v = 0 := fun e => h0 ⟨ha, e⟩
          have f0 : (v == 0) = false := beq_eq_false_iff_ne.2 hv
          subst ha
          clear h0 hv
          go_enter Try.func88, Try.ntmps88
          go_wp2_with fail
          refine (l1In_yes _ _ _ _ (by omega)).mono ?_
          rintro e w1 ⟨rfl, rfl⟩
          go_wp2
          go_ret
          exact ⟨rfl, rfl⟩
        · have f0 : (a == 0) = false := beq_eq_false_iff_ne.2 ha
          clear h0 ha
          go_enter Try.func88, Try.ntmps88
          go_wp2_with fail
          refine (l1In_yes _ _ _ _ (by omega)).mono ?_
          rintro e w1 ⟨rfl, rfl⟩
          go_wp2
          go_ret
          exact ⟨rfl, rfl⟩
    · have f0 : (s == 0) = false := beq_eq_false_iff_ne.2 hz
      have f1 : (s != 0) = true := bne_iff_ne.2 hz
      by_cases ha : 0 ≤ a ∧ a ≤ 999999
      · by_cases hv : 0 ≤ v ∧ v ≤ 999999
        · have ht : a.tmod (L : Int) = a % (L : Int) := Int.tmod_eq_emod_of_nonneg ha.1
          have hr0 := Int.emod_nonneg a (show (L : Int) ≠ 0 by omega)
          have hr1 := Int.emod_lt_of_pos a (show (0 : Int) < (L : Int) by omega)
          by_cases hp : a % (L : Int) = (k : Int)
          · rw [lineF_o hs hz ⟨ha.1, ha.2, hv.1, hv.2⟩ hp]
            rw [hp] at ht hr0 hr1
            clear hp hz
            go_enter Try.func88, Try.ntmps88
            go_wp2_with fail
            refine (l1In_yes _ _ _ _ hs).mono ?_
            rintro e w1 ⟨rfl, rfl⟩
            go_wp2_with fail
            refine (l1In_yes _ _ _ _ ha).mono ?_
            rintro e w1 ⟨rfl, rfl⟩
            go_wp2_with fail
            refine (l1In_yes _ _ _ _ hv).mono ?_
            rintro e w1 ⟨rfl, rfl⟩
            go_wp2
            go_ret
            exact ⟨rfl, rfl⟩
          · rw [lineF_p hs hz ⟨ha.1, ha.2, hv.1, hv.2⟩ hp]
            obtain ⟨r, hr⟩ : ∃ r, r = a % (L : Int) := ⟨_, rfl⟩
            rw [← hr] at hp ht hr0 hr1
            have g0 : (r == (k : Int)) = false := beq_eq_false_iff_ne.2 hp
            have g1 : (r != (k : Int)) = true := bne_iff_ne.2 hp
            clear hp hz hr
            go_enter Try.func88, Try.ntmps88
            go_wp2_with fail
            refine (l1In_yes _ _ _ _ hs).mono ?_
            rintro e w1 ⟨rfl, rfl⟩
            go_wp2_with fail
            refine (l1In_yes _ _ _ _ ha).mono ?_
            rintro e w1 ⟨rfl, rfl⟩
            go_wp2_with fail
            refine (l1In_yes _ _ _ _ hv).mono ?_
            rintro e w1 ⟨rfl, rfl⟩
            go_wp2
            go_ret
            exact ⟨rfl, rfl⟩
        · rw [lineF_r hs hz (fun hh => hv ⟨hh.2.2.1, hh.2.2.2⟩)]
          have hv' : v < 0 ∨ 999999 < v := by omega
          clear hv hz
          go_enter Try.func88, Try.ntmps88
          go_wp2_with fail
          refine (l1In_yes _ _ _ _ hs).mono ?_
          rintro e w1 ⟨rfl, rfl⟩
          go_wp2_with fail
          refine (l1In_yes _ _ _ _ ha).mono ?_
          rintro e w1 ⟨rfl, rfl⟩
          go_wp2_with fail
          refine (l1In_no _ _ _ _ hv').mono ?_
          rintro e w1 ⟨rfl, rfl⟩
          go_wp2
          go_ret
          exact ⟨rfl, rfl⟩
      · rw [lineF_r hs hz (fun hh => ha ⟨hh.1, hh.2.1⟩)]
        have ha' : a < 0 ∨ 999999 < a := by omega
        clear ha hz
        go_enter Try.func88, Try.ntmps88
        go_wp2_with fail
        refine (l1In_yes _ _ _ _ hs).mono ?_
        rintro e w1 ⟨rfl, rfl⟩
        go_wp2_with fail
        refine (l1In_no _ _ _ _ ha').mono ?_
        rintro e w1 ⟨rfl, rfl⟩
        go_wp2
        go_ret
        exact ⟨rfl, rfl⟩
  · rw [lineF_k hs]
    have hs' : s < 0 ∨ 2 < s := by omega
    clear hs
    go_enter Try.func88, Try.ntmps88
    go_wp2_with fail
    refine (l1In_no _ _ _ _ hs').mono ?_
    rintro e w1 ⟨rfl, rfl⟩
    go_wp2
    go_ret
    exact ⟨rfl, rfl⟩
end Go.Proofs.Ytifijhfeeammkaa
namespace Go.Proofs.Ytifijhfeeammkaa
open Go.RowKit

/-- A machine's own block, wherever it lies. -/
structure MacAt (w : World) (g : Nat) (A : Option Addr) (c : Nat) (A' : Option Addr) (c' : Nat) (m : Mac) : Prop where
  c0 : w.cell? ⟨g, 0, none⟩ = some (.slice A m.cs.length c)
  c1 : w.cell? ⟨g, 1, none⟩ = some (.slice A' m.mem.length c')
theorem MacAt.below {w w' : World} {g B : Nat} {A A' : Option Addr} {c c' : Nat} {m : Mac} (h : MacAt w g A c A' c' m) (hb : Below B w w') (hg : g < B) : MacAt w' g A c A' c' m := ⟨(hb.cell hg).trans h.c0, (hb.cell hg).trans h.c1⟩
open Classical in
noncomputable def sizB (m : Mac) : Bool := if Siz m then true else false
theorem sizB_yes {m : Mac} (h : Siz m) : sizB m = true := if_pos h
theorem sizB_no {m : Mac} (h : ¬ Siz m) : sizB m = false := if_neg h
theorem getD0 {cs : List (List Ev)} (h : 0 < cs.length) : cs.getD 0 [] = cs[0] := by simp [h]

set_option maxRecDepth 100000 in
set_option maxHeartbeats 800000 in
theorem l7Sizes_any (m : Mac) (A A' : Option Addr) (c c' g : Nat) (w : World) (h1 : m.cs.length ≤ maxLen) (h2 : m.mem.length ≤ maxLen) (ha : MacAt w g A c A' c' m) (h : RdMac w w.heap.size A A' m) :
    Calls Try.prog 86 #[.pointer (some ⟨g, 0, none⟩)] w fun e w' => e = .returned (.bool (sizB m)) ∧ w = w' := by
  unfold maxLen at h1 h2
  obtain ⟨m0, m1⟩ := ha
  by_cases hn1 : m.cs.length < 1
  · rw [sizB_no (fun hh => by have := hh.1.1; omega)]
    go_enter Try.func86, Try.ntmps86
    go_wp2
    go_ret
    exact ⟨rfl, rfl⟩
  · by_cases hn4 : 4 < m.cs.length
    · rw [sizB_no (fun hh => by have := hh.1.2; omega)]
      go_enter Try.func86, Try.ntmps86
      go_wp2
      go_ret
      exact ⟨rfl, rfl⟩
    · by_cases hm : 32 < m.mem.length
      · rw [sizB_no (fun hh => by have := hh.2.1; omega)]
        go_enter Try.func86, Try.ntmps86
        go_wp2
        go_ret
        exact ⟨rfl, rfl⟩
      · obtain ⟨b, off, a, d, rfl, hbb, hc0, hle, hcm, hr⟩ := h.cs.get (i := 0) (by omega)
        have e0 := getD0 (cs := m.cs) (by omega)
        obtain ⟨L, hL⟩ : ∃ L, L = m.cs[0].length := ⟨_, rfl⟩
        rw [← hL] at hc0 hle
        rw [Nat.add_zero] at hc0
        have HL := hide (show (m.cs.getD 0 []).length = L by rw [e0, hL])
        clear hL e0 hr
        unfold maxLen at hcm
        go_enter Try.func86, Try.ntmps86
        go_wp2
        go_loop [39] (fun i => ∃ k : Nat, k ≤ m.cs.length ∧ i = .int .i64 k ∧ Hid (∀ j, (hj : j < m.cs.length) → j < k → m.cs[j].length = L)) (fun i => m.cs.length - (intOf i).toNat)
        case atStart => exact ⟨0, Nat.zero_le _, rfl, hide fun _ _ h => by omega⟩
        case round =>
          obtain ⟨k, hk, rfl, HR⟩ := hrel
          by_cases hlt : k < m.cs.length
          · obtain ⟨b', off', a', d', hA, _, hd0, hle', hcm', _⟩ := h.cs.get hlt
            cases hA
            unfold maxLen at hcm'
            by_cases he : m.cs[k].length = L
            · rw [he] at hd0 hle'
              have HR2 := hide (show ∀ j, (hj : j < m.cs.length) → j < k + 1 → m.cs[j].length = L from fun j hj hjk => by
                by_cases e : j = k
                · subst e; exact he
                · exact HR.out j hj (by omega))
              clear he
              go_wp2
              go_round
              case rel => exact ⟨k + 1, by omega, by go_num, HR2⟩
              case measure => simp [intOf]; omega
            · have hs : sizB m = false := sizB_no fun hh => he (by rw [hh.2.2.1 _ (List.getElem_mem hlt)]; exact HL.out)
              have HS := hide hs
              obtain ⟨R, hR⟩ : ∃ R, R = m.cs[k].length := ⟨_, rfl⟩
              rw [← hR] at hd0 he hle'
              have f0 : ((R : Int) == (L : Int)) = false := beq_eq_false_iff_ne.2 (by omega)
              have f1 : ((R : Int) != (L : Int)) = true := bne_iff_ne.2 (by omega)
              clear hs he hR
              go_wp2
              go_ret
              exact ⟨ret_bool (by rw [HS.out]), rfl⟩
          · have hall : ∀ l ∈ m.cs, l.length = L := fun l hl => by
              obtain ⟨j, hj, rfl⟩ := List.getElem_of_mem hl
              exact HR.out j hj (by omega)
            by_cases hL1 : 1 ≤ L
            · by_cases hL4 : L ≤ 4
              · have HS := hide (sizB_yes (m := m) ⟨by omega, by omega, fun l hl => by rw [HL.out]; exact hall l hl, by rw [HL.out]; exact hL1, by rw [HL.out]; exact hL4⟩)
                clear hall
                go_wp2
                go_ret
                exact ⟨ret_bool (by rw [HS.out] <;> (simp; omega)), rfl⟩
              · have HS := hide (sizB_no (m := m) fun hh => hL4 (by have := hh.2.2.2.2; rw [HL.out] at this; exact this))
                clear hall
                go_wp2
                go_ret
                exact ⟨ret_bool (by rw [HS.out] <;> (simp; omega)), rfl⟩
            · have HS := hide (sizB_no (m := m) fun hh => hL1 (by have := hh.2.2.2.1; rw [HL.out] at this; exact this))
              clear hall
              go_wp2
              go_ret
              exact ⟨ret_bool (by rw [HS.out] <;> (simp; omega)), rfl⟩
end Go.Proofs.Ytifijhfeeammkaa
namespace Go.Proofs.Ytifijhfeeammkaa
open Go.RowKit

def TogAt (n : Nat) (m : Mac) (i k : Nat) : Prop :=
  ((ln m.cs i k).k = 1 → (ln m.cs i k).v = readM m.mem (ln m.cs i k).a) ∧
  ∀ j, j < n → j ≠ i → (ln m.cs i k).k = 2 → (ln m.cs j k).k ≠ 0 → (ln m.cs j k).a ≠ (ln m.cs i k).a
open Classical in
noncomputable def togB (n L : Nat) (m : Mac) : Bool := if Tog n L m then true else false
theorem togB_yes {n L : Nat} {m : Mac} (h : Tog n L m) : togB n L m = true := if_pos h
theorem togB_no {n L : Nat} {m : Mac} (h : ¬ Tog n L m) : togB n L m = false := if_neg h

set_option maxRecDepth 100000 in
set_option maxHeartbeats 800000 in
theorem l7Together_any (m : Mac) (L : Nat) (A A' : Option Addr) (c c' g : Nat) (w : World) (hsh : Shp7 m.cs.length L m.cs) (h4 : m.cs.length ≤ 4) (hL : L ≤ 4) (h2 : m.mem.length ≤ 32) (hg : g < w.heap.size) (ha : MacAt w g A c A' c' m) (h : RdMac w w.heap.size A A' m) :
    Calls Try.prog 89 #[.pointer (some ⟨g, 0, none⟩)] w fun e w' => e = .returned (.bool (togB m.cs.length L m)) ∧ Below w.heap.size w w' := by
  have m0 := ha.c0
  go_enter Try.func89, Try.ntmps89
  go_wp2
  clear m0
  go_loopw [13] (fun i wr => ∃ k : Nat, k ≤ m.cs.length ∧ i = .int .i64 k ∧ Below w.heap.size w wr ∧ Hid (∀ i, i < k → ∀ q, q < L → TogAt m.cs.length m i q)) (fun i _ => m.cs.length - (intOf i).toNat)
  case atStart => exact ⟨0, Nat.zero_le _, rfl, Below.refl _ _, hide fun _ h => by omega⟩
  case round =>
    obtain ⟨i, hik, rfl, hb, HR⟩ := hrel
    by_cases hi : i < m.cs.length
    · have m0 := (ha.below hb hg).c0
      obtain ⟨b, off, a, d, rfl, _, hc0, hle, hcm, _⟩ := (h.cs.below hb).get hi
      have hLi := hsh.2 _ (List.getElem_mem hi)
      rw [hLi] at hc0 hle
      go_wp2
      clear m0 hc0 hle hcm
      go_loopw [24] (fun q w2 => ∃ k : Nat, k ≤ L ∧ q = .int .i64 k ∧ Below w.heap.size w w2 ∧ Hid (∀ q, q < k → TogAt m.cs.length m i q)) (fun q _ => L - (intOf q).toNat)
      case atStart => exact ⟨0, Nat.zero_le _, rfl, hb, hide fun _ h => by omega⟩
      case round =>
        obtain ⟨k, hkL, rfl, hb2, HS⟩ := hrel
        by_cases hk : k < L
        · have m0 := (ha.below hb2 hg).c0
          have m1 := (ha.below hb2 hg).c1
          obtain ⟨b', off', a', d', hA, _, hc0, hle, hcm, hr⟩ := (h.cs.below hb2).get hi
          cases hA
          rw [hLi] at hc0 hle
          obtain ⟨b3, off3, rfl, hb3, e0, e1, e2⟩ := hr.get (i := k) (by omega)
          obtain ⟨X, hX⟩ : ∃ X, X = m.cs[i][k]'(by omega) := ⟨_, rfl⟩
          have hln := ln_get m.cs i k hi (by omega)
          rw [← hX] at e0 e1 e2 hln
          have HX := hide hln
          clear hX hln
          go_wp2
          have kx := Bk.new wr #[.int .i64 X.k, .int .i64 X.a, .int .i64 X.v] 115
          have hbx := hb2.alloc hb2.size (Obj.cells #[.int .i64 X.k, .int .i64 X.a, .int .i64 X.v] 115)
          clear m0 m1 hc0 e0 e1 e2 hr hb3 hle hcm
          generalize wr.alloc (Obj.cells #[.int .i64 X.k, .int .i64 X.a, .int .i64 X.v] 115) = W at kx hbx ⊢
          generalize wr.heap.size = Q at kx ⊢
          have m0 := (ha.below hbx hg).c0
          have m1 := (ha.below hbx hg).c1
          have x0 := kx.cell 0
          have x1 := kx.cell 1
          have x2 := kx.cell 2
          simp at x0 x1 x2
          have HRM := (h.mem.below hbx).lt
          by_cases hs : X.k = 1
          · have f0 : (X.k == 1) = true := beq_iff_eq.2 hs
            have hmm : m.mem.length ≤ maxLen := by unfold maxLen; omega
            by_cases hv : X.v = readM m.mem X.a
            · have HF := hide (show X.k = 1 → X.v = readM m.mem X.a from fun _ => hv)
              have HC := hide (fun V (hV : RdC V V.heap.size A' m.mem) => l7Read_any m.mem A' c' X.a V hmm hV)
              obtain ⟨R, hR⟩ : ∃ R, R = readM m.mem X.a := ⟨_, rfl⟩
              rw [← hR] at hv HC
              have f1 : (X.v == R) = true := beq_iff_eq.2 hv
              have f2 : (X.v != R) = false := by simp [hv]
              clear hs hv hR
              go_quiet ((go_at_call 78; exact Calls.quiet_of_same (Calls.mono (HC.out (World.drewN W _) (RdC.drewN HRM _)) (fun _ _ h => ⟨h.1, h.2.symm⟩))))
              go_wp2
              go_loopw [57] (fun q w3 => ∃ j : Nat, j ≤ m.cs.length ∧ q = .int .i64 j ∧ Below w.heap.size w w3 ∧ Bk w3 Q #[.int .i64 X.k, .int .i64 X.a, .int .i64 X.v] 115 ∧ Hid (∀ j', j' < j → j' ≠ i → X.k = 2 → (ln m.cs j' k).k ≠ 0 → (ln m.cs j' k).a ≠ X.a)) (fun q _ => m.cs.length - (intOf q).toNat)
              case atStart => exact ⟨0, Nat.zero_le _, rfl, below_drewN hbx _, kx.drewN _, hide fun _ h => by omega⟩
              case round =>
                clear m0 m1 x0 x1 x2 HRM kx hbx
                obtain ⟨j, hjn, rfl, hb4, kx4, HJ⟩ := hrel
                by_cases hj : j < m.cs.length
                · have m0 := (ha.below hb4 hg).c0
                  obtain ⟨b5, off5, a5, d5, hA, _, hc0, hle5, hcm5, hr⟩ := (h.cs.below hb4).get hj
                  cases hA
                  have hLj := hsh.2 _ (List.getElem_mem hj)
                  rw [hLj] at hc0 hle5
                  obtain ⟨b6, off6, rfl, _, y0, y1, y2⟩ := hr.get (i := k) (by omega)
                  obtain ⟨Y, hY⟩ : ∃ Y, Y = m.cs[j][k]'(by omega) := ⟨_, rfl⟩
                  have hln := ln_get m.cs j k hj (by omega)
                  rw [← hY] at y0 y1 y2 hln
                  have HY := hide hln
                  have x0 := (kx4.alloc (Obj.cells #[.int .i64 Y.k, .int .i64 Y.a, .int .i64 Y.v] 115)).cell 0
                  have x1 := (kx4.alloc (Obj.cells #[.int .i64 Y.k, .int .i64 Y.a, .int .i64 Y.v] 115)).cell 1
                  simp at x0 x1
                  have KX := hide (kx4.alloc (Obj.cells #[.int .i64 Y.k, .int .i64 Y.a, .int .i64 Y.v] 115))
                  have HB := hide (hb4.alloc hb4.size (Obj.cells #[.int .i64 Y.k, .int .i64 Y.a, .int .i64 Y.v] 115))
                  have hnx : (j ≠ i → X.k = 2 → Y.k ≠ 0 → Y.a ≠ X.a) → ∀ j', j' < j + 1 → j' ≠ i → X.k = 2 → (ln m.cs j' k).k ≠ 0 → (ln m.cs j' k).a ≠ X.a := fun hh j' hj' h1 h2 h3 => by
                    by_cases e : j' = j
                    · subst e
                      rw [HY.out] at h3 ⊢
                      exact hh h1 h2 h3
                    · exact HJ.out j' (by omega) h1 h2 h3
                  have HN := hide hnx
                  clear hY hln hnx kx4
                  by_cases hji : j = i
                  · have g0 : ((j : Int) == (i : Int)) = true := beq_iff_eq.2 (by omega)
                    have g1 : ((j : Int) != (i : Int)) = false := by simp [hji]
                    have HJ2 := hide (HN.out fun e => absurd hji e)
                    clear hji
                    go_wp2
                    go_roundw
                    case rel => exact ⟨j + 1, by omega, by go_num, HB.out, KX.out, HJ2⟩
                    case measure => simp [intOf]; omega
                  · have g0 : ((j : Int) == (i : Int)) = false := beq_eq_false_iff_ne.2 (by omega)
                    have g1 : ((j : Int) != (i : Int)) = true := bne_iff_ne.2 (by omega)
                    by_cases hx2 : X.k = 2
                    · have g2 : (X.k == 2) = true := beq_iff_eq.2 hx2
                      by_cases hy0 : Y.k = 0
                      · have g3 : (Y.k == 0) = true := beq_iff_eq.2 hy0
                        have g4 : (Y.k != 0) = false := by simp [hy0]
                        have HJ2 := hide (HN.out fun _ _ e => absurd hy0 e)
                        clear hji hx2 hy0
                        go_wp2
                        go_roundw
                        case rel => exact ⟨j + 1, by omega, by go_num, HB.out, KX.out, HJ2⟩
                        case measure => simp [intOf]; omega
                      · have g3 : (Y.k == 0) = false := beq_eq_false_iff_ne.2 hy0
                        have g4 : (Y.k != 0) = true := bne_iff_ne.2 hy0
                        by_cases hya : Y.a = X.a
                        · have g5 : (Y.a == X.a) = true := beq_iff_eq.2 hya
                          have HT := hide (togB_no (n := m.cs.length) (L := L) (m := m) fun hT => (hT i hi k hk).2 j hj hji (by rw [HX.out]; exact hx2) (by rw [HY.out]; exact hy0) (by rw [HY.out, HX.out]; exact hya))
                          clear hji hx2 hy0 hya
                          go_wp2
                          go_ret
                          exact ⟨ret_bool (by rw [HT.out]), HB.out⟩
                        · have g5 : (Y.a == X.a) = false := beq_eq_false_iff_ne.2 hya
                          have HJ2 := hide (HN.out fun _ _ _ => hya)
                          clear hji hx2 hy0 hya
                          go_wp2
                          go_roundw
                          case rel => exact ⟨j + 1, by omega, by go_num, HB.out, KX.out, HJ2⟩
                          case measure => simp [intOf]; omega
                    · have g2 : (X.k == 2) = false := beq_eq_false_iff_ne.2 hx2
                      have HJ2 := hide (HN.out fun _ e => absurd e hx2)
                      clear hji hx2
                      go_wp2
                      go_roundw
                      case rel => exact ⟨j + 1, by omega, by go_num, HB.out, KX.out, HJ2⟩
                      case measure => simp [intOf]; omega
                · have hT : ∀ q, q < k + 1 → TogAt m.cs.length m i q := fun q hq => by
                    by_cases e : q = k
                    · subst e
                      exact ⟨by rw [HX.out]; exact HF.out, fun j' hj' hne h1 h2 => by rw [HX.out] at h1 ⊢; exact HJ.out j' (by omega) hne h1 h2⟩
                    · exact HS.out q (by omega)
                  have HT := hide hT
                  clear hT
                  go_wp2
                  go_roundw
                  case rel => exact ⟨k + 1, by omega, by go_num, hb4, HT⟩
                  case measure => simp [intOf]; omega
            · have HT := hide (togB_no (n := m.cs.length) (L := L) (m := m) fun hT => hv (by have := (hT i hi k hk).1; rw [HX.out] at this; exact this hs))
              have HC := hide (fun V (hV : RdC V V.heap.size A' m.mem) => l7Read_any m.mem A' c' X.a V hmm hV)
              obtain ⟨R, hR⟩ : ∃ R, R = readM m.mem X.a := ⟨_, rfl⟩
              rw [← hR] at hv HC
              have f1 : (X.v == R) = false := beq_eq_false_iff_ne.2 hv
              have f2 : (X.v != R) = true := bne_iff_ne.2 hv
              clear hs hv hR
              go_quiet ((go_at_call 78; exact Calls.quiet_of_same (Calls.mono (HC.out (World.drewN W _) (RdC.drewN HRM _)) (fun _ _ h => ⟨h.1, h.2.symm⟩))))
              go_wp2
              go_ret
              exact ⟨ret_bool (by rw [HT.out]), below_drewN hbx _⟩
          · have f0 : (X.k == 1) = false := beq_eq_false_iff_ne.2 hs
            have HF := hide (show X.k = 1 → X.v = readM m.mem X.a from fun e => absurd e hs)
            clear hs
            go_quiet (fail)
            go_wp2
            go_loopw [57] (fun q w3 => ∃ j : Nat, j ≤ m.cs.length ∧ q = .int .i64 j ∧ Below w.heap.size w w3 ∧ Bk w3 Q #[.int .i64 X.k, .int .i64 X.a, .int .i64 X.v] 115 ∧ Hid (∀ j', j' < j → j' ≠ i → X.k = 2 → (ln m.cs j' k).k ≠ 0 → (ln m.cs j' k).a ≠ X.a)) (fun q _ => m.cs.length - (intOf q).toNat)
            case atStart => exact ⟨0, Nat.zero_le _, rfl, below_drewN hbx _, kx.drewN _, hide fun _ h => by omega⟩
            case round =>
              clear m0 m1 x0 x1 x2 HRM kx hbx
              obtain ⟨j, hjn, rfl, hb4, kx4, HJ⟩ := hrel
              by_cases hj : j < m.cs.length
              · have m0 := (ha.below hb4 hg).c0
                obtain ⟨b5, off5, a5, d5, hA, _, hc0, hle5, hcm5, hr⟩ := (h.cs.below hb4).get hj
                cases hA
                have hLj := hsh.2 _ (List.getElem_mem hj)
                rw [hLj] at hc0 hle5
                obtain ⟨b6, off6, rfl, _, y0, y1, y2⟩ := hr.get (i := k) (by omega)
                obtain ⟨Y, hY⟩ : ∃ Y, Y = m.cs[j][k]'(by omega) := ⟨_, rfl⟩
                have hln := ln_get m.cs j k hj (by omega)
                rw [← hY] at y0 y1 y2 hln
                have HY := hide hln
                have x0 := (kx4.alloc (Obj.cells #[.int .i64 Y.k, .int .i64 Y.a, .int .i64 Y.v] 115)).cell 0
                have x1 := (kx4.alloc (Obj.cells #[.int .i64 Y.k, .int .i64 Y.a, .int .i64 Y.v] 115)).cell 1
                simp at x0 x1
                have KX := hide (kx4.alloc (Obj.cells #[.int .i64 Y.k, .int .i64 Y.a, .int .i64 Y.v] 115))
                have HB := hide (hb4.alloc hb4.size (Obj.cells #[.int .i64 Y.k, .int .i64 Y.a, .int .i64 Y.v] 115))
                have hnx : (j ≠ i → X.k = 2 → Y.k ≠ 0 → Y.a ≠ X.a) → ∀ j', j' < j + 1 → j' ≠ i → X.k = 2 → (ln m.cs j' k).k ≠ 0 → (ln m.cs j' k).a ≠ X.a := fun hh j' hj' h1 h2 h3 => by
                  by_cases e : j' = j
                  · subst e
                    rw [HY.out] at h3 ⊢
                    exact hh h1 h2 h3
                  · exact HJ.out j' (by omega) h1 h2 h3
                have HN := hide hnx
                clear hY hln hnx kx4
                by_cases hji : j = i
                · have g0 : ((j : Int) == (i : Int)) = true := beq_iff_eq.2 (by omega)
                  have g1 : ((j : Int) != (i : Int)) = false := by simp [hji]
                  have HJ2 := hide (HN.out fun e => absurd hji e)
                  clear hji
                  go_wp2
                  go_roundw
                  case rel => exact ⟨j + 1, by omega, by go_num, HB.out, KX.out, HJ2⟩
                  case measure => simp [intOf]; omega
                · have g0 : ((j : Int) == (i : Int)) = false := beq_eq_false_iff_ne.2 (by omega)
                  have g1 : ((j : Int) != (i : Int)) = true := bne_iff_ne.2 (by omega)
                  by_cases hx2 : X.k = 2
                  · have g2 : (X.k == 2) = true := beq_iff_eq.2 hx2
                    by_cases hy0 : Y.k = 0
                    · have g3 : (Y.k == 0) = true := beq_iff_eq.2 hy0
                      have g4 : (Y.k != 0) = false := by simp [hy0]
                      have HJ2 := hide (HN.out fun _ _ e => absurd hy0 e)
                      clear hji hx2 hy0
                      go_wp2
                      go_roundw
                      case rel => exact ⟨j + 1, by omega, by go_num, HB.out, KX.out, HJ2⟩
                      case measure => simp [intOf]; omega
                    · have g3 : (Y.k == 0) = false := beq_eq_false_iff_ne.2 hy0
                      have g4 : (Y.k != 0) = true := bne_iff_ne.2 hy0
                      by_cases hya : Y.a = X.a
                      · have g5 : (Y.a == X.a) = true := beq_iff_eq.2 hya
                        have HT := hide (togB_no (n := m.cs.length) (L := L) (m := m) fun hT => (hT i hi k hk).2 j hj hji (by rw [HX.out]; exact hx2) (by rw [HY.out]; exact hy0) (by rw [HY.out, HX.out]; exact hya))
                        clear hji hx2 hy0 hya
                        go_wp2
                        go_ret
                        exact ⟨ret_bool (by rw [HT.out]), HB.out⟩
                      · have g5 : (Y.a == X.a) = false := beq_eq_false_iff_ne.2 hya
                        have HJ2 := hide (HN.out fun _ _ _ => hya)
                        clear hji hx2 hy0 hya
                        go_wp2
                        go_roundw
                        case rel => exact ⟨j + 1, by omega, by go_num, HB.out, KX.out, HJ2⟩
                        case measure => simp [intOf]; omega
                  · have g2 : (X.k == 2) = false := beq_eq_false_iff_ne.2 hx2
                    have HJ2 := hide (HN.out fun _ e => absurd e hx2)
                    clear hji hx2
                    go_wp2
                    go_roundw
                    case rel => exact ⟨j + 1, by omega, by go_num, HB.out, KX.out, HJ2⟩
                    case measure => simp [intOf]; omega
              · have hT : ∀ q, q < k + 1 → TogAt m.cs.length m i q := fun q hq => by
                  by_cases e : q = k
                  · subst e
                    exact ⟨by rw [HX.out]; exact HF.out, fun j' hj' hne h1 h2 => by rw [HX.out] at h1 ⊢; exact HJ.out j' (by omega) hne h1 h2⟩
                  · exact HS.out q (by omega)
                have HT := hide hT
                clear hT
                go_wp2
                go_roundw
                case rel => exact ⟨k + 1, by omega, by go_num, hb4, HT⟩
                case measure => simp [intOf]; omega
        · have hT : ∀ i', i' < i + 1 → ∀ q, q < L → TogAt m.cs.length m i' q := fun i' hi' q hq => by
            by_cases e : i' = i
            · subst e
              exact HS.out q (by omega)
            · exact HR.out i' (by omega) q hq
          have HT := hide hT
          clear hT
          go_wp2
          go_roundw
          case rel => exact ⟨i + 1, by omega, by go_num, hb2, HT⟩
          case measure => simp [intOf]; omega
    · have hT : Tog m.cs.length L m := fun i' hi' q hq => HR.out i' (by omega) q hq
      have HT := hide (togB_yes hT)
      clear hT
      go_wp2
      go_ret
      exact ⟨ret_bool (by rw [HT.out]), hb⟩
end Go.Proofs.Ytifijhfeeammkaa
namespace Go.Proofs.Ytifijhfeeammkaa
open Go.RowKit

theorem rowF_drop (L : Nat) (l : List Ev) (k : Nat) (h : k < l.length) : rowF L k (l.drop k) = if lineF L k l[k] = 0 then rowF L (k + 1) (l.drop (k + 1)) else lineF L k l[k] := by rw [List.drop_eq_getElem_cons h, rowF]
theorem linesF_drop (L : Nat) (cs : List (List Ev)) (i : Nat) (h : i < cs.length) : linesF L (cs.drop i) = if rowF L 0 cs[i] = 0 then linesF L (cs.drop (i + 1)) else rowF L 0 cs[i] := by rw [List.drop_eq_getElem_cons h, linesF]

set_option maxRecDepth 100000 in
set_option maxHeartbeats 800000 in
theorem specMacF_any (m : Mac) (A A' : Option Addr) (c c' : Nat) (w : World) (h1 : m.cs.length ≤ maxLen) (h2 : m.mem.length ≤ maxLen) (h : RdMac w w.heap.size A A' m) :
    Calls Try.prog 30 #[macV A m.cs.length c A' m.mem.length c'] w fun e w' => e = .returned (.int .i64 (macF m)) ∧ Below w.heap.size w w' := by
  have kb := Bk.new w #[.slice A m.cs.length c, .slice A' m.mem.length c'] 27
  have hbw := (Below.refl w.heap.size w).alloc (Nat.le_refl _) (Obj.cells #[.slice A m.cs.length c, .slice A' m.mem.length c'] 27)
  have hq : w.heap.size < (w.alloc (Obj.cells #[.slice A m.cs.length c, .slice A' m.mem.length c'] 27)).heap.size := by simp
  have AT : ∀ V, Bk V w.heap.size #[.slice A m.cs.length c, .slice A' m.mem.length c'] 27 → MacAt V w.heap.size A c A' c' m := fun V hV => ⟨by have := hV.cell 0; simp at this; exact this, by have := hV.cell 1; simp at this; exact this⟩
  have HAT := hide AT
  clear AT
  go_enter Try.func30, Try.ntmps30
  generalize hQ : w.heap.size = Q at *
  go_wp2_with fail
  generalize w.alloc (Obj.cells #[.slice A m.cs.length c, .slice A' m.mem.length c'] 27) = W at *
  have hRW := (h.below hbw).lt
  refine (l7Sizes_any m A A' c c' Q W h1 h2 (HAT.out W kb) hRW).mono ?_
  rintro e w1 ⟨rfl, rfl⟩
  by_cases hS : Siz m
  · rw [sizB_yes hS]
    have q1 := (HAT.out W kb).c1
    go_wp2_with fail
    refine (l7Cells_any m.mem A' c' W h2 hRW.mem).mono ?_
    rintro e w1 ⟨rfl, hb1⟩
    have hbx := hbw.trans (hb1.mono (by have := hbw.size; omega))
    have kx := kb.kept hb1
    have hq1 : Q < w1.heap.size := kx.lt
    clear q1 kb hbw hRW hq
    by_cases hF : cellsF m.mem = 0
    · rw [hF]
      obtain ⟨L, hL⟩ : ∃ L, L = (m.cs.getD 0 []).length := ⟨_, rfl⟩
      have hsh := hS.shp
      rw [← hL] at hsh
      have hL4 : 1 ≤ L ∧ L ≤ 4 := by have := hS.2.2.2; rw [← hL] at this; exact this
      have hn := hS.1
      have hm32 := hS.2.1
      have HS := hide hS
      have HF := hide hF
      have HL := hide hL
      have x0 := (HAT.out _ kx).c0
      clear hS hF hL
      obtain ⟨hL1, hL2⟩ := hL4
      obtain ⟨hn1, hn2⟩ := hn
      go_wp2
      clear x0
      go_loopw [18] (fun i wr => ∃ k : Nat, k ≤ m.cs.length ∧ i = .int .i64 k ∧ Below Q w wr ∧ Bk wr Q #[.slice A m.cs.length c, .slice A' m.mem.length c'] 27 ∧ Hid (linesF L m.cs = linesF L (m.cs.drop k))) (fun i _ => m.cs.length - (intOf i).toNat)
      case atStart => exact ⟨0, Nat.zero_le _, rfl, hbx, kx, hide rfl⟩
      case round =>
        clear hbx kx hb1
        obtain ⟨i, hik, rfl, hb, kb, HR⟩ := hrel
        by_cases hi : i < m.cs.length
        · have x0 := (HAT.out _ kb).c0
          obtain ⟨b, off, a, d, rfl, _, hc0, hle, hcm, _⟩ := (h.cs.below hb).get hi
          have hLi := hsh.2 _ (List.getElem_mem hi)
          rw [hLi] at hc0 hle
          have hd := linesF_drop L m.cs i hi
          have HD := hide hd
          clear hd
          go_wp2
          clear x0 hc0 hle hcm
          go_loopw [27] (fun q w2 => ∃ k : Nat, k ≤ L ∧ q = .int .i64 k ∧ Below Q w w2 ∧ Bk w2 Q #[.slice (some ⟨b, off, none⟩) m.cs.length c, .slice A' m.mem.length c'] 27 ∧ Hid (rowF L 0 m.cs[i] = rowF L k (m.cs[i].drop k))) (fun q _ => L - (intOf q).toNat)
          case atStart => exact ⟨0, Nat.zero_le _, rfl, hb, kb, hide rfl⟩
          case round =>
            clear hb kb
            obtain ⟨k, hkL, rfl, hb2, kb2, HK⟩ := hrel
            by_cases hk : k < L
            · have x0 := (HAT.out _ kb2).c0
              obtain ⟨b', off', a', d', hA, _, hc0, hle, hcm, hr⟩ := (h.cs.below hb2).get hi
              cases hA
              rw [hLi] at hc0 hle
              obtain ⟨b3, off3, rfl, hb3, e0, e1, e2⟩ := hr.get (i := k) (by omega)
              have hd2 := rowF_drop L m.cs[i] k (by omega)
              obtain ⟨X, hX⟩ : ∃ X, X = m.cs[i][k]'(by omega) := ⟨_, rfl⟩
              rw [← hX] at e0 e1 e2 hd2
              clear hX
              have LC := l7Line_any X.k X.a X.v b3 (off3 + k * 3) k L
              by_cases h0 : lineF L k X = 0
              · rw [if_pos h0] at hd2
                rw [show lineF L k ⟨X.k, X.a, X.v⟩ = 0 from h0] at LC
                have HLC := hide LC
                have HD2 := hide hd2
                clear hd2 h0 LC
                go_wp2
                go_quiet ((go_at_call 88; exact Calls.quiet_of_same (Calls.mono (HLC.out (World.drewN _ _) (by omega) e0 e1 e2) (fun _ _ h => ⟨h.1, h.2.symm⟩))))
                go_wp2
                go_roundw
                case rel => exact ⟨k + 1, by omega, by go_num, below_drewN hb2 _, kb2.drewN _, hide (HK.out.trans HD2.out)⟩
                case measure => simp [intOf]; omega
              · rw [if_neg h0] at hd2
                obtain ⟨F, hF⟩ : ∃ F, F = lineF L k X := ⟨_, rfl⟩
                rw [show lineF L k ⟨X.k, X.a, X.v⟩ = F from hF.symm] at LC
                have HLC := hide LC
                have hrow : rowF L 0 m.cs[i] = F := by rw [HK.out, hd2, hF]
                have hD3 := HD.out
                rw [hrow] at hD3
                rw [← hF] at h0
                rw [if_neg h0] at hD3
                have hall : macF m = F := by
                  have hl : linesF (m.cs.getD 0 []).length m.cs = F := by rw [← HL.out, HR.out, hD3]
                  rw [macF_lines HS.out HF.out (by rw [hl]; exact h0), hl]
                have HA := hide hall
                have f0 : (F != 0) = true := bne_iff_ne.2 h0
                have f1 : (F == 0) = false := beq_eq_false_iff_ne.2 h0
                clear hd2 hF hrow hD3 hall h0 LC
                go_wp2
                go_quiet ((go_at_call 88; exact Calls.quiet_of_same (Calls.mono (HLC.out (World.drewN _ _) (by omega) e0 e1 e2) (fun _ _ h => ⟨h.1, h.2.symm⟩))))
                go_wp2
                go_ret
                exact ⟨ret_int (by rw [HA.out]), below_drewN hb2 _⟩
            · have hrow : rowF L 0 m.cs[i] = 0 := by rw [HK.out, List.drop_eq_nil_of_le (by omega)]; rfl
              have hD3 := HD.out
              rw [if_pos hrow] at hD3
              have HD3 := hide hD3
              clear hrow hD3
              go_wp2
              go_roundw
              case rel => exact ⟨i + 1, by omega, by go_num, hb2, kb2, hide (HR.out.trans HD3.out)⟩
              case measure => simp [intOf]; omega
        · have hlin : linesF (m.cs.getD 0 []).length m.cs = 0 := by rw [← HL.out, HR.out, List.drop_eq_nil_of_le (by omega)]; rfl
          have HLN := hide hlin
          clear hlin
          have hTT := l7Together_any m L A A' c c' Q _ hsh hn2 hL2 hm32 kb.lt (HAT.out _ kb) ((h.below hb).lt)
          by_cases hT : Tog m.cs.length L m
          · rw [togB_yes hT] at hTT
            have hall : macF m = 0 := macF_ok HS.out HF.out HLN.out (by rw [← HL.out]; exact hT)
            have HA := hide hall
            have HC := hide hTT
            clear hall hT hTT
            go_wp2_with fail
            refine HC.out.mono ?_
            rintro e w2 ⟨rfl, hb2⟩
            go_wp2
            go_ret
            exact ⟨ret_int (by rw [HA.out]), hb.trans (hb2.mono (by have := hb.size; omega))⟩
          · rw [togB_no hT] at hTT
            have hall : macF m = 7 := macF_tog HS.out HF.out HLN.out (by rw [← HL.out]; exact hT)
            have HA := hide hall
            have HC := hide hTT
            clear hall hT hTT
            go_wp2_with fail
            refine HC.out.mono ?_
            rintro e w2 ⟨rfl, hb2⟩
            go_wp2
            go_ret
            exact ⟨ret_int (by rw [HA.out]), hb.trans (hb2.mono (by have := hb.size; omega))⟩
    · have hall := macF_cells hS hF
      obtain ⟨F, hF2⟩ : ∃ F, F = cellsF m.mem := ⟨_, rfl⟩
      rw [← hF2] at hF hall ⊢
      have HA := hide hall
      have f0 : (F != 0) = true := bne_iff_ne.2 hF
      have f1 : (F == 0) = false := beq_eq_false_iff_ne.2 hF
      clear hF hall hF2 hS
      go_wp2
      go_ret
      exact ⟨ret_int (by rw [HA.out]), hbx⟩
  · rw [sizB_no hS]
    have HA := hide (macF_siz hS)
    clear hS
    go_wp2
    go_ret
    exact ⟨ret_int (by rw [HA.out]), hbw⟩
end Go.Proofs.Ytifijhfeeammkaa
namespace Go.Proofs.Ytifijhfeeammkaa
open Go.RowKit

def vaC (a : Int) (F : Int) : Int := if F = 0 then (if 0 ≤ a ∧ a ≤ 999999 then 0 else 3) else F
def vaV (m : Mac) (a : Int) (F : Int) : Int := if F = 0 ∧ 0 ≤ a ∧ a ≤ 999999 then valM m a else 0
theorem modL_cons (a : Int) (x : Ev) (r : List Ev) : modL a (x :: r) = if x.k = 2 ∧ x.a = a then some x.v else modL a r := rfl
theorem modL_row (a : Int) (cs : List (List Ev)) (i : Nat) (hi : i < cs.length) (k : Nat) (hk : k < cs[i].length) :
    modL a (cs[i].drop k ++ (cs.drop (i + 1)).flatten) = if cs[i][k].k = 2 ∧ cs[i][k].a = a then some cs[i][k].v else modL a (cs[i].drop (k + 1) ++ (cs.drop (i + 1)).flatten) := by
  rw [List.drop_eq_getElem_cons hk, List.cons_append, modL_cons]
theorem flat_drop (cs : List (List Ev)) (i : Nat) (hi : i < cs.length) : (cs.drop i).flatten = cs[i].drop 0 ++ (cs.drop (i + 1)).flatten := by
  rw [List.drop_eq_getElem_cons hi, List.flatten_cons, List.drop_zero]

theorem vaC_ok {a : Int} (ha : 0 ≤ a ∧ a ≤ 999999) : vaC a 0 = 0 := by unfold vaC; rw [if_pos rfl, if_pos ha]
theorem vaC_no {a : Int} (ha : ¬ (0 ≤ a ∧ a ≤ 999999)) : vaC a 0 = 3 := by unfold vaC; rw [if_pos rfl, if_neg ha]
theorem vaC_bad {a F : Int} (h : ¬ F = 0) : vaC a F = F := if_neg h
theorem vaV_ok {m : Mac} {a : Int} (ha : 0 ≤ a ∧ a ≤ 999999) : vaV m a 0 = valM m a := if_pos ⟨rfl, ha⟩
theorem vaV_no {m : Mac} {a : Int} (ha : ¬ (0 ≤ a ∧ a ≤ 999999)) : vaV m a 0 = 0 := if_neg fun h => ha h.2
theorem vaV_bad {m : Mac} {a F : Int} (h : ¬ F = 0) : vaV m a F = 0 := if_neg fun h' => h h'.1

set_option maxRecDepth 100000 in
set_option maxHeartbeats 800000 in
theorem specValueAt_any (m : Mac) (A A' : Option Addr) (c c' : Nat) (ad : Int) (w : World) (h1 : m.cs.length ≤ maxLen) (h2 : m.mem.length ≤ maxLen) (h : RdMac w w.heap.size A A' m) :
    Calls Try.prog 24 #[macV A m.cs.length c A' m.mem.length c', .int .i64 ad] w fun e w' => e = .returned (.agg #[.int .i64 (vaC ad (macF m)), .int .i64 (vaV m ad (macF m))]) ∧ Below w.heap.size w w' := by
  obtain ⟨W, hW⟩ : ∃ W, W = (w.alloc (Obj.cells #[.slice A m.cs.length c, .slice A' m.mem.length c'] 27)).alloc (Obj.cells #[.int .i64 0, .int .i64 0] 38) := ⟨_, rfl⟩
  obtain ⟨k1, k2, hz, B0⟩ := two_new _ _ _ _ _ W hW
  have HW := hide hW
  have hRW := (h.below B0).lt
  have HM := specMacF_any m A A' c c' W h1 h2 hRW
  clear hW hRW
  by_cases hF : macF m = 0
  · obtain ⟨hG, hm32⟩ := macF_zero hF
    rw [hF] at HM ⊢
    have HC := hide HM
    clear HM hF
    have hsh := hG.shp
    have hn := hG.nL
    generalize hLL : (m.cs.getD 0 []).length = L at hsh hn
    clear hG hLL
    by_cases ha : 0 ≤ ad ∧ ad ≤ 999999
    · rw [vaC_ok ha, vaV_ok ha]
      go_enter Try.func24, Try.ntmps24
      generalize hQ : w.heap.size = Q at *
      go_wp2_with fail
      rw [← HW.out]
      refine HC.out.mono ?_
      rintro e w1 ⟨rfl, hb1⟩
      have hbx := B0.trans (hb1.mono (by omega))
      have j1 := k1.kept hb1
      have j2 := k2.kept hb1
      clear hb1 HC
      go_wp2_with fail
      refine (l1In_yes _ _ _ _ ha).mono ?_
      rintro e w2 ⟨rfl, rfl⟩
      have x0 := j1.cell 0
      simp at x0
      go_wp2
      clear x0
      go_loopw [22] (fun i wr => ∃ k : Nat, k ≤ m.cs.length ∧ i = .int .i64 k ∧ Below Q w wr ∧ Bk wr Q #[.slice A m.cs.length c, .slice A' m.mem.length c'] 27 ∧ Bk wr (Q + 1) #[.int .i64 0, .int .i64 0] 38 ∧ Hid (modL ad m.cs.flatten = modL ad (m.cs.drop k).flatten)) (fun i _ => m.cs.length - (intOf i).toNat)
      case atStart => exact ⟨0, Nat.zero_le _, rfl, hbx, j1, j2, hide rfl⟩
      case round =>
        clear hbx j1 j2
        obtain ⟨i, hik, rfl, hb, kb, kr, HR⟩ := hrel
        by_cases hi : i < m.cs.length
        · have x0 := kb.cell 0
          simp at x0
          obtain ⟨b, off, a, d, rfl, _, hc0, hle, hcm, _⟩ := (h.cs.below hb).get hi
          have hLi := hsh.2 _ (List.getElem_mem hi)
          rw [hLi] at hc0 hle
          go_wp2
          clear x0 hc0 hle hcm
          go_loopw [31] (fun q w2 => ∃ k : Nat, k ≤ L ∧ q = .int .i64 k ∧ Below Q w w2 ∧ Bk w2 Q #[.slice (some ⟨b, off, none⟩) m.cs.length c, .slice A' m.mem.length c'] 27 ∧ Bk w2 (Q + 1) #[.int .i64 0, .int .i64 0] 38 ∧ Hid (modL ad m.cs.flatten = modL ad (m.cs[i].drop k ++ (m.cs.drop (i + 1)).flatten))) (fun q _ => L - (intOf q).toNat)
          case atStart => exact ⟨0, Nat.zero_le _, rfl, hb, kb, kr, hide (HR.out.trans (by rw [flat_drop _ _ hi]))⟩
          case round =>
            clear hb kb kr
            obtain ⟨k, hkL, rfl, hb2, kb2, kr2, HK⟩ := hrel
            by_cases hk : k < L
            · have x0 := kb2.cell 0
              simp at x0
              obtain ⟨b', off', a', d', hA, _, hc0, hle, hcm, hr⟩ := (h.cs.below hb2).get hi
              cases hA
              rw [hLi] at hc0 hle
              obtain ⟨b3, off3, rfl, hb3, e0, e1, e2⟩ := hr.get (i := k) (by omega)
              have hd2 := modL_row ad m.cs i hi k (by omega)
              obtain ⟨X, hX⟩ : ∃ X, X = m.cs[i][k]'(by omega) := ⟨_, rfl⟩
              rw [← hX] at e0 e1 e2 hd2
              clear hX
              have KB := hide (kb2.alloc (Obj.cells #[.int .i64 X.k, .int .i64 X.a, .int .i64 X.v] 115))
              have KR := hide (kr2.alloc (Obj.cells #[.int .i64 X.k, .int .i64 X.a, .int .i64 X.v] 115))
              have HB := hide (hb2.alloc (by have := hb2.size; omega) (Obj.cells #[.int .i64 X.k, .int .i64 X.a, .int .i64 X.v] 115))
              by_cases hx : X.k = 2
              · have g0 : (X.k == 2) = true := beq_iff_eq.2 hx
                by_cases hxa : X.a = ad
                · have g1 : (X.a == ad) = true := beq_iff_eq.2 hxa
                  rw [if_pos ⟨hx, hxa⟩] at hd2
                  have HT := hide (show valM m ad = X.v by unfold valM; rw [HK.out, hd2]; rfl)
                  have q0 := KR.out.cell 0
                  have q1 := KR.out.cell 1
                  have f0 := KR.out.frozen 0
                  have f1 := KR.out.frozen 1
                  simp at q0 q1
                  clear hd2 hx hxa kb2 kr2
                  go_wp2
                  refine bodyPost_ret (v := .agg #[.int .i64 0, .int .i64 X.v]) (by simp [results, Try.results24, go_sem, q0, q1]) rfl ?_
                  exact ⟨by rw [HT.out], (HB.out.setCell (by simp) _).setCell (by simp) _⟩
                · have g1 : (X.a == ad) = false := beq_eq_false_iff_ne.2 hxa
                  rw [if_neg (fun hh => hxa hh.2)] at hd2
                  have HD := hide hd2
                  clear hd2 hx hxa kb2 kr2
                  go_wp2
                  go_roundw
                  case rel => exact ⟨k + 1, by omega, by go_num, HB.out, KB.out, KR.out, hide (HK.out.trans HD.out)⟩
                  case measure => simp [intOf]; omega
              · have g0 : (X.k == 2) = false := beq_eq_false_iff_ne.2 hx
                rw [if_neg (fun hh => hx hh.1)] at hd2
                have HD := hide hd2
                clear hd2 hx kb2 kr2
                go_wp2
                go_roundw
                case rel => exact ⟨k + 1, by omega, by go_num, HB.out, KB.out, KR.out, hide (HK.out.trans HD.out)⟩
                case measure => simp [intOf]; omega
            · have HD := hide (show modL ad m.cs.flatten = modL ad (m.cs.drop (i + 1)).flatten by rw [HK.out, List.drop_eq_nil_of_le (by omega), List.nil_append])
              go_wp2
              go_roundw
              case rel => exact ⟨i + 1, by omega, by go_num, hb2, kb2, kr2, HD⟩
              case measure => simp [intOf]; omega
        · have HT := hide (show valM m ad = readM m.mem ad by unfold valM; rw [HR.out, List.drop_eq_nil_of_le (by omega)]; rfl)
          have x1 := kb.cell 1
          simp at x1
          have HRM := (h.mem.below hb).lt
          have q0 := kr.cell 0
          have q1 := kr.cell 1
          have f0 := kr.frozen 0
          have f1 := kr.frozen 1
          simp at q0 q1
          go_wp2_with fail
          refine (l7Read_any m.mem A' c' ad _ (by unfold maxLen; omega) HRM).mono ?_
          rintro e w3 ⟨rfl, rfl⟩
          go_wp2
          refine bodyPost_ret (v := .agg #[.int .i64 0, .int .i64 (readM m.mem ad)]) (by simp [results, Try.results24, go_sem, q0, q1]) rfl ?_
          exact ⟨by rw [HT.out], (hb.setCell (by simp) _).setCell (by simp) _⟩
    · rw [vaC_no ha, vaV_no ha]
      have ha' : ad < 0 ∨ 999999 < ad := by omega
      clear ha
      go_enter Try.func24, Try.ntmps24
      generalize hQ : w.heap.size = Q at *
      go_wp2_with fail
      rw [← HW.out]
      refine HC.out.mono ?_
      rintro e w1 ⟨rfl, hb1⟩
      have hbx := B0.trans (hb1.mono (by omega))
      have j2 := k2.kept hb1
      have q0 := j2.cell 0
      have q1 := j2.cell 1
      have f0 := j2.frozen 0
      have f1 := j2.frozen 1
      simp at q0 q1
      clear hb1 HC
      go_wp2_with fail
      refine (l1In_no _ _ _ _ ha').mono ?_
      rintro e w2 ⟨rfl, rfl⟩
      go_wp2
      refine bodyPost_ret (v := .agg #[.int .i64 3, .int .i64 0]) (by simp [results, Try.results24, go_sem, q0, q1]) rfl ?_
      exact ⟨rfl, (hbx.setCell (by simp) _).setCell (by simp) _⟩
  · rw [vaC_bad hF, vaV_bad hF]
    generalize macF m = F at *
    have g0 : (F != 0) = true := bne_iff_ne.2 hF
    have g1 : (F == 0) = false := beq_eq_false_iff_ne.2 hF
    have HC := hide HM
    clear HM hF
    go_enter Try.func24, Try.ntmps24
    generalize hQ : w.heap.size = Q at *
    go_wp2_with fail
    rw [← HW.out]
    refine HC.out.mono ?_
    rintro e w1 ⟨rfl, hb1⟩
    have hbx := B0.trans (hb1.mono (by omega))
    have j2 := k2.kept hb1
    have q0 := j2.cell 0
    have q1 := j2.cell 1
    have f0 := j2.frozen 0
    have f1 := j2.frozen 1
    simp at q0 q1
    clear hb1 HC
    go_wp2
    refine bodyPost_ret (v := .agg #[.int .i64 F, .int .i64 0]) (by simp [results, Try.results24, go_sem, q0, q1]) rfl ?_
    exact ⟨rfl, (hbx.setCell (by simp) _).setCell (by simp) _⟩
end Go.Proofs.Ytifijhfeeammkaa
