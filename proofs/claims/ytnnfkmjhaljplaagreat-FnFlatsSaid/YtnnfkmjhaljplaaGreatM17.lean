/- What the laws' walks rest upon, part 17. -/
import Derived.Test.YtnnfkmjhaljplaaGreatM15
import Derived.Test.YtnnfkmjhaljplaaGreatM07
import Derived.Test.YtnnfkmjhaljplaaGreatM02
import Derived.Deep.QuietTactic
import Derived.BigQuiet
import Derived.Test.YtnnfkmjhaljplaaGreatM05
import Derived.Test.YtnnfkmjhaljplaaGreatM08
import Derived.Lib.AppendZeros
import Derived.Lib.Hide
import Derived.Deep.RegionHeld3
import Derived.Deep.DeepCutAuto
namespace Go.Proofs.YtnnfkmjhaljplaaGreat
open Go.RowKit
theorem opF_bad {o : Ev} (h : ¬ evF o = 0) : opF o = evF o := if_neg h
theorem opF_form {o : Ev} (h : evF o = 0) (h2 : o.k = 0) (h3 : ¬ o.v = 0) : opF o = 1 := by unfold opF; rw [if_pos h, if_pos ⟨h2, h3⟩]
theorem opF_ok {o : Ev} (h : evF o = 0) (h2 : o.k = 1 ∨ o.v = 0) : opF o = 0 := by unfold opF; rw [if_pos h, if_neg (by omega)]
theorem specOpF_any (k a v : Int) (w : World) :
    Calls Tryz.prog 85 #[evV k a v] w fun e w' => e = .returned (.int .i64 (opF ⟨k, a, v⟩)) ∧ Below w.heap.size w w' := by
  have kb := Bk.new w #[.int .i64 k, .int .i64 a, .int .i64 v] 84
  have IM := hide (fun W => specEvF_any k a v W)
  by_cases h0 : evF ⟨k, a, v⟩ = 0
  · rw [h0] at IM
    have hk := (evF_zero h0).1
    simp only at hk
    by_cases h1 : k = 1
    · rw [opF_ok h0 (.inl h1)]
      subst h1
      clear hk h0
      go_enter Tryz.func85, Tryz.ntmps85
      go_wp2_with fail
      refine (IM.out _).mono ?_
      rintro e w1 ⟨rfl, hb⟩
      have q0 := (kb.kept hb).cell 0
      simp at q0
      clear kb
      go_wp2
      go_ret
      exact ⟨rfl, below_alloc hb⟩
    · obtain rfl : k = 0 := by omega
      by_cases hv : v = 0
      · rw [opF_ok h0 (.inr hv)]
        subst hv
        clear hk h0 h1
        go_enter Tryz.func85, Tryz.ntmps85
        go_wp2_with fail
        refine (IM.out _).mono ?_
        rintro e w1 ⟨rfl, hb⟩
        have q0 := (kb.kept hb).cell 0
        have q2 := (kb.kept hb).cell 2
        simp at q0 q2
        clear kb
        go_wp2
        go_ret
        exact ⟨rfl, below_alloc hb⟩
      · rw [opF_form h0 rfl hv]
        have f0 : (v == 0) = false := beq_eq_false_iff_ne.2 hv
        clear hk h0 h1
        go_enter Tryz.func85, Tryz.ntmps85
        go_wp2_with fail
        refine (IM.out _).mono ?_
        rintro e w1 ⟨rfl, hb⟩
        have q0 := (kb.kept hb).cell 0
        have q2 := (kb.kept hb).cell 2
        simp at q0 q2
        clear kb
        go_wp2
        go_ret
        exact ⟨rfl, below_alloc hb⟩
  · rw [opF_bad h0]
    obtain ⟨F, hF⟩ : ∃ F, F = evF ⟨k, a, v⟩ := ⟨_, rfl⟩
    rw [← hF] at h0 IM ⊢
    have f0 : (F != 0) = true := bne_iff_ne.2 h0
    have f1 : (F == 0) = false := beq_eq_false_iff_ne.2 h0
    clear h0 hF kb
    go_enter Tryz.func85, Tryz.ntmps85
    go_wp2_with fail
    refine (IM.out _).mono ?_
    rintro e w1 ⟨rfl, hb⟩
    go_wp2
    go_ret
    exact ⟨rfl, below_alloc hb⟩
theorem read_drop (l : List Cel) (i : Nat) (h : i < l.length) (a : Int) : readM (l.drop i) a = if l[i].a = a then l[i].v else readM (l.drop (i + 1)) a := by
  rw [List.drop_eq_getElem_cons h, readM]
theorem l7Read_any (l : List Cel) (A : Option Addr) (c : Nat) (a : Int) (w : World) (hm : l.length ≤ maxLen) (h : RdC w w.heap.size A l) :
    Calls Tryz.prog 64 #[.slice A l.length c, .int .i64 a] w fun e w' => e = .returned (.int .i64 (readM l a)) ∧ w = w' := by
  unfold maxLen at hm
  go_enter Tryz.func64, Tryz.ntmps64
  go_wp2
  go_loop [8] (fun i => ∃ k : Nat, k ≤ l.length ∧ i = .int .i64 k ∧ Hid (readM l a = readM (l.drop k) a)) (fun i => l.length - (intOf i).toNat)
  case atStart => exact ⟨0, Nat.zero_le _, rfl, hide rfl⟩
  case round =>
    obtain ⟨k, hk, rfl, HR⟩ := hrel
    by_cases hlt : k < l.length
    · obtain ⟨b, off, rfl, hbb, hc0, hc1⟩ := h.get hlt
      have hd := read_drop l k hlt a
      by_cases he : l[k].a = a
      · rw [if_pos he] at hd
        have HD := hide hd
        have f0 : (l[k].a == a) = true := beq_iff_eq.2 he
        clear hd he
        go_wp2
        go_ret
        exact ⟨ret_int (by rw [HR.out, HD.out]), rfl⟩
      · rw [if_neg he] at hd
        have HD := hide hd
        have f0 : (l[k].a == a) = false := beq_eq_false_iff_ne.2 he
        clear hd he
        go_wp2
        go_round
        case rel => exact ⟨k + 1, by omega, by go_num, hide (HR.out.trans HD.out)⟩
        case measure => simp [intOf]; omega
    · have hd : readM (l.drop k) a = 0 := by rw [List.drop_eq_nil_of_le (by omega)]; rfl
      have HD := hide hd
      clear hd
      go_wp2
      go_ret
      exact ⟨ret_int (by rw [HR.out, HD.out]), rfl⟩
end Go.Proofs.YtnnfkmjhaljplaaGreat
namespace Go.Proofs.YtnnfkmjhaljplaaGreat
open Go.RowKit
theorem opsF_drop (l : List Ev) (i : Nat) (h : i < l.length) : opsF (l.drop i) = if opF l[i] = 0 then opsF (l.drop (i + 1)) else opF l[i] := by rw [List.drop_eq_getElem_cons h, opsF]
theorem prsF_drop (t : List (List Ev)) (i : Nat) (h : i < t.length) : prsF (t.drop i) = if prF t[i] = 0 then prsF (t.drop (i + 1)) else prF t[i] := by rw [List.drop_eq_getElem_cons h, prsF]
set_option maxRecDepth 100000 in
set_option maxHeartbeats 800000 in
theorem specPgF_any (t : List (List Ev)) (A : Option Addr) (c : Nat) (w : World) (hm : t.length ≤ maxLen) (h : RdT w w.heap.size A t) :
    Calls Tryz.prog 65 #[.slice A t.length c] w fun e w' => e = .returned (.int .i64 (pgF t)) ∧ Below w.heap.size w w' := by
  unfold maxLen at hm
  by_cases h4 : 1 ≤ t.length ∧ t.length ≤ 4
  · have HF := hide (show pgF t = prsF t from if_pos h4)
    obtain ⟨h41, h42⟩ := h4
    go_enter Tryz.func65, Tryz.ntmps65
    go_wp2
    go_loopw [16] (fun i wr => ∃ k : Nat, k ≤ t.length ∧ i = .int .i64 k ∧ Below w.heap.size w wr ∧ Hid (prsF t = prsF (t.drop k))) (fun i _ => t.length - (intOf i).toNat)
    case atStart => exact ⟨0, Nat.zero_le _, rfl, Below.refl _ _, hide rfl⟩
    case round =>
      obtain ⟨k, hk, rfl, hb, HR⟩ := hrel
      by_cases hlt : k < t.length
      · obtain ⟨b, off, a, d, rfl, hbb, hc0, hle, hcm, hr⟩ := (h.below hb).get hlt
        have hd := prsF_drop t k hlt
        by_cases h8 : t[k].length ≤ 8
        · have HP := hide (show prF t[k] = opsF t[k] from if_pos h8)
          have HD := hide hd
          clear hd
          go_wp2
          clear hc0 hr
          go_loopw [30] (fun i w2 => ∃ j : Nat, j ≤ t[k].length ∧ i = .int .i64 j ∧ Below w.heap.size w w2 ∧ Hid (opsF t[k] = opsF (t[k].drop j))) (fun i _ => t[k].length - (intOf i).toNat)
          case atStart => exact ⟨0, Nat.zero_le _, rfl, hb, hide rfl⟩
          case round =>
            obtain ⟨j, hj, rfl, hb2, HS⟩ := hrel
            by_cases hl2 : j < t[k].length
            · obtain ⟨b', off', a', d', hA, _, hc1, hle', hcm', hr1⟩ := (h.below hb2).get hlt
              cases hA
              obtain ⟨b3, off3, rfl, _, e0, e1, e2⟩ := hr1.get hl2
              have hd2 := opsF_drop t[k] j hl2
              have IM := hide (fun W => specOpF_any t[k][j].k t[k][j].a t[k][j].v W)
              by_cases h0 : opF t[k][j] = 0
              · rw [if_pos h0] at hd2
                rw [show opF ⟨t[k][j].k, t[k][j].a, t[k][j].v⟩ = 0 from h0] at IM
                have HD2 := hide hd2
                clear hd2 h0
                go_wp2_with fail
                refine (IM.out _).mono ?_
                rintro e w3 ⟨rfl, hb3⟩
                have hb4 := hb2.trans (hb3.mono hb2.size)
                go_wp2
                go_roundw
                case rel => exact ⟨j + 1, by omega, by go_num, hb4, hide (HS.out.trans HD2.out)⟩
                case measure => simp [intOf]; omega
              · rw [if_neg h0] at hd2
                have hp : prF t[k] = opF t[k][j] := by rw [HP.out, HS.out, hd2]
                obtain ⟨F, hF⟩ : ∃ F, F = opF t[k][j] := ⟨_, rfl⟩
                have hD3 := HD.out
                rw [hp, if_neg h0] at hD3
                rw [← hF] at h0 hD3
                rw [show opF ⟨t[k][j].k, t[k][j].a, t[k][j].v⟩ = F from hF.symm] at IM
                have f0 : (F != 0) = true := bne_iff_ne.2 h0
                have f1 : (F == 0) = false := beq_eq_false_iff_ne.2 h0
                have HD3 := hide hD3
                clear hd2 h0 hF hp hD3
                go_wp2_with fail
                refine (IM.out _).mono ?_
                rintro e w3 ⟨rfl, hb3⟩
                have hb4 := hb2.trans (hb3.mono hb2.size)
                go_wp2
                go_ret
                exact ⟨ret_int (by rw [HF.out, HR.out, HD3.out]), hb4⟩
            · have hp : prF t[k] = 0 := by rw [HP.out, HS.out, List.drop_eq_nil_of_le (by omega)]; rfl
              have hD3 := HD.out
              rw [if_pos hp] at hD3
              have HD3 := hide hD3
              clear hp hD3
              go_wp2
              go_roundw
              case rel => exact ⟨k + 1, by omega, by go_num, hb2, hide (HR.out.trans HD3.out)⟩
              case measure => simp [intOf]; omega
        · have hp : prF t[k] = 2 := if_neg h8
          rw [hp, if_neg (by omega)] at hd
          have HD := hide hd
          clear hd hp
          go_wp2
          go_ret
          exact ⟨ret_int (by rw [HF.out, HR.out, HD.out]), hb⟩
      · have hd : prsF (t.drop k) = 0 := by rw [List.drop_eq_nil_of_le (by omega)]; rfl
        have HD := hide hd
        clear hd
        go_wp2
        go_ret
        exact ⟨ret_int (by rw [HF.out, HR.out, HD.out]), hb⟩
  · rw [show pgF t = 2 from if_neg h4]
    by_cases h1 : t.length < 1
    · go_enter Tryz.func65, Tryz.ntmps65
      go_wp2
      go_ret
      exact ⟨rfl, Below.refl _ _⟩
    · have h2 : 4 < t.length := by omega
      clear h4
      go_enter Tryz.func65, Tryz.ntmps65
      go_wp2
      go_ret
      exact ⟨rfl, Below.refl _ _⟩

end Go.Proofs.YtnnfkmjhaljplaaGreat
namespace Go.Proofs.YtnnfkmjhaljplaaGreat
open Go.RowKit
end Go.Proofs.YtnnfkmjhaljplaaGreat
namespace Go.Proofs.YtnnfkmjhaljplaaGreat
open Go.RowKit
end Go.Proofs.YtnnfkmjhaljplaaGreat
namespace Go.Proofs.YtnnfkmjhaljplaaGreat
open Go.RowKit
end Go.Proofs.YtnnfkmjhaljplaaGreat
namespace Go.Proofs.YtnnfkmjhaljplaaGreat
open Go.RowKit
end Go.Proofs.YtnnfkmjhaljplaaGreat
namespace Go.Proofs.YtnnfkmjhaljplaaGreat
open Go.RowKit
theorem implOpF_any (k a v : Int) (w : World) :
    Calls Tryz.prog 51 #[evV k a v] w fun e w' => e = .returned (.int .i64 (opF ⟨k, a, v⟩)) ∧ Below w.heap.size w w' := by
  have kb := Bk.new w #[.int .i64 k, .int .i64 a, .int .i64 v] 84
  have IM := hide (fun W => implEvF_any k a v W)
  by_cases h0 : evF ⟨k, a, v⟩ = 0
  · rw [h0] at IM
    have hk := (evF_zero h0).1
    simp only at hk
    by_cases h1 : k = 1
    · rw [opF_ok h0 (.inl h1)]
      subst h1
      clear hk h0
      go_enter Tryz.func51, Tryz.ntmps51
      go_wp2_with fail
      refine (IM.out _).mono ?_
      rintro e w1 ⟨rfl, hb⟩
      have q0 := (kb.kept hb).cell 0
      simp at q0
      clear kb
      go_wp2
      go_ret
      exact ⟨rfl, below_alloc hb⟩
    · obtain rfl : k = 0 := by omega
      by_cases hv : v = 0
      · rw [opF_ok h0 (.inr hv)]
        subst hv
        clear hk h0 h1
        go_enter Tryz.func51, Tryz.ntmps51
        go_wp2_with fail
        refine (IM.out _).mono ?_
        rintro e w1 ⟨rfl, hb⟩
        have q0 := (kb.kept hb).cell 0
        have q2 := (kb.kept hb).cell 2
        simp at q0 q2
        clear kb
        go_wp2
        go_ret
        exact ⟨rfl, below_alloc hb⟩
      · rw [opF_form h0 rfl hv]
        have f0 : (v == 0) = false := beq_eq_false_iff_ne.2 hv
        clear hk h0 h1
        go_enter Tryz.func51, Tryz.ntmps51
        go_wp2_with fail
        refine (IM.out _).mono ?_
        rintro e w1 ⟨rfl, hb⟩
        have q0 := (kb.kept hb).cell 0
        have q2 := (kb.kept hb).cell 2
        simp at q0 q2
        clear kb
        go_wp2
        go_ret
        exact ⟨rfl, below_alloc hb⟩
  · rw [opF_bad h0]
    obtain ⟨F, hF⟩ : ∃ F, F = evF ⟨k, a, v⟩ := ⟨_, rfl⟩
    rw [← hF] at h0 IM ⊢
    have f0 : (F != 0) = true := bne_iff_ne.2 h0
    have f1 : (F == 0) = false := beq_eq_false_iff_ne.2 h0
    clear h0 hF kb
    go_enter Tryz.func51, Tryz.ntmps51
    go_wp2_with fail
    refine (IM.out _).mono ?_
    rintro e w1 ⟨rfl, hb⟩
    go_wp2
    go_ret
    exact ⟨rfl, below_alloc hb⟩
set_option maxRecDepth 100000 in
set_option maxHeartbeats 800000 in
theorem implPgF_any (t : List (List Ev)) (A : Option Addr) (c : Nat) (w : World) (hm : t.length ≤ maxLen) (h : RdT w w.heap.size A t) :
    Calls Tryz.prog 26 #[.slice A t.length c] w fun e w' => e = .returned (.int .i64 (pgF t)) ∧ Below w.heap.size w w' := by
  unfold maxLen at hm
  by_cases h4 : 1 ≤ t.length ∧ t.length ≤ 4
  · have HF := hide (show pgF t = prsF t from if_pos h4)
    have h4' : 1 ≤ (t.length : Int) ∧ (t.length : Int) ≤ 4 := by omega
    obtain ⟨h41, h42⟩ := h4
    go_enter Tryz.func26, Tryz.ntmps26
    go_wp2_with fail
    refine (allWithin_one _ _ _ _ _ _ (by simp [go_sem]) h4').mono ?_
    rintro e w' ⟨rfl, rfl⟩
    clear h4'
    go_wp2
    go_loopw [15] (fun i wr => ∃ k : Nat, k ≤ t.length ∧ i = .int .i64 k ∧ Below w.heap.size w wr ∧ Hid (prsF t = prsF (t.drop k))) (fun i _ => t.length - (intOf i).toNat)
    case atStart => exact ⟨0, Nat.zero_le _, rfl, (Below.refl _ _).alloc (Nat.le_refl _) _, hide rfl⟩
    case round =>
      obtain ⟨k, hk, rfl, hb, HR⟩ := hrel
      by_cases hlt : k < t.length
      · obtain ⟨b, off, a, d, rfl, hbb, hcw, hle, hcm, hrw⟩ := h.get hlt
        have hc0 := (hb.cell (p := ⟨b, off + k, none⟩) hbb).trans hcw
        have HRW := hide hrw
        clear hrw hcw
        have hd := prsF_drop t k hlt
        by_cases h8 : t[k].length ≤ 8
        · have HP := hide (show prF t[k] = opsF t[k] from if_pos h8)
          have HD := hide hd
          clear hd
          go_wp2
          clear hc0
          go_loopw [24] (fun i w2 => ∃ j : Nat, j ≤ t[k].length ∧ i = .int .i64 j ∧ Below w.heap.size w w2 ∧ Hid (opsF t[k] = opsF (t[k].drop j))) (fun i _ => t[k].length - (intOf i).toNat)
          case atStart => exact ⟨0, Nat.zero_le _, rfl, hb, hide rfl⟩
          case round =>
            obtain ⟨j, hj, rfl, hb2, HS⟩ := hrel
            by_cases hl2 : j < t[k].length
            · obtain ⟨b3, off3, rfl, _, e0, e1, e2⟩ := (HRW.out.below hb2).get hl2
              have hd2 := opsF_drop t[k] j hl2
              have IM := hide (fun W => implOpF_any t[k][j].k t[k][j].a t[k][j].v W)
              by_cases h0 : opF t[k][j] = 0
              · rw [if_pos h0] at hd2
                rw [show opF ⟨t[k][j].k, t[k][j].a, t[k][j].v⟩ = 0 from h0] at IM
                have HD2 := hide hd2
                clear hd2 h0
                go_wp2_with fail
                refine (IM.out _).mono ?_
                rintro e w3 ⟨rfl, hb3⟩
                have hb4 := hb2.trans ((below_alloc hb3).mono hb2.size)
                go_wp2
                go_roundw
                case rel => exact ⟨j + 1, by omega, by go_num, hb4, hide (HS.out.trans HD2.out)⟩
                case measure => simp [intOf]; omega
              · rw [if_neg h0] at hd2
                have hp : prF t[k] = opF t[k][j] := by rw [HP.out, HS.out, hd2]
                obtain ⟨F, hF⟩ : ∃ F, F = opF t[k][j] := ⟨_, rfl⟩
                have hD3 := HD.out
                rw [hp, if_neg h0] at hD3
                rw [← hF] at h0 hD3
                rw [show opF ⟨t[k][j].k, t[k][j].a, t[k][j].v⟩ = F from hF.symm] at IM
                have f0 : (F != 0) = true := bne_iff_ne.2 h0
                have f1 : (F == 0) = false := beq_eq_false_iff_ne.2 h0
                have HD3 := hide hD3
                clear hd2 h0 hF hp hD3
                go_wp2_with fail
                refine (IM.out _).mono ?_
                rintro e w3 ⟨rfl, hb3⟩
                have hb4 := hb2.trans ((below_alloc hb3).mono hb2.size)
                go_wp2
                go_ret
                exact ⟨ret_int (by rw [HF.out, HR.out, HD3.out]), hb4⟩
            · have hp : prF t[k] = 0 := by rw [HP.out, HS.out, List.drop_eq_nil_of_le (by omega)]; rfl
              have hD3 := HD.out
              rw [if_pos hp] at hD3
              have HD3 := hide hD3
              clear hp hD3
              go_wp2
              go_roundw
              case rel => exact ⟨k + 1, by omega, by go_num, hb2, hide (HR.out.trans HD3.out)⟩
              case measure => simp [intOf]; omega
        · have hp : prF t[k] = 2 := if_neg h8
          rw [hp, if_neg (by omega)] at hd
          have HD := hide hd
          clear hd hp
          go_wp2
          go_ret
          exact ⟨ret_int (by rw [HF.out, HR.out, HD.out]), hb⟩
      · have hd : prsF (t.drop k) = 0 := by rw [List.drop_eq_nil_of_le (by omega)]; rfl
        have HD := hide hd
        clear hd
        go_wp2
        go_ret
        exact ⟨ret_int (by rw [HF.out, HR.out, HD.out]), hb⟩
  · rw [show pgF t = 2 from if_neg h4]
    have h4' : (t.length : Int) < 1 ∨ 4 < (t.length : Int) := by omega
    clear h4
    go_enter Tryz.func26, Tryz.ntmps26
    go_wp2_with fail
    refine (allWithin_not _ _ _ _ _ _ (by simp [go_sem]) h4').mono ?_
    rintro e w' ⟨rfl, rfl⟩
    go_wp2
    go_ret
    exact ⟨rfl, by go_grown⟩
end Go.Proofs.YtnnfkmjhaljplaaGreat
namespace Go.Proofs.YtnnfkmjhaljplaaGreat
open Go.RowKit
set_option maxRecDepth 100000 in
theorem valueAt_any (l : List Cel) (A : Option Addr) (c : Nat) (a : Int) (w : World) (hm : l.length ≤ maxLen) (h : RdC w w.heap.size A l) :
    Calls Tryz.prog 84 #[.slice A l.length c, .int .i64 a] w fun e w' => e = .returned (.int .i64 (readM l a)) ∧ Below w.heap.size w w' := by
  unfold maxLen at hm
  go_enter Tryz.func84, Tryz.ntmps84
  go_wp2
  go_loopw [9] (fun i wr => ∃ k : Nat, k ≤ l.length ∧ i = .int .i64 k ∧ Below w.heap.size w wr ∧ Hid (readM l a = readM (l.drop k) a)) (fun i _ => l.length - (intOf i).toNat)
  case atStart => exact ⟨0, Nat.zero_le _, rfl, Below.refl _ _, hide rfl⟩
  case round =>
    obtain ⟨k, hk, rfl, hb, HR⟩ := hrel
    by_cases hlt : k < l.length
    · obtain ⟨b, off, rfl, hbb, hc0, hc1⟩ := (h.below hb).get hlt
      have hd := read_drop l k hlt a
      by_cases he : l[k].a = a
      · rw [if_pos he] at hd
        have HD := hide hd
        have f0 : (l[k].a == a) = true := beq_iff_eq.2 he
        clear hd he
        go_wp2
        go_ret
        exact ⟨ret_int (by rw [HR.out, HD.out]), hb.alloc hb.size _⟩
      · rw [if_neg he] at hd
        have HD := hide hd
        have f0 : (l[k].a == a) = false := beq_eq_false_iff_ne.2 he
        clear hd he
        go_wp2
        go_roundw
        case rel => exact ⟨k + 1, by omega, by go_num, hb.alloc hb.size _, hide (HR.out.trans HD.out)⟩
        case measure => simp [intOf]; omega
    · have hd : readM (l.drop k) a = 0 := by rw [List.drop_eq_nil_of_le (by omega)]; rfl
      have HD := hide hd
      clear hd
      go_wp2
      go_ret
      exact ⟨ret_int (by rw [HR.out, HD.out]), hb⟩
end Go.Proofs.YtnnfkmjhaljplaaGreat
namespace Go.Proofs.YtnnfkmjhaljplaaGreat
open Go.RowKit
end Go.Proofs.YtnnfkmjhaljplaaGreat
namespace Go.Proofs.YtnnfkmjhaljplaaGreat
open Go.RowKit
end Go.Proofs.YtnnfkmjhaljplaaGreat
namespace Go.Proofs.YtnnfkmjhaljplaaGreat
open Go.RowKit
end Go.Proofs.YtnnfkmjhaljplaaGreat
namespace Go.Proofs.YtnnfkmjhaljplaaGreat
open Go.RowKit
end Go.Proofs.YtnnfkmjhaljplaaGreat
