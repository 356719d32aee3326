/- Contracts of OpFault and ProgramsFault, in the program. -/
import Derived.Test.YtifijhfeeammkaaMsiG
namespace Go.Proofs.Ytifijhfeeammkaa
open Go.RowKit

theorem implOpF_any (k a v : Int) (w : World) :
    Calls Try.prog 27 #[evV k a v] w fun e w' => e = .returned (.int .i64 (opF ⟨k, a, v⟩)) ∧ Below w.heap.size w w' := by
  have kb := Bk.new w #[.int .i64 k, .int .i64 a, .int .i64 v] 29
  have IM := hide (fun W => implEvF_any k a v W)
  by_cases h0 : evF ⟨k, a, v⟩ = 0
  · rw [h0] at IM
    have hk := (evF_zero h0).1
    simp only at hk
    by_cases h1 : k = 1
    · rw [opF_ok h0 (.inl h1)]
      subst h1
      clear hk h0
      go_enter Try.func27, Try.ntmps27
      go_wp2_with fail
      refine (IM.out _).mono ?_
      rintro e w1 ⟨rfl, hb⟩
      have q0 := (kb.kept hb).cell 0
      simp at q0
      clear kb
      go_wp2
      go_ret
      exact ⟨rfl, below_alloc hb⟩
    · obtain rfl : k = 0 := by omega
      by_cases hv : v = 0
      · rw [opF_ok h0 (.inr hv)]
        subst hv
        clear hk h0 h1
        go_enter Try.func27, Try.ntmps27
        go_wp2_with fail
        refine (IM.out _).mono ?_
        rintro e w1 ⟨rfl, hb⟩
        have q0 := (kb.kept hb).cell 0
        have q2 := (kb.kept hb).cell 2
        simp at q0 q2
        clear kb
        go_wp2
        go_ret
        exact ⟨rfl, below_alloc hb⟩
      · rw [opF_form h0 rfl hv]
        have f0 : (v == 0) = false := beq_eq_false_iff_ne.2 hv
        clear hk h0 h1
        go_enter Try.func27, Try.ntmps27
        go_wp2_with fail
        refine (IM.out _).mono ?_
        rintro e w1 ⟨rfl, hb⟩
        have q0 := (kb.kept hb).cell 0
        have q2 := (kb.kept hb).cell 2
        simp at q0 q2
        clear kb
        go_wp2
        go_ret
        exact ⟨rfl, below_alloc hb⟩
  · rw [opF_bad h0]
    obtain ⟨F, hF⟩ : ∃ F, F = evF ⟨k, a, v⟩ := ⟨_, rfl⟩
    rw [← hF] at h0 IM ⊢
    have f0 : (F != 0) = true := bne_iff_ne.2 h0
    have f1 : (F == 0) = false := beq_eq_false_iff_ne.2 h0
    clear h0 hF kb
    go_enter Try.func27, Try.ntmps27
    go_wp2_with fail
    refine (IM.out _).mono ?_
    rintro e w1 ⟨rfl, hb⟩
    go_wp2
    go_ret
    exact ⟨rfl, below_alloc hb⟩


set_option maxRecDepth 100000 in
set_option maxHeartbeats 800000 in
theorem implPgF_any (t : List (List Ev)) (A : Option Addr) (c : Nat) (w : World) (hm : t.length ≤ maxLen) (h : RdT w w.heap.size A t) :
    Calls Try.prog 36 #[.slice A t.length c] w fun e w' => e = .returned (.int .i64 (pgF t)) ∧ Below w.heap.size w w' := by
  unfold maxLen at hm
  by_cases h4 : 1 ≤ t.length ∧ t.length ≤ 4
  · have HF := hide (show pgF t = prsF t from if_pos h4)
    have h4' : 1 ≤ (t.length : Int) ∧ (t.length : Int) ≤ 4 := by omega
    obtain ⟨h41, h42⟩ := h4
    go_enter Try.func36, Try.ntmps36
    go_wp2_with fail
    refine (allWithin_one _ _ _ _ _ _ (by simp [go_sem]) h4').mono ?_
    rintro e w' ⟨rfl, rfl⟩
    clear h4'
    go_wp2
    go_loopw [15] (fun i wr => ∃ k : Nat, k ≤ t.length ∧ i = .int .i64 k ∧ Below w.heap.size w wr ∧ Hid (prsF t = prsF (t.drop k))) (fun i _ => t.length - (intOf i).toNat)
    case atStart => exact ⟨0, Nat.zero_le _, rfl, (Below.refl _ _).alloc (Nat.le_refl _) _, hide rfl⟩
    case round =>
      obtain ⟨k, hk, rfl, hb, HR⟩ := hrel
      by_cases hlt : k < t.length
      · obtain ⟨b, off, a, d, rfl, hbb, hcw, hle, hcm, hrw⟩ := h.get hlt
        have hc0 := (hb.cell (p := ⟨b, off + k, none⟩) hbb).trans hcw
        have HRW := hide hrw
        clear hrw hcw
        have hd := prsF_drop t k hlt
        by_cases h8 : t[k].length ≤ 8
        · have HP := hide (show prF t[k] = opsF t[k] from if_pos h8)
          have HD := hide hd
          clear hd
          go_wp2
          clear hc0
          go_loopw [24] (fun i w2 => ∃ j : Nat, j ≤ t[k].length ∧ i = .int .i64 j ∧ Below w.heap.size w w2 ∧ Hid (opsF t[k] = opsF (t[k].drop j))) (fun i _ => t[k].length - (intOf i).toNat)
          case atStart => exact ⟨0, Nat.zero_le _, rfl, hb, hide rfl⟩
          case round =>
            obtain ⟨j, hj, rfl, hb2, HS⟩ := hrel
            by_cases hl2 : j < t[k].length
            · obtain ⟨b3, off3, rfl, _, e0, e1, e2⟩ := (HRW.out.below hb2).get hl2
              have hd2 := opsF_drop t[k] j hl2
              have IM := hide (fun W => implOpF_any t[k][j].k t[k][j].a t[k][j].v W)
              by_cases h0 : opF t[k][j] = 0
              · rw [if_pos h0] at hd2
                rw [show opF ⟨t[k][j].k, t[k][j].a, t[k][j].v⟩ = 0 from h0] at IM
                have HD2 := hide hd2
                clear hd2 h0
                go_wp2_with fail
                refine (IM.out _).mono ?_
                rintro e w3 ⟨rfl, hb3⟩
                have hb4 := hb2.trans ((below_alloc hb3).mono hb2.size)
                go_wp2
                go_roundw
                case rel => exact ⟨j + 1, by omega, by go_num, hb4, hide (HS.out.trans HD2.out)⟩
                case measure => simp [intOf]; omega
              · rw [if_neg h0] at hd2
                have hp : prF t[k] = opF t[k][j] := by rw [HP.out, HS.out, hd2]
                obtain ⟨F, hF⟩ : ∃ F, F = opF t[k][j] := ⟨_, rfl⟩
                have hD3 := HD.out
                rw [hp, if_neg h0] at hD3
                rw [← hF] at h0 hD3
                rw [show opF ⟨t[k][j].k, t[k][j].a, t[k][j].v⟩ = F from hF.symm] at IM
                have f0 : (F != 0) = true := bne_iff_ne.2 h0
                have f1 : (F == 0) = false := beq_eq_false_iff_ne.2 h0
                have HD3 := hide hD3
                clear hd2 h0 hF hp hD3
                go_wp2_with fail
                refine (IM.out _).mono ?_
                rintro e w3 ⟨rfl, hb3⟩
                have hb4 := hb2.trans ((below_alloc hb3).mono hb2.size)
                go_wp2
                go_ret
                exact ⟨ret_int (by rw [HF.out, HR.out, HD3.out]), hb4⟩
            · have hp : prF t[k] = 0 := by rw [HP.out, HS.out, List.drop_eq_nil_of_le (by omega)]; rfl
              have hD3 := HD.out
              rw [if_pos hp] at hD3
              have HD3 := hide hD3
              clear hp hD3
              go_wp2
              go_roundw
              case rel => exact ⟨k + 1, by omega, by go_num, hb2, hide (HR.out.trans HD3.out)⟩
              case measure => simp [intOf]; omega
        · have hp : prF t[k] = 2 := if_neg h8
          rw [hp, if_neg (by omega)] at hd
          have HD := hide hd
          clear hd hp
          go_wp2
          go_ret
          exact ⟨ret_int (by rw [HF.out, HR.out, HD.out]), hb⟩
      · have hd : prsF (t.drop k) = 0 := by rw [List.drop_eq_nil_of_le (by omega)]; rfl
        have HD := hide hd
        clear hd
        go_wp2
        go_ret
        exact ⟨ret_int (by rw [HF.out, HR.out, HD.out]), hb⟩
  · rw [show pgF t = 2 from if_neg h4]
    have h4' : (t.length : Int) < 1 ∨ 4 < (t.length : Int) := by omega
    clear h4
    go_enter Try.func36, Try.ntmps36
    go_wp2_with fail
    refine (allWithin_not _ _ _ _ _ _ (by simp [go_sem]) h4').mono ?_
    rintro e w' ⟨rfl, rfl⟩
    go_wp2
    go_ret
    exact ⟨rfl, by go_grown⟩
end Go.Proofs.Ytifijhfeeammkaa
