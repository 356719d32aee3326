/- Contracts of OpFault and ProgramsFault, in the program. Contracts of a memory's value at an address, and of its fault, in the program. Contracts of a line's fault and of a machine's sizes, in the program. Contracts of slices.Grow and slices.Concat at lines, in the program. Contracts of holdersOf and linesAgree, in the program. The contract of MachineFault, in the program. The contract of ValueAt, in the program. Contracts of SameMachines in the program, and of what it calls of Go's library. -/
import Derived.Test.YtifijhfeeammkaaGMsf
import Derived.Test.YtifijhfeeammkaaGLine
import Derived.Test.YtifijhfeeammkaaGApp
import Derived.Lib.AppendZeros
import Derived.Lib.Hide
import Derived.Test.YtifijhfeeammkaaGMsi
import Derived.Deep.RegionHeld3
import Derived.Deep.DeepCutAuto
import Derived.Test.YtifijhfeeammkaaSameM
import Derived.Test.YtifijhfeeammkaaGSS
namespace Go.Proofs.Ytifijhfeeammkaa
open Go.RowKit

theorem implOpF_any (k a v : Int) (w : World) :
    Calls Try.prog 27 #[evV k a v] w fun e w' => e = .returned (.int .i64 (opF ⟨k, a, v⟩)) ∧ Below w.heap.size w w' := by
  have kb := Bk.new w #[.int .i64 k, .int .i64 a, .int .i64 v] 29
  have IM := hide (fun W => implEvF_any k a v W)
  by_cases h0 : evF ⟨k, a, v⟩ = 0
  · rw [h0] at IM
    have hk := (evF_zero h0).1
    simp only at hk
    by_cases h1 : k = 1
    · rw [opF_ok h0 (.inl h1)]
      subst h1
      clear hk h0
      go_enter Try.func27, Try.ntmps27
      go_wp2_with fail
      refine (IM.out _).mono ?_
      rintro e w1 ⟨rfl, hb⟩
      have q0 := (kb.kept hb).cell 0
      simp at q0
      clear kb
      go_wp2
      go_ret
      exact ⟨rfl, below_alloc hb⟩
    · obtain rfl : k = 0 := by omega
      by_cases hv : v = 0
      · rw [opF_ok h0 (.inr hv)]
        subst hv
        clear hk h0 h1
        go_enter Try.func27, Try.ntmps27
        go_wp2_with fail
        refine (IM.out _).mono ?_
        rintro e w1 ⟨rfl, hb⟩
        have q0 := (kb.kept hb).cell 0
        have q2 := (kb.kept hb).cell 2
        simp at q0 q2
        clear kb
        go_wp2
        go_ret
        exact ⟨rfl, below_alloc hb⟩
      · rw [opF_form h0 rfl hv]
        have f0 : (v == 0) = false := beq_eq_false_iff_ne.2 hv
        clear hk h0 h1
        go_enter Try.func27, Try.ntmps27
        go_wp2_with fail
        refine (IM.out _).mono ?_
        rintro e w1 ⟨rfl, hb⟩
        have q0 := (kb.kept hb).cell 0
        have q2 := (kb.kept hb).cell 2
        simp at q0 q2
        clear kb
        go_wp2
        go_ret
        exact ⟨rfl, below_alloc hb⟩
  · rw [opF_bad h0]
    obtain ⟨F, hF⟩ : ∃ F, F = evF ⟨k, a, v⟩ := ⟨_, rfl⟩
    rw [← hF] at h0 IM ⊢
    have f0 : (F != 0) = true := bne_iff_ne.2 h0
    have f1 : (F == 0) = false := beq_eq_false_iff_ne.2 h0
    clear h0 hF kb
    go_enter Try.func27, Try.ntmps27
    go_wp2_with fail
    refine (IM.out _).mono ?_
    rintro e w1 ⟨rfl, hb⟩
    go_wp2
    go_ret
    exact ⟨rfl, below_alloc hb⟩


set_option maxRecDepth 100000 in
set_option maxHeartbeats 800000 in
theorem implPgF_any (t : List (List Ev)) (A : Option Addr) (c : Nat) (w : World) (hm : t.length ≤ maxLen) (h : RdT w w.heap.size A t) :
    Calls Try.prog 36 #[.slice A t.length c] w fun e w' => e = .returned (.int .i64 (pgF t)) ∧ Below w.heap.size w w' := by
  unfold maxLen at hm
  by_cases h4 : 1 ≤ t.length ∧ t.length ≤ 4
  · have HF := hide (show pgF t = prsF t from if_pos h4)
    have h4' : 1 ≤ (t.length : Int) ∧ (t.length : Int) ≤ 4 := by omega
    obtain ⟨h41, h42⟩ := h4
    go_enter Try.func36, Try.ntmps36
    go_wp2_with fail
    refine (allWithin_one _ _ _ _ _ _ (by simp [go_sem]) h4').mono ?_
    rintro e w' ⟨rfl, rfl⟩
    clear h4'
    go_wp2
    go_loopw [15] (fun i wr => ∃ k : Nat, k ≤ t.length ∧ i = .int .i64 k ∧ Below w.heap.size w wr ∧ Hid (prsF t = prsF (t.drop k))) (fun i _ => t.length - (intOf i).toNat)
    case atStart => exact ⟨0, Nat.zero_le _, rfl, (Below.refl _ _).alloc (Nat.le_refl _) _, hide rfl⟩
    case round =>
      obtain ⟨k, hk, rfl, hb, HR⟩ := hrel
      by_cases hlt : k < t.length
      · obtain ⟨b, off, a, d, rfl, hbb, hcw, hle, hcm, hrw⟩ := h.get hlt
        have hc0 := (hb.cell (p := ⟨b, off + k, none⟩) hbb).trans hcw
        have HRW := hide hrw
        clear hrw hcw
        have hd := prsF_drop t k hlt
        by_cases h8 : t[k].length ≤ 8
        · have HP := hide (show prF t[k] = opsF t[k] from if_pos h8)
          have HD := hide hd
          clear hd
          go_wp2
          clear hc0
          go_loopw [24] (fun i w2 => ∃ j : Nat, j ≤ t[k].length ∧ i = .int .i64 j ∧ Below w.heap.size w w2 ∧ Hid (opsF t[k] = opsF (t[k].drop j))) (fun i _ => t[k].length - (intOf i).toNat)
          case atStart => exact ⟨0, Nat.zero_le _, rfl, hb, hide rfl⟩
          case round =>
            obtain ⟨j, hj, rfl, hb2, HS⟩ := hrel
            by_cases hl2 : j < t[k].length
            · obtain ⟨b3, off3, rfl, _, e0, e1, e2⟩ := (HRW.out.below hb2).get hl2
              have hd2 := opsF_drop t[k] j hl2
              have IM := hide (fun W => implOpF_any t[k][j].k t[k][j].a t[k][j].v W)
              by_cases h0 : opF t[k][j] = 0
              · rw [if_pos h0] at hd2
                rw [show opF ⟨t[k][j].k, t[k][j].a, t[k][j].v⟩ = 0 from h0] at IM
                have HD2 := hide hd2
                clear hd2 h0
                go_wp2_with fail
                refine (IM.out _).mono ?_
                rintro e w3 ⟨rfl, hb3⟩
                have hb4 := hb2.trans ((below_alloc hb3).mono hb2.size)
                go_wp2
                go_roundw
                case rel => exact ⟨j + 1, by omega, by go_num, hb4, hide (HS.out.trans HD2.out)⟩
                case measure => simp [intOf]; omega
              · rw [if_neg h0] at hd2
                have hp : prF t[k] = opF t[k][j] := by rw [HP.out, HS.out, hd2]
                obtain ⟨F, hF⟩ : ∃ F, F = opF t[k][j] := ⟨_, rfl⟩
                have hD3 := HD.out
                rw [hp, if_neg h0] at hD3
                rw [← hF] at h0 hD3
                rw [show opF ⟨t[k][j].k, t[k][j].a, t[k][j].v⟩ = F from hF.symm] at IM
                have f0 : (F != 0) = true := bne_iff_ne.2 h0
                have f1 : (F == 0) = false := beq_eq_false_iff_ne.2 h0
                have HD3 := hide hD3
                clear hd2 h0 hF hp hD3
                go_wp2_with fail
                refine (IM.out _).mono ?_
                rintro e w3 ⟨rfl, hb3⟩
                have hb4 := hb2.trans ((below_alloc hb3).mono hb2.size)
                go_wp2
                go_ret
                exact ⟨ret_int (by rw [HF.out, HR.out, HD3.out]), hb4⟩
            · have hp : prF t[k] = 0 := by rw [HP.out, HS.out, List.drop_eq_nil_of_le (by omega)]; rfl
              have hD3 := HD.out
              rw [if_pos hp] at hD3
              have HD3 := hide hD3
              clear hp hD3
              go_wp2
              go_roundw
              case rel => exact ⟨k + 1, by omega, by go_num, hb2, hide (HR.out.trans HD3.out)⟩
              case measure => simp [intOf]; omega
        · have hp : prF t[k] = 2 := if_neg h8
          rw [hp, if_neg (by omega)] at hd
          have HD := hide hd
          clear hd hp
          go_wp2
          go_ret
          exact ⟨ret_int (by rw [HF.out, HR.out, HD.out]), hb⟩
      · have hd : prsF (t.drop k) = 0 := by rw [List.drop_eq_nil_of_le (by omega)]; rfl
        have HD := hide hd
        clear hd
        go_wp2
        go_ret
        exact ⟨ret_int (by rw [HF.out, HR.out, HD.out]), hb⟩
  · rw [show pgF t = 2 from if_neg h4]
    have h4' : (t.length : Int) < 1 ∨ 4 < (t.length : Int) := by omega
    clear h4
    go_enter Try.func36, Try.ntmps36
    go_wp2_with fail
    refine (allWithin_not _ _ _ _ _ _ (by simp [go_sem]) h4').mono ?_
    rintro e w' ⟨rfl, rfl⟩
    go_wp2
    go_ret
    exact ⟨rfl, by go_grown⟩
end Go.Proofs.Ytifijhfeeammkaa
namespace Go.Proofs.Ytifijhfeeammkaa
open Go.RowKit

set_option maxRecDepth 100000 in
theorem valueAt_any (l : List Cel) (A : Option Addr) (c : Nat) (a : Int) (w : World) (hm : l.length ≤ maxLen) (h : RdC w w.heap.size A l) :
    Calls Try.prog 73 #[.slice A l.length c, .int .i64 a] w fun e w' => e = .returned (.int .i64 (readM l a)) ∧ Below w.heap.size w w' := by
  unfold maxLen at hm
  go_enter Try.func73, Try.ntmps73
  go_wp2
  go_loopw [9] (fun i wr => ∃ k : Nat, k ≤ l.length ∧ i = .int .i64 k ∧ Below w.heap.size w wr ∧ Hid (readM l a = readM (l.drop k) a)) (fun i _ => l.length - (intOf i).toNat)
  case atStart => exact ⟨0, Nat.zero_le _, rfl, Below.refl _ _, hide rfl⟩
  case round =>
    obtain ⟨k, hk, rfl, hb, HR⟩ := hrel
    by_cases hlt : k < l.length
    · obtain ⟨b, off, rfl, hbb, hc0, hc1⟩ := (h.below hb).get hlt
      have hd := read_drop l k hlt a
      by_cases he : l[k].a = a
      · rw [if_pos he] at hd
        have HD := hide hd
        have f0 : (l[k].a == a) = true := beq_iff_eq.2 he
        clear hd he
        go_wp2
        go_ret
        exact ⟨ret_int (by rw [HR.out, HD.out]), hb.alloc hb.size _⟩
      · rw [if_neg he] at hd
        have HD := hide hd
        have f0 : (l[k].a == a) = false := beq_eq_false_iff_ne.2 he
        clear hd he
        go_wp2
        go_roundw
        case rel => exact ⟨k + 1, by omega, by go_num, hb.alloc hb.size _, hide (HR.out.trans HD.out)⟩
        case measure => simp [intOf]; omega
    · have hd : readM (l.drop k) a = 0 := by rw [List.drop_eq_nil_of_le (by omega)]; rfl
      have HD := hide hd
      clear hd
      go_wp2
      go_ret
      exact ⟨ret_int (by rw [HR.out, HD.out]), hb⟩

set_option maxRecDepth 100000 in
set_option maxHeartbeats 800000 in
theorem cellsFault_any (l : List Cel) (A : Option Addr) (c : Nat) (w : World) (hm : l.length ≤ maxLen) (h : RdC w w.heap.size A l) :
    Calls Try.prog 83 #[.slice A l.length c] w fun e w' => e = .returned (.int .i64 (cellsF l)) ∧ Below w.heap.size w w' := by
  unfold maxLen at hm
  go_enter Try.func83, Try.ntmps83
  go_wp2
  go_loopw [8] (fun i wr => ∃ k : Nat, k ≤ l.length ∧ i = .int .i64 k ∧ Below w.heap.size w wr ∧ Hid (allC l = allC (l.drop k))) (fun i _ => l.length - (intOf i).toNat)
  case atStart => exact ⟨0, Nat.zero_le _, rfl, Below.refl _ _, hide rfl⟩
  case round =>
    obtain ⟨k, hk, rfl, hb, HR⟩ := hrel
    by_cases hlt : k < l.length
    · obtain ⟨b, off, rfl, hbb, hc0, hc1⟩ := (h.below hb).get hlt
      have hd := allC_drop l k hlt
      by_cases h1 : 0 ≤ l[k].a ∧ l[k].a ≤ 999999
      · by_cases h2 : 1 ≤ l[k].v ∧ l[k].v ≤ 999999
        · rw [decide_eq_true (show celOk l[k] from ⟨h1.1, h1.2, h2.1, h2.2⟩), Bool.true_and] at hd
          have HD := hide hd
          clear hd
          have hbx := fun o1 o2 o3 => ((hb.alloc hb.size o1).alloc (by have := hb.size; simp; omega) o2).alloc (by have := hb.size; simp; omega) o3
          have HB := hide hbx
          clear hbx
          go_wp2_with fail
          refine (allWithin_one _ _ _ _ _ _ (by simp [go_sem]) h1).mono ?_
          rintro e w1 ⟨rfl, rfl⟩
          go_wp2_with fail
          refine (allWithin_one _ _ _ _ _ _ (by simp [go_sem]) h2).mono ?_
          rintro e w1 ⟨rfl, rfl⟩
          go_wp2
          go_roundw
          case rel => exact ⟨k + 1, by omega, by go_num, HB.out _ _ _, hide (HR.out.trans HD.out)⟩
          case measure => simp [intOf]; omega
        · rw [decide_eq_false (show ¬ celOk l[k] from fun hc => h2 ⟨hc.2.2.1, hc.2.2.2⟩), Bool.false_and] at hd
          have h2' : l[k].v < 1 ∨ 999999 < l[k].v := by omega
          have HD := hide hd
          clear hd h2
          have hbx := fun o1 o2 o3 => ((hb.alloc hb.size o1).alloc (by have := hb.size; simp; omega) o2).alloc (by have := hb.size; simp; omega) o3
          have HB := hide hbx
          clear hbx
          go_wp2_with fail
          refine (allWithin_one _ _ _ _ _ _ (by simp [go_sem]) h1).mono ?_
          rintro e w1 ⟨rfl, rfl⟩
          go_wp2_with fail
          refine (allWithin_not _ _ _ _ _ _ (by simp [go_sem]) h2').mono ?_
          rintro e w1 ⟨rfl, rfl⟩
          go_wp2
          go_ret
          exact ⟨ret_int (by rw [cellsF_range (HR.out.trans HD.out)]), HB.out _ _ _⟩
      · rw [decide_eq_false (show ¬ celOk l[k] from fun hc => h1 ⟨hc.1, hc.2.1⟩), Bool.false_and] at hd
        have h1' : l[k].a < 0 ∨ 999999 < l[k].a := by omega
        have HD := hide hd
        clear hd h1
        have hbx := fun o1 o2 => (hb.alloc hb.size o1).alloc (by have := hb.size; simp; omega) o2
        have HB := hide hbx
        clear hbx
        go_wp2_with fail
        refine (allWithin_not _ _ _ _ _ _ (by simp [go_sem]) h1').mono ?_
        rintro e w1 ⟨rfl, rfl⟩
        go_wp2
        go_ret
        exact ⟨ret_int (by rw [cellsF_range (HR.out.trans HD.out)]), HB.out _ _⟩
    · have ha : allC l = true := by rw [HR.out, List.drop_eq_nil_of_le (by omega)]; rfl
      have HA := hide ha
      clear ha HR
      go_wp2
      go_loopw [28] (fun i w2 => ∃ k : Nat, k ≤ l.length ∧ i = .int .i64 k ∧ Below w.heap.size w w2 ∧ Hid (rise l = rise (l.drop k))) (fun i _ => l.length - (intOf i).toNat)
      case atStart => exact ⟨0, Nat.zero_le _, rfl, hb, hide rfl⟩
      case round =>
        clear hb
        obtain ⟨k, hk, rfl, hb, HR⟩ := hrel
        by_cases hlt : k + 1 < l.length
        · obtain ⟨b, off, rfl, hbb, hc0, hc1⟩ := (h.below hb).get hlt
          obtain ⟨b', off', hA, hbb', hd0, hd1⟩ := (h.below hb).get (i := k) (by omega)
          cases hA
          have hd := rise_drop l k hlt
          by_cases he : l[k].a < l[k + 1].a
          · rw [decide_eq_true he, Bool.true_and] at hd
            have HD := hide hd
            clear hd
            go_wp2
            go_quiet (fail)
            go_wp2
            go_roundw
            case rel => exact ⟨k + 1, by omega, by go_num, below_drewN hb _, hide (HR.out.trans HD.out)⟩
            case measure => simp [intOf]; omega
          · rw [decide_eq_false he, Bool.false_and] at hd
            have HD := hide hd
            have he' : l[k + 1].a ≤ l[k].a := by omega
            clear hd he
            go_wp2
            go_quiet (fail)
            go_wp2
            go_ret
            exact ⟨ret_int (by rw [cellsF_form HA.out (HR.out.trans HD.out)]), below_drewN hb _⟩
        · have HD := hide (rise_end l k hlt)
          go_wp2
          go_ret
          exact ⟨ret_int (by rw [cellsF_ok HA.out (HR.out.trans HD.out)]), hb⟩
end Go.Proofs.Ytifijhfeeammkaa
namespace Go.Proofs.Ytifijhfeeammkaa
open Go.RowKit

set_option maxRecDepth 100000 in
set_option maxHeartbeats 800000 in
theorem lineFault_any (s a v : Int) (k L : Nat) (w : World) (hL : 1 ≤ L ∧ L ≤ 1000) :
    Calls Try.prog 84 #[evV s a v, .int .i64 k, .int .i64 L] w fun e w' => e = .returned (.int .i64 (lineF L k ⟨s, a, v⟩)) ∧ Below w.heap.size w w' := by
  obtain ⟨hL1, hL2⟩ := hL
  by_cases hs : 0 ≤ s ∧ s ≤ 2
  · by_cases hz : s = 0
    · by_cases h0 : a = 0 ∧ v = 0
      · rw [show lineF L k ⟨s, a, v⟩ = 0 by rw [hz, h0.1, h0.2]; exact lineF_Z L k]
        obtain ⟨rfl, rfl⟩ := h0
        subst hz
        go_enter Try.func84, Try.ntmps84
        go_wp2
        go_ret
        exact ⟨rfl, by go_grown⟩
      · rw [lineF_z hz h0]
        subst hz
        by_cases ha : a = 0
        · have hv : ¬ v = 0 := fun e => h0 ⟨ha, e⟩
          have f0 : (v == 0) = false := beq_eq_false_iff_ne.2 hv
          subst ha
          clear h0 hv hs
          go_enter Try.func84, Try.ntmps84
          go_wp2
          go_ret
          exact ⟨rfl, by go_grown⟩
        · have f0 : (a == 0) = false := beq_eq_false_iff_ne.2 ha
          clear h0 ha hs
          go_enter Try.func84, Try.ntmps84
          go_wp2
          go_ret
          exact ⟨rfl, by go_grown⟩
    · have hs12 : s = 1 ∨ s = 2 := by omega
      by_cases ha : 0 ≤ a ∧ a ≤ 999999
      · by_cases hv : 0 ≤ v ∧ v ≤ 999999
        · have ht : a.tmod (L : Int) = a % (L : Int) := Int.tmod_eq_emod_of_nonneg ha.1
          have hr0 := Int.emod_nonneg a (show (L : Int) ≠ 0 by omega)
          have hr1 := Int.emod_lt_of_pos a (show (0 : Int) < (L : Int) by omega)
          by_cases hp : a % (L : Int) = (k : Int)
          · rw [lineF_o hs hz ⟨ha.1, ha.2, hv.1, hv.2⟩ hp]
            rw [hp] at ht hr0 hr1
            clear hp hz hs
            rcases hs12 with rfl | rfl
            all_goals
              go_enter Try.func84, Try.ntmps84
              go_wp2_with fail
              refine (allWithin_one _ _ _ _ _ _ (by simp [go_sem]) ha).mono ?_
              rintro e w1 ⟨rfl, rfl⟩
              go_wp2_with fail
              refine (allWithin_one _ _ _ _ _ _ (by simp [go_sem]) hv).mono ?_
              rintro e w1 ⟨rfl, rfl⟩
              go_wp2
              go_ret
              exact ⟨rfl, by go_grown⟩
          · rw [lineF_p hs hz ⟨ha.1, ha.2, hv.1, hv.2⟩ hp]
            obtain ⟨r, hr⟩ : ∃ r, r = a % (L : Int) := ⟨_, rfl⟩
            rw [← hr] at hp ht hr0 hr1
            have g0 : (r == (k : Int)) = false := beq_eq_false_iff_ne.2 hp
            have g1 : (r != (k : Int)) = true := bne_iff_ne.2 hp
            clear hp hz hr hs
            rcases hs12 with rfl | rfl
            all_goals
              go_enter Try.func84, Try.ntmps84
              go_wp2_with fail
              refine (allWithin_one _ _ _ _ _ _ (by simp [go_sem]) ha).mono ?_
              rintro e w1 ⟨rfl, rfl⟩
              go_wp2_with fail
              refine (allWithin_one _ _ _ _ _ _ (by simp [go_sem]) hv).mono ?_
              rintro e w1 ⟨rfl, rfl⟩
              go_wp2
              go_ret
              exact ⟨rfl, by go_grown⟩
        · rw [lineF_r hs hz (fun hh => hv ⟨hh.2.2.1, hh.2.2.2⟩)]
          have hv' : v < 0 ∨ 999999 < v := by omega
          clear hv hz hs
          rcases hs12 with rfl | rfl
          all_goals
            go_enter Try.func84, Try.ntmps84
            go_wp2_with fail
            refine (allWithin_one _ _ _ _ _ _ (by simp [go_sem]) ha).mono ?_
            rintro e w1 ⟨rfl, rfl⟩
            go_wp2_with fail
            refine (allWithin_not _ _ _ _ _ _ (by simp [go_sem]) hv').mono ?_
            rintro e w1 ⟨rfl, rfl⟩
            go_wp2
            go_ret
            exact ⟨rfl, by go_grown⟩
      · rw [lineF_r hs hz (fun hh => ha ⟨hh.1, hh.2.1⟩)]
        have ha' : a < 0 ∨ 999999 < a := by omega
        clear ha hz hs
        rcases hs12 with rfl | rfl
        all_goals
          go_enter Try.func84, Try.ntmps84
          go_wp2_with fail
          refine (allWithin_not _ _ _ _ _ _ (by simp [go_sem]) ha').mono ?_
          rintro e w1 ⟨rfl, rfl⟩
          go_wp2
          go_ret
          exact ⟨rfl, by go_grown⟩
  · rw [lineF_k hs]
    have f0 : (s == 0) = false := beq_eq_false_iff_ne.2 (by omega)
    have f1 : (s == 1) = false := beq_eq_false_iff_ne.2 (by omega)
    have f2 : (s == 2) = false := beq_eq_false_iff_ne.2 (by omega)
    have f3 : (s != 1) = true := bne_iff_ne.2 (by omega)
    have f4 : (s != 2) = true := bne_iff_ne.2 (by omega)
    clear hs
    go_enter Try.func84, Try.ntmps84
    go_wp2
    go_ret
    exact ⟨rfl, by go_grown⟩

set_option maxRecDepth 100000 in
set_option maxHeartbeats 800000 in
theorem sizesHold_any (m : Mac) (A A' : Option Addr) (c c' : Nat) (w : World) (h1 : m.cs.length ≤ maxLen) (h2 : m.mem.length ≤ maxLen) (h : RdMac w w.heap.size A A' m) :
    Calls Try.prog 82 #[macV A m.cs.length c A' m.mem.length c'] w fun e w' => e = .returned (.bool (sizB m)) ∧ Below w.heap.size w w' := by
  unfold maxLen at h1 h2
  by_cases hn : 1 ≤ (m.cs.length : Int) ∧ (m.cs.length : Int) ≤ 4
  · obtain ⟨hn1, hn2⟩ := hn
    have hpos : 0 < m.cs.length := by omega
    have kb := Bk.new w #[.slice A m.cs.length c, .slice A' m.mem.length c'] 27
    have hb0 := (Below.refl w.heap.size w).alloc (Nat.le_refl _) (Obj.cells #[.slice A m.cs.length c, .slice A' m.mem.length c'] 27)
    have hbx := fun o => hb0.alloc hb0.size o
    have kx := fun o => kb.below ((Below.refl _ _).alloc (Nat.le_refl _) o) kb.lt
    have HB := hide hbx
    have HK := hide kx
    clear hbx kx kb hb0
    go_enter Try.func82, Try.ntmps82
    go_wp2_with fail
    refine (allWithin_one _ _ _ _ _ _ (by simp [go_sem]) ⟨hn1, hn2⟩).mono ?_
    rintro e w1 ⟨rfl, rfl⟩
    go_wp2
    go_loopw [14] (fun i wr => ∃ k : Nat, k ≤ m.cs.length ∧ i = .int .i64 k ∧ Below w.heap.size w wr ∧ Bk wr w.heap.size #[.slice A m.cs.length c, .slice A' m.mem.length c'] 27 ∧ Hid (∀ i (hi : i < m.cs.length), i < k → m.cs[i].length = m.cs[0].length)) (fun i _ => m.cs.length - (intOf i).toNat)
    case atStart => exact ⟨0, Nat.zero_le _, rfl, HB.out _, HK.out _, hide fun _ _ h => by omega⟩
    case round =>
      obtain ⟨k, hk, rfl, hb, kb, HR⟩ := hrel
      have x0 := kb.cell 0
      have x1 := kb.cell 1
      simp at x0 x1
      obtain ⟨b0, off0, a0, d0, hA, _, hc0, hle0, hcm0, _⟩ := (h.cs.below hb).get hpos
      subst hA
      simp at hc0
      by_cases hlt : k < m.cs.length
      · obtain ⟨b, off, a, d, hA, _, hc1, hle, hcm, _⟩ := (h.cs.below hb).get hlt
        cases hA
        unfold maxLen at hcm hcm0
        by_cases he : m.cs[k].length = m.cs[0].length
        · rw [he] at hc1 hle
          have HE := hide (show ∀ i (hi : i < m.cs.length), i < k + 1 → m.cs[i].length = m.cs[0].length from fun i hi hik => by
            by_cases e : i = k
            · subst e; exact he
            · exact HR.out i hi (by omega))
          clear he
          go_wp2
          go_roundw
          case rel => exact ⟨k + 1, by omega, by go_num, hb, kb, HE⟩
          case measure => simp [intOf]; omega
        · have hno : ¬ Siz m := fun hs => he (by
            have e1 := hs.2.2.1 _ (List.getElem_mem hlt)
            have e2 := hs.2.2.1 _ (List.getElem_mem hpos)
            rw [e1, e2])
          have HS := hide (sizB_no hno)
          obtain ⟨R, hR⟩ : ∃ R, R = m.cs[k].length := ⟨_, rfl⟩
          obtain ⟨S, hS⟩ : ∃ S, S = m.cs[0].length := ⟨_, rfl⟩
          rw [← hR] at hc1 he hle
          rw [← hS] at hc0 he hle0
          have f1 : ((R : Int) != (S : Int)) = true := bne_iff_ne.2 (by omega)
          have f0 : ((R : Int) == (S : Int)) = false := beq_eq_false_iff_ne.2 (by omega)
          clear hno he hR hS HR
          go_wp2
          go_ret
          exact ⟨ret_bool (by rw [HS.out]), hb⟩
      · have hrow : ∀ l ∈ m.cs, l.length = (m.cs.getD 0 []).length := fun l hl => by
          obtain ⟨i, hi, rfl⟩ := List.getElem_of_mem hl
          rw [getD0 hpos]
          exact HR.out i hi (by omega)
        by_cases hL : 1 ≤ (m.cs[0].length : Int) ∧ (m.cs[0].length : Int) ≤ 4
        · by_cases hM : m.mem.length ≤ 32
          · have HS := hide (sizB_yes (show Siz m from ⟨by omega, hM, hrow, by rw [getD0 hpos]; omega⟩))
            have HB2 := hide (fun o => hb.alloc (by have := hb.size; omega) o)
            have y1 := fun o => (kb.below ((Below.refl _ _).alloc (Nat.le_refl _) o) kb.lt).cell 1
            simp at y1
            clear HR hrow x1
            have y1' := y1
            go_wp2_with fail
            refine (allWithin_one _ _ _ _ _ _ (by simp [go_sem]) hL).mono ?_
            rintro e w1 ⟨rfl, rfl⟩
            have z1 := y1 (Obj.cells #[.int .i64 m.cs[0].length] 2)
            go_wp2
            go_ret
            exact ⟨ret_bool (by rw [HS.out]; first | rfl | (simp; omega)), HB2.out _⟩
          · have HS := hide (sizB_no (show ¬ Siz m from fun hs => hM hs.2.1))
            have hM' : 32 < m.mem.length := by omega
            have HB2 := hide (fun o => hb.alloc (by have := hb.size; omega) o)
            have y1 := fun o => (kb.below ((Below.refl _ _).alloc (Nat.le_refl _) o) kb.lt).cell 1
            simp at y1
            clear HR hrow x1 hM
            go_wp2_with fail
            refine (allWithin_one _ _ _ _ _ _ (by simp [go_sem]) hL).mono ?_
            rintro e w1 ⟨rfl, rfl⟩
            have z1 := y1 (Obj.cells #[.int .i64 m.cs[0].length] 2)
            go_wp2
            go_ret
            exact ⟨ret_bool (by rw [HS.out]; first | rfl | (simp; omega)), HB2.out _⟩
        · have HS := hide (sizB_no (show ¬ Siz m from fun hs => hL (by have := hs.2.2.2; rw [getD0 hpos] at this; omega)))
          have hL' : (m.cs[0].length : Int) < 1 ∨ 4 < (m.cs[0].length : Int) := by omega
          have HB2 := hide (fun o => hb.alloc (by have := hb.size; omega) o)
          clear HR hrow hL
          go_wp2_with fail
          refine (allWithin_not _ _ _ _ _ _ (by simp [go_sem]) hL').mono ?_
          rintro e w1 ⟨rfl, rfl⟩
          go_wp2
          go_ret
          exact ⟨ret_bool (by rw [HS.out]), HB2.out _⟩
  · rw [sizB_no (show ¬ Siz m from fun hs => hn (by have := hs.1; omega))]
    have hn' : (m.cs.length : Int) < 1 ∨ 4 < (m.cs.length : Int) := by omega
    clear hn
    go_enter Try.func82, Try.ntmps82
    go_wp2_with fail
    refine (allWithin_not _ _ _ _ _ _ (by simp [go_sem]) hn').mono ?_
    rintro e w1 ⟨rfl, rfl⟩
    go_wp2
    go_ret
    exact ⟨rfl, by go_grown⟩
end Go.Proofs.Ytifijhfeeammkaa
namespace Go.Proofs.Ytifijhfeeammkaa
open Go.RowKit

set_option maxRecDepth 100000 in
theorem growL_any (N : Nat) (w : World) (hN : N ≤ 1000000) :
    Calls Try.prog 122 #[.slice none 0 0, .int .i64 N] w fun e w' => ∃ v, e = .returned v ∧ w'.ownsRow w.heap.size 115 3 v 0 [] ∧ Below w.heap.size w w' := by
  obtain ⟨i0, hi, hz0, hz1, hz2⟩ := info_parts info_line
  by_cases h0 : N = 0
  · subst h0
    go_enter Try.func122, Try.ntmps122
    go_wp2
    go_ret
    exact ⟨_, rfl, ⟨rfl, .inl ⟨rfl, rfl⟩⟩, Below.refl _ _⟩
  · have hr := fun ty => Go.Lib.run_append_nil_zeros w 112 3 ty 115 i0 (.agg #[.int .i64 0, .int .i64 0, .int .i64 0]) .i64 .i64 Try.underlying112 Try.underlying3 hi hz0 N (by omega) (by rw [hz1]; omega) (by omega) (by rw [hz2]; omega)
    have hC1 := grownCap_ge w N 0 115
    have hC2 := grownCap_le_maxLen w N 0 115 (by unfold maxLen; omega)
    have hsz : (Builtin.zeroCells (Value.agg #[.int .i64 0, .int .i64 0, .int .i64 0]).cells N ++ Builtin.zeroCells (Value.agg #[.int .i64 0, .int .i64 0, .int .i64 0]).cells (grownCap w N 0 115 - N)).size = grownCap w N 0 115 * 3 := by
      rw [Array.size_append, size_zeroCells, size_zeroCells]
      simp [Value.cells]
      omega
    generalize grownCap w N 0 115 = C at *
    generalize Builtin.zeroCells (Value.agg #[.int .i64 0, .int .i64 0, .int .i64 0]).cells N ++ Builtin.zeroCells (Value.agg #[.int .i64 0, .int .i64 0, .int .i64 0]).cells (C - N) = cur at *
    have HS := hide hsz
    have HR := hide hr
    have hC3 : C ≤ 9223372036854775807 := by unfold maxLen at hC2; omega
    clear hsz hr
    go_enter Try.func122, Try.ntmps122
    go_wp2_with (at_builtin; refine Go.Lib.wpList_append_run _ rfl _ _ _ _ rfl _ _ rfl rfl _ _ (HR.out _) ?_)
    go_ret
    exact ⟨_, rfl, ⟨rfl, .inr ⟨w.heap.size, C, cur, rfl, Nat.le_refl _, heap_alloc_new w.drew _, Nat.zero_le _, hC2, HS.out, by simp⟩⟩, ((Below.refl w.heap.size w).drew.alloc (by simp) _)⟩
theorem flat_take (t : List (List Ev)) (k : Nat) (h : k < t.length) : (t.take (k + 1)).flatten = (t.take k).flatten ++ t[k] := by
  rw [List.take_succ_eq_append_getElem h, List.flatten_append]
  simp
theorem flat_len : ∀ t : List (List Ev), t.flatten.length = sumT t
  | [] => rfl
  | l :: r => by rw [List.flatten_cons, List.length_append, flat_len r]; rfl
theorem sumT_take (t : List (List Ev)) (k : Nat) : sumT (t.take k) ≤ sumT t := by
  rw [← flat_len, ← flat_len]
  conv => rhs; rw [← List.take_append_drop k t]
  rw [List.flatten_append, List.length_append]
  omega
set_option maxRecDepth 100000 in
set_option maxHeartbeats 400000 in
theorem concat_any (t : List (List Ev)) (A : Option Addr) (c : Nat) (w : World) (hn : t.length ≤ 1000000) (hs : sumT t ≤ 1000000) (h : RdT w w.heap.size A t) :
    Calls Try.prog 72 #[.slice A t.length c] w fun e w' => ∃ A' c', e = .returned (.slice A' t.flatten.length c') ∧ RdE w' w'.heap.size A' t.flatten ∧ Below w.heap.size w w' := by
  obtain ⟨i0, hi, hz0, hz1, hz2⟩ := info_parts info_line
  go_enter Try.func72, Try.ntmps72
  go_wp2
  go_loop [3, 11] (fun s i => ∃ k n : Nat, k ≤ t.length ∧ i = .int .i64 k ∧ s = .int .i64 n ∧ n + sumT (t.drop k) = sumT t) (fun _ i => t.length - (intOf i).toNat)
  case atStart => exact ⟨0, 0, Nat.zero_le _, rfl, rfl, by simp⟩
  case round =>
    obtain ⟨k, n, hk, rfl, rfl, hsum⟩ := hrel
    by_cases hlt : k < t.length
    · obtain ⟨b, off, a, d, rfl, _, hc0, hle, hcm, _⟩ := h.get hlt
      have hd := sumT_drop t k hlt
      have hn1 : n ≤ 1000000 := by omega
      have hn2 : t[k].length ≤ 1000000 := by omega
      have hsum2 : n + t[k].length + sumT (t.drop (k + 1)) = sumT t := by omega
      have HS := hide hsum2
      clear hd hsum hsum2
      go_wp2
      go_round
      case rel => exact ⟨k + 1, n + t[k].length, by omega, by go_num, by go_num, HS.out⟩
      case measure => simp [intOf]; omega
    · have hns : n = sumT t := by
        rw [List.drop_eq_nil_of_le (by omega)] at hsum
        simpa [sumT] using hsum
      subst hns
      clear hsum
      go_wp2_with fail
      refine (growL_any (sumT t) w hs).mono ?_
      rintro e w1 ⟨v0, rfl, o1, b1⟩
      go_wp2
      go_loopw [6, 27] (fun v i wr => ∃ k : Nat, k ≤ t.length ∧ i = .int .i64 k ∧ wr.ownsRow w.heap.size 115 3 v (t.take k).flatten.length (evs (t.take k).flatten) ∧ Below w.heap.size w wr) (fun _ i _ => t.length - (intOf i).toNat)
      case atStart => exact ⟨0, Nat.zero_le _, rfl, by simpa [evs] using o1, b1⟩
      case round =>
        clear b1 o1
        obtain ⟨k, hk, rfl, ho, hb⟩ := hrel
        by_cases hlt : k < t.length
        · obtain ⟨b, off, a, d, rfl, _, hc0, hle, hcm, hr⟩ := (h.below hb).get hlt
          have hf := flat_take t k hlt
          have hl1 : (t.take k).flatten.length ≤ 1000000 := by rw [flat_len]; have := sumT_take t k; omega
          have hl2 : t[k].length ≤ 1000000 := by have := sumT_mem (List.getElem_mem hlt); omega
          have HF := hide hf
          have hbs := hb.size
          go_wp2_with (at_builtin; refine wpList_append_re _ rfl (.tmp 31) (.tmp 32) 112 rfl w.heap.size 115 i0 (.agg #[.int .i64 0, .int .i64 0, .int .i64 0]) 24 Try.underlying112 hi hz0 hz1 hz2 rfl _ (t.take k).flatten.length (evs (t.take k).flatten) rfl ho a t[k] d w.heap.size rfl hr (by unfold maxLen; omega) (by omega) hbs ?_; intro v3 w3 o3 g3 hat3; have b3 := hb.trans (grown_below ho g3 hbs (Nat.le_refl _)); rw [← evs_append, ← HF.out, ← List.length_append, ← HF.out] at o3; clear g3 hat3 ho hb hr)
          go_roundw
          case rel => exact ⟨k + 1, by omega, by go_num, o3, b3⟩
          case measure => simp [intOf]; omega
        · rw [List.take_of_length_le (by omega)] at ho
          obtain ⟨A', c', rfl⟩ := own_shape ho
          go_wp2
          go_ret
          exact ⟨A', c', rfl, RdE.of_own ho, hb⟩
end Go.Proofs.Ytifijhfeeammkaa
namespace Go.Proofs.Ytifijhfeeammkaa
open Go.RowKit

set_option maxRecDepth 100000 in
set_option maxHeartbeats 400000 in
theorem holdersOf_any (l : List Ev) (A : Option Addr) (c : Nat) (a : Int) (w : World) (hm : l.length ≤ 1000000) (h : RdE w w.heap.size A l) :
    Calls Try.prog 123 #[.slice A l.length c, .int .i64 a] w fun e w' => e = .returned (.int .i64 (holdC l a)) ∧ Below w.heap.size w w' := by
  go_enter Try.func123, Try.ntmps123
  go_wp2
  go_loopw [5, 10] (fun s i wr => ∃ k n : Nat, k ≤ l.length ∧ i = .int .i64 k ∧ s = .int .i64 n ∧ n ≤ k ∧ Below w.heap.size w wr ∧ Hid (n + holdC (l.drop k) a = holdC l a)) (fun _ i _ => l.length - (intOf i).toNat)
  case atStart => exact ⟨0, 0, Nat.zero_le _, rfl, rfl, Nat.le_refl _, Below.refl _ _, hide (by simp)⟩
  case round =>
    obtain ⟨k, n, hk, rfl, rfl, hnk, hb, HR⟩ := hrel
    by_cases hlt : k < l.length
    · obtain ⟨b, off, rfl, hbb, hc0, hc1, hc2⟩ := (h.below hb).get hlt
      have hd := holdC_drop l k hlt a
      have hbx := fun o => hb.alloc hb.size o
      have HB := hide hbx
      clear hbx
      by_cases h0 : l[k].k = 0
      · rw [if_neg (fun hm => hm.1 h0)] at hd
        have HN := hide (show n + holdC (l.drop (k + 1)) a = holdC l a by have := HR.out; omega)
        rw [h0] at hc0
        clear hd HR h0
        go_wp2
        go_roundw
        case rel => exact ⟨k + 1, n, by omega, by go_num, rfl, by omega, HB.out _, HN⟩
        case measure => simp [intOf]; omega
      · have f0 : (l[k].k != 0) = true := bne_iff_ne.2 h0
        have f1 : (l[k].k == 0) = false := beq_eq_false_iff_ne.2 h0
        by_cases ha : l[k].a = a
        · rw [if_pos ⟨h0, ha⟩] at hd
          have HN := hide (show (n + 1) + holdC (l.drop (k + 1)) a = holdC l a by have := HR.out; omega)
          have f2 : (l[k].a == a) = true := beq_iff_eq.2 ha
          clear hd HR h0 ha
          go_wp2
          go_roundw
          case rel => exact ⟨k + 1, n + 1, by omega, by go_num, by go_num, by omega, HB.out _, HN⟩
          case measure => simp [intOf]; omega
        · rw [if_neg (fun hm => ha hm.2)] at hd
          have HN := hide (show n + holdC (l.drop (k + 1)) a = holdC l a by have := HR.out; omega)
          have f2 : (l[k].a == a) = false := beq_eq_false_iff_ne.2 ha
          clear hd HR h0 ha
          go_wp2
          go_roundw
          case rel => exact ⟨k + 1, n, by omega, by go_num, rfl, by omega, HB.out _, HN⟩
          case measure => simp [intOf]; omega
    · have HN := hide (show n = holdC l a by have := HR.out; rw [List.drop_eq_nil_of_le (by omega)] at this; simpa [holdC] using this)
      clear HR
      go_wp2
      go_ret
      exact ⟨ret_int (by rw [HN.out]), hb⟩

open Classical in
noncomputable def agrB (all : List Ev) (mem : List Cel) : Bool := if Agr all mem then true else false
theorem agrB_yes {all : List Ev} {mem : List Cel} (h : Agr all mem) : agrB all mem = true := if_pos h
theorem agrB_no {all : List Ev} {mem : List Cel} (h : ¬ Agr all mem) : agrB all mem = false := if_neg h
def AgrAt (all : List Ev) (mem : List Cel) (x : Ev) : Prop := (x.k = 1 → x.v = readM mem x.a) ∧ (x.k = 2 → holdC all x.a ≤ 1)
def AgrTo (all : List Ev) (mem : List Cel) (k : Nat) : Prop := ∀ i (h : i < all.length), i < k → AgrAt all mem all[i]
theorem AgrTo.step {all : List Ev} {mem : List Cel} {k : Nat} (h : AgrTo all mem k) (hk : k < all.length) (hx : AgrAt all mem all[k]) : AgrTo all mem (k + 1) := fun i hi hik => by
  by_cases e : i = k
  · subst e; exact hx
  · exact h i hi (by omega)
theorem AgrTo.all_ {all : List Ev} {mem : List Cel} (h : AgrTo all mem all.length) : Agr all mem := fun x hx => by
  obtain ⟨i, hi, rfl⟩ := List.getElem_of_mem hx
  exact h i hi hi

set_option maxRecDepth 100000 in
set_option maxHeartbeats 800000 in
theorem linesAgree_any (l : List Ev) (mem : List Cel) (A A' : Option Addr) (c c' : Nat) (w : World) (hm : l.length ≤ 1000000) (hm2 : mem.length ≤ maxLen) (h : RdE w w.heap.size A l) (h' : RdC w w.heap.size A' mem) :
    Calls Try.prog 85 #[.slice A l.length c, .slice A' mem.length c'] w fun e w' => e = .returned (.bool (agrB l mem)) ∧ Below w.heap.size w w' := by
  have HV := hide (fun W a (hW : RdC W W.heap.size A' mem) => valueAt_any mem A' c' a W hm2 hW)
  have HH := hide (fun W a (hW : RdE W W.heap.size A l) => holdersOf_any l A c a W hm hW)
  have HA := hide h
  go_enter Try.func85, Try.ntmps85
  go_wp2
  go_loopw [9] (fun i wr => ∃ k : Nat, k ≤ l.length ∧ i = .int .i64 k ∧ Below w.heap.size w wr ∧ Hid (AgrTo l mem k)) (fun i _ => l.length - (intOf i).toNat)
  case atStart => exact ⟨0, Nat.zero_le _, rfl, Below.refl _ _, hide fun _ _ h => by omega⟩
  case round =>
    obtain ⟨k, hk, rfl, hb, HR⟩ := hrel
    by_cases hlt : k < l.length
    · obtain ⟨b, off, rfl, hbb, hc0, hc1, hc2⟩ := (h.below hb).get hlt
      have HS := hide (fun hx => HR.out.step hlt hx)
      have HN := hide (show ¬ AgrAt l mem l[k] → agrB l mem = false from fun hx => agrB_no fun hA => hx (hA _ (List.getElem_mem hlt)))
      obtain ⟨X, hX⟩ : ∃ X, X = l[k] := ⟨_, rfl⟩
      rw [← hX] at hc0 hc1 hc2 HS HN
      clear hX
      have kx := Bk.new wr #[.int .i64 X.k, .int .i64 X.a, .int .i64 X.v] 115
      have hbx := hb.alloc hb.size (Obj.cells #[.int .i64 X.k, .int .i64 X.a, .int .i64 X.v] 115)
      by_cases h1 : X.k = 1
      · rw [h1] at hc0 kx hbx
        have h2 : ¬ X.k = 2 := by omega
        go_wp2_with fail
        generalize wr.alloc (Obj.cells #[.int .i64 1, .int .i64 X.a, .int .i64 X.v] 115) = W at *
        generalize wr.heap.size = q at *
        have hr' := h'.below hbx
        have q1 := (kx.cell 1).trans (rfl : _ = some (Value.int .i64 X.a))
        have q2 := (kx.cell 2).trans (rfl : _ = some (Value.int .i64 X.v))
        obtain ⟨R, hR⟩ : ∃ R, R = readM mem X.a := ⟨_, rfl⟩
        have hV := HV.out
        have VA := hide (fun W hW => hV W X.a hW)
        clear hV
        go_cut [23] (fun s wx => s = .bool (X.v != R) ∧ Below W.heap.size W wx)
        case first =>
          go_region_held3 (fun w' => w'.cell? ⟨q, 1, none⟩ = some (.int .i64 X.a) ∧ w'.cell? ⟨q, 2, none⟩ = some (.int .i64 X.v) ∧ Below W.heap.size W w')
            (first | assumption | exact ⟨q1, q2, (Below.refl _ _).drew⟩ | (go_split_ands; exact ⟨cell_kept (by assumption) (by assumption), cell_kept (by assumption) (by assumption), Below.trans (by assumption) (Below.mono (by assumption) (Below.size (by assumption)))⟩))
            (first
              | (go_at_call 73; refine (VA.out _ ?_).mono ?_; (go_split_ands; exact (hr'.below ((by assumption : Below W.heap.size W _).mono hbx.size)).more (Nat.le_trans hbx.size (Below.size (by assumption)))); rintro e wa ⟨rfl, ba⟩))
          all_goals
            go_wp2_with fail
            go_meet
            exact ⟨by rw [hR], by go_split_ands; assumption⟩
        case rest =>
          obtain ⟨rfl, C1⟩ := hcut
          have B1 := hbx.trans (C1.mono hbx.size)
          clear C1 q1 q2 kx hbx hr'
          by_cases he : X.v = R
          · have f0 : (X.v != R) = false := by simp [he]
            have HE := hide (HS.out ⟨fun _ => by rw [he, hR], fun e => absurd e h2⟩)
            clear he hR
            go_wp2
            go_roundw
            case rel => exact ⟨k + 1, by omega, by go_num, B1, HE⟩
            case measure => simp [intOf]; omega
          · have f0 : (X.v != R) = true := bne_iff_ne.2 he
            have HE := hide (HN.out fun hx => he (by rw [hx.1 h1, hR]))
            clear he hR
            go_wp2
            go_ret
            exact ⟨ret_bool (by rw [HE.out]), B1⟩
      · by_cases h2 : X.k = 2
        · rw [h2] at hc0 kx hbx
          obtain ⟨R, hR⟩ : ∃ R, R = holdC l X.a := ⟨_, rfl⟩
          have hRl : R ≤ 1000000 := by rw [hR]; exact Nat.le_trans (holdC_len l X.a) hm
          have hH := HH.out
          have HX := hide (fun W hW => hH W X.a hW)
          rw [← hR] at HX
          clear hH
          have q1 := (kx.cell 1).trans (rfl : _ = some (Value.int .i64 X.a))
          go_wp2_with fail
          refine (HX.out _ ((HA.out.below hbx).more hbx.size)).mono ?_
          rintro e w1 ⟨rfl, b1⟩
          have B1 := hbx.trans (b1.mono hbx.size)
          clear q1 kx hbx b1
          by_cases he : R ≤ 1
          · have HE := hide (HS.out ⟨fun e => absurd e h1, fun _ => by rw [← hR]; exact he⟩)
            clear hR
            go_wp2
            go_roundw
            case rel => exact ⟨k + 1, by omega, by go_num, B1, HE⟩
            case measure => simp [intOf]; omega
          · have HE := hide (HN.out fun hx => he (by rw [hR]; exact hx.2 h2))
            have he' : 1 < R := by omega
            clear hR he
            go_wp2
            go_ret
            exact ⟨ret_bool (by rw [HE.out]), B1⟩
        · have HE := hide (HS.out ⟨fun e => absurd e h1, fun e => absurd e h2⟩)
          have f1 : (X.k == 1) = false := beq_eq_false_iff_ne.2 h1
          have f2 : (X.k == 2) = false := beq_eq_false_iff_ne.2 h2
          clear kx h1 h2
          go_wp2
          go_roundw
          case rel => exact ⟨k + 1, by omega, by go_num, hbx, HE⟩
          case measure => simp [intOf]; omega
    · obtain rfl : k = l.length := by omega
      have HE := hide (agrB_yes HR.out.all_)
      clear HR
      go_wp2
      go_ret
      exact ⟨ret_bool (by rw [HE.out]), hb⟩
end Go.Proofs.Ytifijhfeeammkaa
namespace Go.Proofs.Ytifijhfeeammkaa
open Go.RowKit

theorem siz_sum {m : Mac} (h : Siz m) : sumT m.cs ≤ 16 := by
  have h1 := h.2.2.1
  have h2 := h.2.2.2.2
  have hn := h.1.2
  generalize (m.cs.getD 0 []).length = L at *
  have key : ∀ cs : List (List Ev), (∀ l ∈ cs, l.length = L) → sumT cs = cs.length * L := by
    intro cs
    induction cs with
    | nil => intro _; simp [sumT]
    | cons l r ih =>
      intro hh
      rw [sumT, ih (fun x hx => hh x (by simp [hx])), hh l (by simp), List.length_cons, Nat.succ_mul]
      omega
  rw [key _ h1]
  exact Nat.le_trans (Nat.mul_le_mul hn h2) (by omega)

set_option maxRecDepth 100000 in
set_option maxHeartbeats 4000000 in
theorem implMacF_any (m : Mac) (A A' : Option Addr) (c c' : Nat) (w : World) (h1 : m.cs.length ≤ maxLen) (h2 : m.mem.length ≤ maxLen) (h : RdMac w w.heap.size A A' m) :
    Calls Try.prog 29 #[macV A m.cs.length c A' m.mem.length c'] w fun e w' => e = .returned (.int .i64 (macF m)) ∧ Below w.heap.size w w' := by
  have kb := Bk.new w #[.slice A m.cs.length c, .slice A' m.mem.length c'] 27
  have hbw := (Below.refl w.heap.size w).alloc (Nat.le_refl _) (Obj.cells #[.slice A m.cs.length c, .slice A' m.mem.length c'] 27)
  have hRW := (h.below hbw).lt
  go_enter Try.func29, Try.ntmps29
  go_wp2_with fail
  refine (sizesHold_any m A A' c c' _ h1 h2 hRW).mono ?_
  rintro e w1 ⟨rfl, b1⟩
  have K1 := kb.kept b1
  have B1 := hbw.trans (b1.mono hbw.size)
  have R1 := (h.below B1).lt
  clear kb hbw hRW b1
  by_cases hS : Siz m
  · rw [sizB_yes hS]
    have q1 := (K1.cell 1).trans (rfl : _ = some (Value.slice A' m.mem.length c'))
    go_wp2_with fail
    refine (cellsFault_any m.mem A' c' w1 h2 R1.mem).mono ?_
    rintro e w2 ⟨rfl, b2⟩
    have K2 := K1.kept b2
    have B2 := B1.trans (b2.mono B1.size)
    clear q1 K1 R1 b2 B1
    by_cases hF : cellsF m.mem = 0
    · rw [hF]
      obtain ⟨L, hL⟩ : ∃ L, L = (m.cs.getD 0 []).length := ⟨_, rfl⟩
      have hsh := hS.shp
      rw [← hL] at hsh
      have hL4 : 1 ≤ L ∧ L ≤ 4 := by have := hS.2.2.2; rw [← hL] at this; exact this
      obtain ⟨hL1, hL2⟩ := hL4
      have hn := hS.1
      obtain ⟨hn1, hn2⟩ := hn
      have hm32 := hS.2.1
      have HSum := hide (siz_sum hS)
      have HS := hide hS
      have HF := hide hF
      have HL := hide hL
      have x0 := (K2.cell 0).trans (rfl : _ = some (Value.slice A m.cs.length c))
      clear hS hF hL
      go_wp2
      clear x0
      go_loopw [21] (fun i wr => ∃ k : Nat, k ≤ m.cs.length ∧ i = .int .i64 k ∧ Below w.heap.size w wr ∧ Bk wr w.heap.size #[.slice A m.cs.length c, .slice A' m.mem.length c'] 27 ∧ Hid (linesF L m.cs = linesF L (m.cs.drop k))) (fun i _ => m.cs.length - (intOf i).toNat)
      case atStart => exact ⟨0, Nat.zero_le _, rfl, B2, K2, hide rfl⟩
      case round =>
        clear B2 K2
        obtain ⟨i, hik, rfl, hb, kb, HR⟩ := hrel
        by_cases hi : i < m.cs.length
        · obtain ⟨b, off, a, d, rfl, hbb, hcw, hle, hcm, hrw⟩ := h.cs.get hi
          have hc0 := (hb.cell (p := ⟨b, off + i, none⟩) hbb).trans hcw
          have HRW := hide hrw
          have hLi := hsh.2 _ (List.getElem_mem hi)
          rw [hLi] at hc0 hle
          have hd := linesF_drop L m.cs i hi
          have HD := hide hd
          clear hd hrw hcw
          go_wp2
          clear hc0
          go_loopw [27] (fun q w2 => ∃ k : Nat, k ≤ L ∧ q = .int .i64 k ∧ Below w.heap.size w w2 ∧ Bk w2 w.heap.size #[.slice (some ⟨b, off, none⟩) m.cs.length c, .slice A' m.mem.length c'] 27 ∧ Hid (rowF L 0 m.cs[i] = rowF L k (m.cs[i].drop k))) (fun q _ => L - (intOf q).toNat)
          case atStart => exact ⟨0, Nat.zero_le _, rfl, hb, kb, hide rfl⟩
          case round =>
            clear hb kb
            obtain ⟨k, hkL, rfl, hb2, kb2, HK⟩ := hrel
            by_cases hk : k < L
            · obtain ⟨b3, off3, rfl, hb3, e0, e1, e2⟩ := (HRW.out.below hb2).get (i := k) (by omega)
              have hd2 := rowF_drop L m.cs[i] k (by omega)
              obtain ⟨X, hX⟩ : ∃ X, X = m.cs[i][k]'(by omega) := ⟨_, rfl⟩
              rw [← hX] at e0 e1 e2 hd2
              clear hX
              have LC := fun W => lineFault_any X.k X.a X.v k L W ⟨hL1, by omega⟩
              have kx := fun o => kb2.below ((Below.refl _ _).alloc (Nat.le_refl _) o) kb2.lt
              have bx := fun o => hb2.alloc hb2.size o
              have HKX := hide kx
              have HBX := hide bx
              clear kx bx
              by_cases h0 : lineF L k X = 0
              · rw [if_pos h0] at hd2
                rw [show lineF L k ⟨X.k, X.a, X.v⟩ = 0 from h0] at LC
                have HLC := hide LC
                have HD2 := hide hd2
                clear hd2 h0 LC kb2
                go_wp2_with fail
                refine (HLC.out _).mono ?_
                rintro e w3 ⟨rfl, b3⟩
                have K3 := (HKX.out _).kept b3
                have B3 := (HBX.out _).trans (b3.mono (HBX.out _).size)
                go_wp2
                go_roundw
                case rel => exact ⟨k + 1, by omega, by go_num, B3, K3, hide (HK.out.trans HD2.out)⟩
                case measure => simp [intOf]; omega
              · rw [if_neg h0] at hd2
                obtain ⟨F, hF⟩ : ∃ F, F = lineF L k X := ⟨_, rfl⟩
                rw [show lineF L k ⟨X.k, X.a, X.v⟩ = F from hF.symm] at LC
                have HLC := hide LC
                have hrow : rowF L 0 m.cs[i] = F := by rw [HK.out, hd2, hF]
                have hD3 := HD.out
                rw [hrow] at hD3
                rw [← hF] at h0
                rw [if_neg h0] at hD3
                have hall : macF m = F := by
                  have hl : linesF (m.cs.getD 0 []).length m.cs = F := by rw [← HL.out, HR.out, hD3]
                  rw [macF_lines HS.out HF.out (by rw [hl]; exact h0), hl]
                have HA := hide hall
                have f0 : (F != 0) = true := bne_iff_ne.2 h0
                have f1 : (F == 0) = false := beq_eq_false_iff_ne.2 h0
                clear hall hD3 hrow hd2 h0 hF LC kb2
                go_wp2_with fail
                refine (HLC.out _).mono ?_
                rintro e w3 ⟨rfl, b3⟩
                have B3 := (HBX.out _).trans (b3.mono (HBX.out _).size)
                go_wp2
                go_ret
                exact ⟨ret_int (by rw [HA.out]), B3⟩
            · have hrow : rowF L 0 m.cs[i] = 0 := by rw [HK.out, List.drop_eq_nil_of_le (by omega)]; rfl
              have hD3 := HD.out
              rw [if_pos hrow] at hD3
              have HD3 := hide hD3
              clear hD3 hrow
              go_wp2
              go_roundw
              case rel => exact ⟨i + 1, by omega, by go_num, hb2, kb2, hide (HR.out.trans HD3.out)⟩
              case measure => simp [intOf]; omega
        · have hz : linesF L m.cs = 0 := by rw [HR.out, List.drop_eq_nil_of_le (by omega)]; rfl
          have HZ := hide hz
          have x0 := (kb.cell 0).trans (rfl : _ = some (Value.slice A m.cs.length c))
          have x1 := (kb.cell 1).trans (rfl : _ = some (Value.slice A' m.mem.length c'))
          have hR := h.below hb
          have hfl : m.cs.flatten.length ≤ 1000000 := by rw [flat_len]; have := HSum.out; omega
          obtain ⟨fl, hfe⟩ : ∃ fl, fl = m.cs.flatten := ⟨_, rfl⟩
          have hC := (fun W (hW : Below wr.heap.size wr W) => concat_any m.cs A c W (by omega) (by have := HSum.out; omega) ((hR.cs.below (hW.mono hb.size)).more (Nat.le_trans hb.size hW.size)))
          have hG := (fun Z z W (hW : Below wr.heap.size wr W) (hW' : RdE W W.heap.size Z m.cs.flatten) => linesAgree_any m.cs.flatten m.mem Z A' z c' W hfl h2 hW' ((hR.mem.below (hW.mono hb.size)).more (Nat.le_trans hb.size hW.size)))
          rw [← hfe] at hC hG
          have HC := hide hC
          have HG := hide hG
          have HFE := hide hfe
          clear hz hfl hC hG hfe
          go_wp2_with fail
          go_cut [48] (fun s wx => s = .bool (!agrB fl m.mem) ∧ Below wr.heap.size wr wx)
          case first =>
            go_region_held3 (fun w' => w'.cell? ⟨w.heap.size, 0, none⟩ = some (Value.slice A m.cs.length c) ∧ w'.cell? ⟨w.heap.size, 1, none⟩ = some (Value.slice A' m.mem.length c') ∧ Below wr.heap.size wr w')
              (first | assumption | exact ⟨x0, x1, (Below.refl _ _).drew⟩ | (go_split_ands; exact ⟨cell_kept (by assumption) (by assumption), cell_kept (by assumption) (by assumption), Below.trans (by assumption) (Below.mono (by assumption) (Below.size (by assumption)))⟩))
              (first
                | (go_at_call 72; (with_reducible refine (HC.out _ ?_).mono ?_); (go_split_ands; assumption); rintro e wa ⟨Za, za, rfl, ra, ba⟩)
                | (go_at_call 85; (with_reducible refine (HG.out _ _ _ ?_ ?_).mono ?_); (go_split_ands; assumption); exact ra; rintro e wc ⟨rfl, bc⟩))
            all_goals
              go_wp2_with fail
              go_meet
              exact ⟨rfl, by go_split_ands; assumption⟩
          case rest =>
            obtain ⟨rfl, C1⟩ := hcut
            rw [HFE.out]
            have B3 := hb.trans (C1.mono hb.size)
            have hok := (lines_iff hsh).1 HZ.out
            by_cases hT : Tog m.cs.length L m
            · have e1 : agrB m.cs.flatten m.mem = true := agrB_yes ((agr_tog hsh hok).2 hT)
              rw [e1]
              have HA := hide (show macF m = 0 from macF_ok HS.out HF.out (by rw [← HL.out]; exact HZ.out) (by rw [← HL.out]; exact hT))
              clear hT e1 hok x0 x1 C1
              go_wp2
              go_ret
              exact ⟨ret_int (by rw [HA.out]), B3⟩
            · have e1 : agrB m.cs.flatten m.mem = false := agrB_no fun hA => hT ((agr_tog hsh hok).1 hA)
              rw [e1]
              have HA := hide (show macF m = 7 from macF_tog HS.out HF.out (by rw [← HL.out]; exact HZ.out) (by rw [← HL.out]; exact hT))
              clear hT e1 hok x0 x1 C1
              go_wp2
              go_ret
              exact ⟨ret_int (by rw [HA.out]), B3⟩
    · have HA := hide (macF_cells hS hF)
      obtain ⟨F, hFF⟩ : ∃ F, F = cellsF m.mem := ⟨_, rfl⟩
      rw [← hFF] at hF HA ⊢
      have f0 : (F != 0) = true := bne_iff_ne.2 hF
      have f1 : (F == 0) = false := beq_eq_false_iff_ne.2 hF
      clear hF hFF hS
      go_wp2
      go_ret
      exact ⟨ret_int (by rw [HA.out]), B2⟩
  · rw [sizB_no hS]
    have HA := hide (macF_siz hS)
    clear hS
    go_wp2
    go_ret
    exact ⟨ret_int (by rw [HA.out]), B1⟩
end Go.Proofs.Ytifijhfeeammkaa
namespace Go.Proofs.Ytifijhfeeammkaa
open Go.RowKit

theorem good_siz {n L : Nat} {m : Mac} (h : GoodM n L m) (hm : m.mem.length ≤ 32) : Siz m := by
  obtain ⟨h1, h2⟩ := h.rows
  have := h.nL
  exact ⟨by omega, hm, fun l hl => by rw [h2]; exact h.shp.2 l hl, by omega, by omega⟩
theorem good_sum {n L : Nat} {m : Mac} (h : GoodM n L m) : sumT m.cs ≤ 16 := by
  have := siz_sum (m := ⟨m.cs, []⟩) (by
    obtain ⟨h1, h2⟩ := h.rows
    have := h.nL
    exact ⟨by simp only; omega, by simp, fun l hl => by simp only at hl ⊢; rw [h2]; exact h.shp.2 l hl, by simp only; omega, by simp only; omega⟩)
  exact this
set_option maxRecDepth 100000 in
set_option maxHeartbeats 800000 in
theorem implValueAt_any (m : Mac) (A A' : Option Addr) (c c' : Nat) (ad : Int) (w : World) (h1 : m.cs.length ≤ maxLen) (h2 : m.mem.length ≤ maxLen) (h : RdMac w w.heap.size A A' m) :
    Calls Try.prog 18 #[macV A m.cs.length c A' m.mem.length c', .int .i64 ad] w fun e w' => e = .returned (.agg #[.int .i64 (vaC ad (macF m)), .int .i64 (vaV m ad (macF m))]) ∧ Below w.heap.size w w' := by
  obtain ⟨W, hW⟩ : ∃ W, W = (w.alloc (Obj.cells #[.slice A m.cs.length c, .slice A' m.mem.length c'] 27)).alloc (Obj.cells #[.int .i64 0, .int .i64 0] 38) := ⟨_, rfl⟩
  obtain ⟨k1, k2, hz, B0⟩ := two_new _ _ _ _ _ W hW
  have HW := hide hW
  have hRW := (h.below B0).lt
  have HM := implMacF_any m A A' c c' W h1 h2 hRW
  clear hW hRW
  by_cases hF : macF m = 0
  · obtain ⟨hG, hm32⟩ := macF_zero hF
    have HSm := hide (good_sum hG)
    rw [hF] at HM ⊢
    have HC := hide HM
    clear HM hF
    have hsh := hG.shp
    have hn := hG.nL
    generalize hLL : (m.cs.getD 0 []).length = L at hsh hn
    clear hG hLL
    by_cases ha : 0 ≤ ad ∧ ad ≤ 999999
    · rw [vaC_ok ha, vaV_ok ha]
      go_enter Try.func18, Try.ntmps18
      generalize hQ : w.heap.size = Q at *
      go_wp2_with fail
      rw [← HW.out]
      refine HC.out.mono ?_
      rintro e w1 ⟨rfl, hb1⟩
      have hbx := B0.trans (hb1.mono (by omega))
      have j1 := k1.kept hb1
      have j2 := k2.kept hb1
      clear hb1 HC
      go_wp2_with fail
      refine (allWithin_one _ _ _ _ _ _ (by simp [go_sem]) ha).mono ?_
      rintro e w2 ⟨rfl, rfl⟩
      have hsum : sumT m.cs ≤ 16 := HSm.out
      have y0 := fun o => ((j1.alloc o).cell 0).trans (rfl : _ = some (Value.slice A m.cs.length c))
      have Y1 := hide (fun o => j1.alloc o)
      have Y2 := hide (fun o => j2.alloc o)
      have HBX := hide (fun o => hbx.alloc (by have := hbx.size; omega) o)
      clear j1 j2
      go_wp2_with fail
      have z0 := y0 (Obj.cells #[.int .i64 ad] 2)
      refine (concat_any m.cs A c _ (by omega) (by omega) ((h.cs.below (HBX.out _)).more (by have := (HBX.out (Obj.cells #[.int .i64 ad] 2)).size; omega))).mono ?_
      rintro e w3 ⟨Z, z, rfl, hrZ, b3⟩
      have K1 := (Y1.out _).kept b3
      have K2 := (Y2.out _).kept b3
      have B3 := (HBX.out _).trans (b3.mono (by have := (HBX.out (Obj.cells #[.int .i64 ad] 2)).size; omega))
      have hfl : m.cs.flatten.length ≤ 16 := by rw [flat_len]; exact hsum
      obtain ⟨fl, hfe⟩ : ∃ fl, fl = m.cs.flatten := ⟨_, rfl⟩
      rw [← hfe] at hrZ hfl ⊢
      have HFE := hide hfe
      clear y0 z0 b3 hfe hsum
      go_wp2
      go_loopw [23] (fun i wr => ∃ k : Nat, k ≤ fl.length ∧ i = .int .i64 k ∧ Below w3.heap.size w3 wr ∧ Bk wr Q #[.slice A m.cs.length c, .slice A' m.mem.length c'] 27 ∧ Bk wr (Q + 1) #[.int .i64 0, .int .i64 0] 38 ∧ Hid (modL ad fl = modL ad (fl.drop k))) (fun i _ => fl.length - (intOf i).toNat)
      case atStart => exact ⟨0, Nat.zero_le _, rfl, Below.refl _ _, K1, K2, hide rfl⟩
      case round =>
        clear K1 K2
        obtain ⟨k, hk, rfl, hb, kb, kr, HR⟩ := hrel
        have B4 := B3.trans (hb.mono (by have := B3.size; omega))
        by_cases hlt : k < fl.length
        · obtain ⟨b, off, rfl, _, e0, e1, e2⟩ := (hrZ.below hb).get hlt
          have hd2 : modL ad (fl.drop k) = if fl[k].k = 2 ∧ fl[k].a = ad then some fl[k].v else modL ad (fl.drop (k + 1)) := by rw [List.drop_eq_getElem_cons hlt, modL_cons]
          obtain ⟨X, hX⟩ : ∃ X, X = fl[k] := ⟨_, rfl⟩
          rw [← hX] at e0 e1 e2 hd2
          clear hX
          have KB := hide (kb.alloc (Obj.cells #[.int .i64 X.k, .int .i64 X.a, .int .i64 X.v] 115))
          have KR := hide (kr.alloc (Obj.cells #[.int .i64 X.k, .int .i64 X.a, .int .i64 X.v] 115))
          have HB := hide (hb.alloc hb.size (Obj.cells #[.int .i64 X.k, .int .i64 X.a, .int .i64 X.v] 115))
          have HB4 := hide (B4.alloc (by have := B4.size; omega) (Obj.cells #[.int .i64 X.k, .int .i64 X.a, .int .i64 X.v] 115))
          by_cases hx : X.k = 2
          · have g0 : (X.k == 2) = true := beq_iff_eq.2 hx
            by_cases hxa : X.a = ad
            · have g1 : (X.a == ad) = true := beq_iff_eq.2 hxa
              rw [if_pos ⟨hx, hxa⟩] at hd2
              have HT := hide (show valM m ad = X.v by unfold valM; rw [← HFE.out, HR.out, hd2]; rfl)
              have q0 := KR.out.cell 0
              have q1 := KR.out.cell 1
              have f0 := KR.out.frozen 0
              have f1 := KR.out.frozen 1
              simp at q0 q1
              clear hd2 hx hxa kb kr B4
              go_wp2
              refine bodyPost_ret (v := .agg #[.int .i64 0, .int .i64 X.v]) (by simp [results, Try.results18, go_sem, q0, q1]) rfl ?_
              exact ⟨by rw [HT.out], (HB4.out.setCell (by simp) _).setCell (by simp) _⟩
            · have g1 : (X.a == ad) = false := beq_eq_false_iff_ne.2 hxa
              rw [if_neg (fun hh => hxa hh.2)] at hd2
              have HD := hide hd2
              clear hd2 hx hxa kb kr B4
              go_wp2
              go_roundw
              case rel => exact ⟨k + 1, by omega, by go_num, HB.out, KB.out, KR.out, hide (HR.out.trans HD.out)⟩
              case measure => simp [intOf]; omega
          · have g0 : (X.k == 2) = false := beq_eq_false_iff_ne.2 hx
            rw [if_neg (fun hh => hx hh.1)] at hd2
            have HD := hide hd2
            clear hd2 hx kb kr B4
            go_wp2
            go_roundw
            case rel => exact ⟨k + 1, by omega, by go_num, HB.out, KB.out, KR.out, hide (HR.out.trans HD.out)⟩
            case measure => simp [intOf]; omega
        · have HT := hide (show valM m ad = readM m.mem ad by unfold valM; rw [← HFE.out, HR.out, List.drop_eq_nil_of_le (by omega)]; rfl)
          have x1 := kb.cell 1
          simp at x1
          have HRM := (h.mem.below B4).more (show Q ≤ wr.heap.size by have := B4.size; omega)
          have HQ1 : Q + 1 < wr.heap.size := kr.lt
          go_wp2_with fail
          refine (valueAt_any m.mem A' c' ad _ (by unfold maxLen; omega) (by first | exact HRM | exact (h.mem.below B4).lt)).mono ?_
          rintro e w5 ⟨rfl, b5⟩
          have kr5 := kr.kept b5
          have B5 := B4.trans (b5.mono (by have := B4.size; omega))
          have q0 := kr5.cell 0
          have q1 := kr5.cell 1
          have f0 := kr5.frozen 0
          have f1 := kr5.frozen 1
          simp at q0 q1
          clear x1 kb kr kr5
          go_wp2
          refine bodyPost_ret (v := .agg #[.int .i64 0, .int .i64 (readM m.mem ad)]) (by simp [results, Try.results18, go_sem, q0, q1]) rfl ?_
          exact ⟨by rw [HT.out], (B5.setCell (by simp) _).setCell (by simp) _⟩
    · rw [vaC_no ha, vaV_no ha]
      have ha' : ad < 0 ∨ 999999 < ad := by omega
      clear ha
      go_enter Try.func18, Try.ntmps18
      generalize hQ : w.heap.size = Q at *
      go_wp2_with fail
      rw [← HW.out]
      refine HC.out.mono ?_
      rintro e w1 ⟨rfl, hb1⟩
      have hbx := B0.trans (hb1.mono (by omega))
      have j2 := (k2.kept hb1).alloc (Obj.cells #[.int .i64 ad] 2)
      have hbx := hbx.alloc (by have := hbx.size; omega) (Obj.cells #[.int .i64 ad] 2)
      have q0 := j2.cell 0
      have q1 := j2.cell 1
      have f0 := j2.frozen 0
      have f1 := j2.frozen 1
      simp at q0 q1
      clear hb1 HC
      go_wp2_with fail
      refine (allWithin_not _ _ _ _ _ _ (by simp [go_sem]) ha').mono ?_
      rintro e w2 ⟨rfl, rfl⟩
      go_wp2
      refine bodyPost_ret (v := .agg #[.int .i64 3, .int .i64 0]) (by simp [results, Try.results18, go_sem, q0, q1]) rfl ?_
      exact ⟨rfl, (hbx.setCell (by simp) _).setCell (by simp) _⟩
  · rw [vaC_bad hF, vaV_bad hF]
    generalize macF m = F at *
    have g0 : (F != 0) = true := bne_iff_ne.2 hF
    have g1 : (F == 0) = false := beq_eq_false_iff_ne.2 hF
    have HC := hide HM
    clear HM hF
    go_enter Try.func18, Try.ntmps18
    generalize hQ : w.heap.size = Q at *
    go_wp2_with fail
    rw [← HW.out]
    refine HC.out.mono ?_
    rintro e w1 ⟨rfl, hb1⟩
    have hbx := B0.trans (hb1.mono (by omega))
    have j2 := k2.kept hb1
    have q0 := j2.cell 0
    have q1 := j2.cell 1
    have f0 := j2.frozen 0
    have f1 := j2.frozen 1
    simp at q0 q1
    clear hb1 HC
    go_wp2
    refine bodyPost_ret (v := .agg #[.int .i64 F, .int .i64 0]) (by simp [results, Try.results18, go_sem, q0, q1]) rfl ?_
    exact ⟨rfl, (hbx.setCell (by simp) _).setCell (by simp) _⟩
end Go.Proofs.Ytifijhfeeammkaa
namespace Go.Proofs.Ytifijhfeeammkaa
open Go.RowKit

open Classical in
noncomputable def sameC (es fs : List Cel) : Bool := if es = fs then true else false
def SameToC (es fs : List Cel) (k : Nat) : Prop := ∀ i, i < k → es[i]? = fs[i]?
theorem SameToC.zero (es fs : List Cel) : SameToC es fs 0 := fun i hi => by omega
theorem SameToC.step {es fs : List Cel} {k : Nat} (h : SameToC es fs k) (hk : k < es.length) {hk' : k < fs.length} (he : es[k] = fs[k]) : SameToC es fs (k + 1) := fun i hi => by
  by_cases hik : i = k
  · subst hik
    rw [List.getElem?_eq_getElem hk, List.getElem?_eq_getElem hk', he]
  · exact h i (by omega)
theorem sameC_all {es fs : List Cel} (hl : es.length = fs.length) (h : SameToC es fs es.length) : sameC es fs = true := by
  refine if_pos ?_
  apply List.ext_getElem?
  intro i
  by_cases hi : i < es.length
  · exact h i hi
  · rw [List.getElem?_eq_none (by omega), List.getElem?_eq_none (by omega)]
theorem sameC_not {es fs : List Cel} {k : Nat} (hk : k < es.length) {hk' : k < fs.length} (he : ¬ es[k] = fs[k]) : sameC es fs = false := by
  refine if_neg ?_
  intro e
  subst e
  exact he rfl
theorem sameC_len {es fs : List Cel} (h : ¬ es.length = fs.length) : sameC es fs = false := by
  refine if_neg ?_
  intro e
  exact h (by rw [e])
theorem sameC_refl (es : List Cel) : sameC es es = true := if_pos rfl
set_option maxRecDepth 100000 in
set_option maxHeartbeats 400000 in
theorem lineEq_any (es fs : List Ev) (A A' : Option Addr) (c c' : Nat) (w : World) (hm : es.length ≤ maxLen) (h : RdE w w.heap.size A es) (h' : RdE w w.heap.size A' fs) :
    Calls Try.prog 76 #[.slice A es.length c, .slice A' fs.length c'] w fun e w' => e = .returned (.bool (sameE es fs)) ∧ Below w.heap.size w w' := by
  unfold maxLen at hm
  by_cases hlen : fs.length = es.length
  · have HS := hide (sameE_all hlen.symm)
    rw [hlen]
    have hfl : ∀ k : Nat, k < es.length → k < fs.length := fun k h => by omega
    have HF := hide hfl
    clear hfl hlen
    go_enter Try.func76, Try.ntmps76
    go_wp2
    go_loopw [13] (fun i wr => ∃ k : Nat, k ≤ es.length ∧ i = .int .i64 k ∧ Below w.heap.size w wr ∧ Hid (SameTo es fs k)) (fun i _ => es.length - (intOf i).toNat)
    case atStart => exact ⟨0, Nat.zero_le _, rfl, Below.refl _ _, hide (SameTo.zero es fs)⟩
    case round =>
      obtain ⟨k, hk, rfl, hb, HR⟩ := hrel
      by_cases hlt : k < es.length
      · obtain ⟨b, off, rfl, hbb, hc0, hc1, hc2⟩ := (h.below hb).get hlt
        obtain ⟨b', off', rfl, hbb', hd0, hd1, hd2⟩ := (h'.below hb).get (HF.out _ hlt)
        by_cases he : es[k] = fs[k]'(HF.out _ hlt)
        · have HE := hide (HR.out.step hlt he)
          rw [← he] at hd0 hd1 hd2
          clear he
          go_wp2
          go_quiet (fail)
          go_wp2
          go_roundw
          case rel => exact ⟨k + 1, by omega, by go_num, below_drewN hb _, HE⟩
          case measure => simp [intOf]; omega
        · have HE := hide (sameE_not hlt he)
          rcases ev_ne he with hx | ⟨hx0, hx⟩ | ⟨hx0, hx1, hx⟩
          · have f0 := beq_eq_false_iff_ne.2 hx
            clear he hx
            go_wp2
            go_quiet (fail)
            go_wp2
            go_ret
            exact ⟨ret_bool HE.out.symm, below_drewN hb _⟩
          · rw [← hx0] at hd0
            have f0 := beq_eq_false_iff_ne.2 hx
            clear he hx hx0
            go_wp2
            go_quiet (fail)
            go_wp2
            go_ret
            exact ⟨ret_bool HE.out.symm, below_drewN hb _⟩
          · rw [← hx0] at hd0
            rw [← hx1] at hd1
            have f0 := beq_eq_false_iff_ne.2 hx
            clear he hx hx0 hx1
            go_wp2
            go_quiet (fail)
            go_wp2
            go_ret
            exact ⟨ret_bool HE.out.symm, below_drewN hb _⟩
      · obtain rfl : k = es.length := by omega
        go_wp2
        go_ret
        exact ⟨ret_bool (HS.out HR.out).symm, hb⟩
  · rw [sameE_len (fun e => hlen e.symm)]
    have f0 : ((es.length : Int) == (fs.length : Int)) = false := beq_eq_false_iff_ne.2 (by omega)
    have f1 : ((es.length : Int) != (fs.length : Int)) = true := bne_iff_ne.2 (by omega)
    clear hlen
    go_enter Try.func76, Try.ntmps76
    go_wp2
    go_ret
    exact ⟨rfl, Below.refl _ _⟩

set_option maxRecDepth 100000 in
set_option maxHeartbeats 400000 in
theorem cellEq_any (es fs : List Cel) (A A' : Option Addr) (c c' : Nat) (w : World) (hm : es.length ≤ maxLen) (h : RdC w w.heap.size A es) (h' : RdC w w.heap.size A' fs) :
    Calls Try.prog 77 #[.slice A es.length c, .slice A' fs.length c'] w fun e w' => e = .returned (.bool (sameC es fs)) ∧ Below w.heap.size w w' := by
  unfold maxLen at hm
  by_cases hlen : fs.length = es.length
  · have HS := hide (sameC_all hlen.symm)
    rw [hlen]
    have hfl : ∀ k : Nat, k < es.length → k < fs.length := fun k h => by omega
    have HF := hide hfl
    clear hfl hlen
    go_enter Try.func77, Try.ntmps77
    go_wp2
    go_loopw [13] (fun i wr => ∃ k : Nat, k ≤ es.length ∧ i = .int .i64 k ∧ Below w.heap.size w wr ∧ Hid (SameToC es fs k)) (fun i _ => es.length - (intOf i).toNat)
    case atStart => exact ⟨0, Nat.zero_le _, rfl, Below.refl _ _, hide (SameToC.zero es fs)⟩
    case round =>
      obtain ⟨k, hk, rfl, hb, HR⟩ := hrel
      by_cases hlt : k < es.length
      · obtain ⟨b, off, rfl, hbb, hc0, hc1⟩ := (h.below hb).get hlt
        obtain ⟨b', off', rfl, hbb', hd0, hd1⟩ := (h'.below hb).get (HF.out _ hlt)
        by_cases he : es[k] = fs[k]'(HF.out _ hlt)
        · have HE := hide (HR.out.step hlt he)
          rw [← he] at hd0 hd1
          clear he
          go_wp2
          go_quiet (fail)
          go_wp2
          go_roundw
          case rel => exact ⟨k + 1, by omega, by go_num, below_drewN hb _, HE⟩
          case measure => simp [intOf]; omega
        · have HE := hide (sameC_not hlt he)
          rcases cel_ne7 he with hx | ⟨hx0, hx⟩
          · have f0 := beq_eq_false_iff_ne.2 hx
            clear he hx
            go_wp2
            go_quiet (fail)
            go_wp2
            go_ret
            exact ⟨ret_bool HE.out.symm, below_drewN hb _⟩
          · rw [← hx0] at hd0
            have f0 := beq_eq_false_iff_ne.2 hx
            clear he hx hx0
            go_wp2
            go_quiet (fail)
            go_wp2
            go_ret
            exact ⟨ret_bool HE.out.symm, below_drewN hb _⟩
      · obtain rfl : k = es.length := by omega
        go_wp2
        go_ret
        exact ⟨ret_bool (HS.out HR.out).symm, hb⟩
  · rw [sameC_len (fun e => hlen e.symm)]
    have f0 : ((es.length : Int) == (fs.length : Int)) = false := beq_eq_false_iff_ne.2 (by omega)
    have f1 : ((es.length : Int) != (fs.length : Int)) = true := bne_iff_ne.2 (by omega)
    clear hlen
    go_enter Try.func77, Try.ntmps77
    go_wp2
    go_ret
    exact ⟨rfl, Below.refl _ _⟩

set_option maxRecDepth 100000 in
set_option maxHeartbeats 400000 in
theorem eqFuncL_any (t u : List (List Ev)) (A A' : Option Addr) (c c' : Nat) (w : World) (hm : t.length ≤ maxLen) (h : RdT w w.heap.size A t) (h' : RdT w w.heap.size A' u) :
    Calls Try.prog 75 #[.slice A t.length c, .slice A' u.length c', .func (.func 76) #[] #[]] w fun e w' => e = .returned (.bool (sameT t u)) ∧ Below w.heap.size w w' := by
  unfold maxLen at hm
  by_cases hlen : u.length = t.length
  · have HS := hide (sameT_all hlen.symm)
    have hfl : ∀ k : Nat, k < t.length → k < u.length := fun k h => by omega
    have HF := hide hfl
    rw [hlen]
    clear hfl hlen
    go_enter Try.func75, Try.ntmps75
    go_wp2
    go_loopw [17] (fun i wr => ∃ k : Nat, k ≤ t.length ∧ i = .int .i64 k ∧ Below w.heap.size w wr ∧ Hid (SameToT t u k)) (fun i _ => t.length - (intOf i).toNat)
    case atStart => exact ⟨0, Nat.zero_le _, rfl, Below.refl _ _, hide (SameToT.zero t u)⟩
    case round =>
      obtain ⟨k, hk, rfl, hb, HR⟩ := hrel
      by_cases hlt : k < t.length
      · obtain ⟨b, off, a, d, rfl, hbb, hc0, hle, hcm, hr⟩ := (h.below hb).get hlt
        obtain ⟨b', off', a', d', rfl, hbb', hd0, hle', hdm, hr'⟩ := (h'.below hb).get (HF.out _ hlt)
        by_cases he : t[k] = u[k]'(HF.out _ hlt)
        · have HE := hide (HR.out.step hlt he)
          have SP := hide (fun W => lineEq_any t[k] (u[k]'(HF.out _ hlt)) a a' d d' W (by omega))
          rw [show sameE t[k] (u[k]'(HF.out _ hlt)) = true by rw [← he]; exact sameE_refl _] at SP
          clear he
          go_wp2_with fail
          refine (SP.out _ hr.lt hr'.lt).mono ?_
          rintro e w3 ⟨rfl, hb3⟩
          have hb4 := hb.trans (hb3.mono hb.size)
          go_wp2
          go_roundw
          case rel => exact ⟨k + 1, by omega, by go_num, hb4, HE⟩
          case measure => simp [intOf]; omega
        · have HE := hide (sameT_not hlt he)
          have SP := hide (fun W => lineEq_any t[k] (u[k]'(HF.out _ hlt)) a a' d d' W (by omega))
          rw [show sameE t[k] (u[k]'(HF.out _ hlt)) = false from if_neg he] at SP
          clear he
          go_wp2_with fail
          refine (SP.out _ hr.lt hr'.lt).mono ?_
          rintro e w3 ⟨rfl, hb3⟩
          have hb4 := hb.trans (hb3.mono hb.size)
          go_wp2
          go_ret
          exact ⟨ret_bool HE.out.symm, hb4⟩
      · obtain rfl : k = t.length := by omega
        go_wp2
        go_ret
        exact ⟨ret_bool (HS.out HR.out).symm, hb⟩
  · rw [sameT_len (fun e => hlen e.symm)]
    have f0 : ((t.length : Int) == (u.length : Int)) = false := beq_eq_false_iff_ne.2 (by omega)
    have f1 : ((t.length : Int) != (u.length : Int)) = true := bne_iff_ne.2 (by omega)
    clear hlen
    go_enter Try.func75, Try.ntmps75
    go_wp2
    go_ret
    exact ⟨rfl, Below.refl _ _⟩

theorem sameM_split (m n : Mac) : sameM m n = (sameT m.cs n.cs && sameC m.mem n.mem) := by
  unfold sameM sameT sameC
  by_cases h : m.cs = n.cs
  · by_cases h2 : m.mem = n.mem
    · rw [if_pos ⟨h, h2⟩, if_pos h, if_pos h2]; rfl
    · rw [if_neg (fun e => h2 e.2), if_pos h, if_neg h2]; rfl
  · rw [if_neg (fun e => h e.1), if_neg h]; rfl
set_option maxRecDepth 100000 in
theorem implSM_any (m n : Mac) (A A' Z Z' : Option Addr) (c c' d d' : Nat) (w : World) (h1 : m.cs.length ≤ maxLen) (h2 : m.mem.length ≤ maxLen) (h : RdMac w w.heap.size A A' m) (k : RdMac w w.heap.size Z Z' n) :
    Calls Try.prog 23 #[macV A m.cs.length c A' m.mem.length c', macV Z n.cs.length d Z' n.mem.length d'] w fun e w' => e = .returned (.bool (sameM m n)) ∧ Below w.heap.size w w' := by
  obtain ⟨W, hW⟩ : ∃ W, W = (w.alloc (Obj.cells #[.slice A m.cs.length c, .slice A' m.mem.length c'] 27)).alloc (Obj.cells #[.slice Z n.cs.length d, .slice Z' n.mem.length d'] 27) := ⟨_, rfl⟩
  obtain ⟨k1, k2, hz, B0⟩ := two_new _ _ _ _ _ W hW
  have HW := hide hW
  have hR := (h.below B0).lt
  have kR := (k.below B0).lt
  clear hW
  have SP := hide (sameM_split m n)
  obtain ⟨x, hx⟩ : ∃ x, x = sameT m.cs n.cs := ⟨_, rfl⟩
  obtain ⟨y, hy⟩ : ∃ y, y = sameC m.mem n.mem := ⟨_, rfl⟩
  have IM := hide (fun W => eqFuncL_any m.cs n.cs A Z c d W h1)
  have IC := hide (fun W => cellEq_any m.mem n.mem A' Z' c' d' W h2)
  rw [← hx] at SP IM
  rw [← hy] at SP IC
  clear hx hy
  go_enter Try.func23, Try.ntmps23
  go_wp2_with fail
  rw [← HW.out]
  refine (IM.out _ hR.cs kR.cs).mono ?_
  rintro e w1 ⟨rfl, hb⟩
  have B1 := B0.trans (hb.mono B0.size)
  have q1 := (k1.kept hb).cell 1
  have q2 := (k2.kept hb).cell 1
  simp at q1 q2
  have hR1 := (hR.mem.below hb).lt
  have kR1 := (kR.mem.below hb).lt
  clear k1 k2
  cases x
  · go_wp2
    go_ret
    exact ⟨ret_bool (by rw [SP.out]; rfl), B1⟩
  · go_wp2_with fail
    refine (IC.out _ hR1 kR1).mono ?_
    rintro e w2 ⟨rfl, hb2⟩
    go_wp2
    go_ret
    exact ⟨ret_bool (by rw [SP.out]; rfl), B1.trans (hb2.mono B1.size)⟩
end Go.Proofs.Ytifijhfeeammkaa
