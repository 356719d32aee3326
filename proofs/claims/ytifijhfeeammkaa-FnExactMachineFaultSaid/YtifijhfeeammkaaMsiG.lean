/- Contracts of chapter 7's faults of programs and lines, in the model. -/
import Derived.Test.YtifijhfeeammkaaMsiF
namespace Go.Proofs.Ytifijhfeeammkaa
open Go.RowKit

theorem opsF_drop (l : List Ev) (i : Nat) (h : i < l.length) : opsF (l.drop i) = if opF l[i] = 0 then opsF (l.drop (i + 1)) else opF l[i] := by rw [List.drop_eq_getElem_cons h, opsF]
theorem prsF_drop (t : List (List Ev)) (i : Nat) (h : i < t.length) : prsF (t.drop i) = if prF t[i] = 0 then prsF (t.drop (i + 1)) else prF t[i] := by rw [List.drop_eq_getElem_cons h, prsF]
set_option maxRecDepth 100000 in
set_option maxHeartbeats 800000 in
theorem specPgF_any (t : List (List Ev)) (A : Option Addr) (c : Nat) (w : World) (hm : t.length ≤ maxLen) (h : RdT w w.heap.size A t) :
    Calls Try.prog 37 #[.slice A t.length c] w fun e w' => e = .returned (.int .i64 (pgF t)) ∧ Below w.heap.size w w' := by
  unfold maxLen at hm
  by_cases h4 : 1 ≤ t.length ∧ t.length ≤ 4
  · have HF := hide (show pgF t = prsF t from if_pos h4)
    obtain ⟨h41, h42⟩ := h4
    go_enter Try.func37, Try.ntmps37
    go_wp2
    go_loopw [16] (fun i wr => ∃ k : Nat, k ≤ t.length ∧ i = .int .i64 k ∧ Below w.heap.size w wr ∧ Hid (prsF t = prsF (t.drop k))) (fun i _ => t.length - (intOf i).toNat)
    case atStart => exact ⟨0, Nat.zero_le _, rfl, Below.refl _ _, hide rfl⟩
    case round =>
      obtain ⟨k, hk, rfl, hb, HR⟩ := hrel
      by_cases hlt : k < t.length
      · obtain ⟨b, off, a, d, rfl, hbb, hc0, hle, hcm, hr⟩ := (h.below hb).get hlt
        have hd := prsF_drop t k hlt
        by_cases h8 : t[k].length ≤ 8
        · have HP := hide (show prF t[k] = opsF t[k] from if_pos h8)
          have HD := hide hd
          clear hd
          go_wp2
          clear hc0 hr
          go_loopw [30] (fun i w2 => ∃ j : Nat, j ≤ t[k].length ∧ i = .int .i64 j ∧ Below w.heap.size w w2 ∧ Hid (opsF t[k] = opsF (t[k].drop j))) (fun i _ => t[k].length - (intOf i).toNat)
          case atStart => exact ⟨0, Nat.zero_le _, rfl, hb, hide rfl⟩
          case round =>
            obtain ⟨j, hj, rfl, hb2, HS⟩ := hrel
            by_cases hl2 : j < t[k].length
            · obtain ⟨b', off', a', d', hA, _, hc1, hle', hcm', hr1⟩ := (h.below hb2).get hlt
              cases hA
              obtain ⟨b3, off3, rfl, _, e0, e1, e2⟩ := hr1.get hl2
              have hd2 := opsF_drop t[k] j hl2
              have IM := hide (fun W => specOpF_any t[k][j].k t[k][j].a t[k][j].v W)
              by_cases h0 : opF t[k][j] = 0
              · rw [if_pos h0] at hd2
                rw [show opF ⟨t[k][j].k, t[k][j].a, t[k][j].v⟩ = 0 from h0] at IM
                have HD2 := hide hd2
                clear hd2 h0
                go_wp2_with fail
                refine (IM.out _).mono ?_
                rintro e w3 ⟨rfl, hb3⟩
                have hb4 := hb2.trans (hb3.mono hb2.size)
                go_wp2
                go_roundw
                case rel => exact ⟨j + 1, by omega, by go_num, hb4, hide (HS.out.trans HD2.out)⟩
                case measure => simp [intOf]; omega
              · rw [if_neg h0] at hd2
                have hp : prF t[k] = opF t[k][j] := by rw [HP.out, HS.out, hd2]
                obtain ⟨F, hF⟩ : ∃ F, F = opF t[k][j] := ⟨_, rfl⟩
                have hD3 := HD.out
                rw [hp, if_neg h0] at hD3
                rw [← hF] at h0 hD3
                rw [show opF ⟨t[k][j].k, t[k][j].a, t[k][j].v⟩ = F from hF.symm] at IM
                have f0 : (F != 0) = true := bne_iff_ne.2 h0
                have f1 : (F == 0) = false := beq_eq_false_iff_ne.2 h0
                have HD3 := hide hD3
                clear hd2 h0 hF hp hD3
                go_wp2_with fail
                refine (IM.out _).mono ?_
                rintro e w3 ⟨rfl, hb3⟩
                have hb4 := hb2.trans (hb3.mono hb2.size)
                go_wp2
                go_ret
                exact ⟨ret_int (by rw [HF.out, HR.out, HD3.out]), hb4⟩
            · have hp : prF t[k] = 0 := by rw [HP.out, HS.out, List.drop_eq_nil_of_le (by omega)]; rfl
              have hD3 := HD.out
              rw [if_pos hp] at hD3
              have HD3 := hide hD3
              clear hp hD3
              go_wp2
              go_roundw
              case rel => exact ⟨k + 1, by omega, by go_num, hb2, hide (HR.out.trans HD3.out)⟩
              case measure => simp [intOf]; omega
        · have hp : prF t[k] = 2 := if_neg h8
          rw [hp, if_neg (by omega)] at hd
          have HD := hide hd
          clear hd hp
          go_wp2
          go_ret
          exact ⟨ret_int (by rw [HF.out, HR.out, HD.out]), hb⟩
      · have hd : prsF (t.drop k) = 0 := by rw [List.drop_eq_nil_of_le (by omega)]; rfl
        have HD := hide hd
        clear hd
        go_wp2
        go_ret
        exact ⟨ret_int (by rw [HF.out, HR.out, HD.out]), hb⟩
  · rw [show pgF t = 2 from if_neg h4]
    by_cases h1 : t.length < 1
    · go_enter Try.func37, Try.ntmps37
      go_wp2
      go_ret
      exact ⟨rfl, Below.refl _ _⟩
    · have h2 : 4 < t.length := by omega
      clear h4
      go_enter Try.func37, Try.ntmps37
      go_wp2
      go_ret
      exact ⟨rfl, Below.refl _ _⟩

section
variable {s a v : Int} {L k : Nat}
theorem lineF_k (h : ¬ (0 ≤ s ∧ s ≤ 2)) : lineF L k ⟨s, a, v⟩ = 1 := by unfold lineF; rw [if_neg (fun hh => h hh.1)]
theorem lineF_z (h : s = 0) (h2 : ¬ (a = 0 ∧ v = 0)) : lineF L k ⟨s, a, v⟩ = 1 := by unfold lineF; rw [if_neg (fun hh => h2 (hh.2 h))]
theorem lineF_r (h : 0 ≤ s ∧ s ≤ 2) (hz : s ≠ 0) (h2 : ¬ (0 ≤ a ∧ a ≤ 999999 ∧ 0 ≤ v ∧ v ≤ 999999)) : lineF L k ⟨s, a, v⟩ = 3 := by unfold lineF; rw [if_pos ⟨h, fun e => absurd e hz⟩, if_neg h2]
theorem lineF_p (h : 0 ≤ s ∧ s ≤ 2) (hz : s ≠ 0) (h2 : 0 ≤ a ∧ a ≤ 999999 ∧ 0 ≤ v ∧ v ≤ 999999) (h3 : a % (L : Int) ≠ (k : Int)) : lineF L k ⟨s, a, v⟩ = 1 := by unfold lineF; rw [if_pos ⟨h, fun e => absurd e hz⟩, if_pos h2, if_pos ⟨hz, h3⟩]
theorem lineF_o (h : 0 ≤ s ∧ s ≤ 2) (hz : s ≠ 0) (h2 : 0 ≤ a ∧ a ≤ 999999 ∧ 0 ≤ v ∧ v ≤ 999999) (h3 : a % (L : Int) = (k : Int)) : lineF L k ⟨s, a, v⟩ = 0 := by unfold lineF; rw [if_pos ⟨h, fun e => absurd e hz⟩, if_pos h2, if_neg (fun hh => hh.2 h3)]
end
set_option maxRecDepth 100000 in
theorem l7Line_any (s a v : Int) (b o k L : Nat) (w : World) (hL : 1 ≤ L ∧ L ≤ 1000) (c0 : w.cell? ⟨b, o, none⟩ = some (.int .i64 s)) (c1 : w.cell? ⟨b, o + 1, none⟩ = some (.int .i64 a)) (c2 : w.cell? ⟨b, o + 2, none⟩ = some (.int .i64 v)) :
    Calls Try.prog 88 #[.pointer (some ⟨b, o, none⟩), .int .i64 k, .int .i64 L] w fun e w' => e = .returned (.int .i64 (lineF L k ⟨s, a, v⟩)) ∧ w = w' := by
  obtain ⟨hL1, hL2⟩ := hL
  by_cases hs : 0 ≤ s ∧ s ≤ 2
  · by_cases hz : s = 0
    · by_cases h0 : a = 0 ∧ v = 0
      · rw [show lineF L k ⟨s, a, v⟩ = 0 by rw [hz, h0.1, h0.2]; exact lineF_Z L k]
        obtain ⟨rfl, rfl⟩ := h0
        subst hz
        go_enter Try.func88, Try.ntmps88
        go_wp2_with fail
        refine (l1In_yes _ _ _ _ (by omega)).mono ?_
        rintro e w1 ⟨rfl, rfl⟩
        go_wp2_with fail
        refine (l1In_yes _ _ _ _ (by omega)).mono ?_
        rintro e w1 ⟨rfl, rfl⟩
        go_wp2_with fail
        refine (l1In_yes _ _ _ _ (by omega)).mono ?_
        rintro e w1 ⟨rfl, rfl⟩
        go_wp2
        go_ret
        exact ⟨rfl, rfl⟩
      · rw [lineF_z hz h0]
        subst hz
        by_cases ha : a = 0
        · have hv : ¬ v = 0 := fun e => h0 ⟨ha, e⟩
          have f0 : (v == 0) = false := beq_eq_false_iff_ne.2 hv
          subst ha
          clear h0 hv
          go_enter Try.func88, Try.ntmps88
          go_wp2_with fail
          refine (l1In_yes _ _ _ _ (by omega)).mono ?_
          rintro e w1 ⟨rfl, rfl⟩
          go_wp2
          go_ret
          exact ⟨rfl, rfl⟩
        · have f0 : (a == 0) = false := beq_eq_false_iff_ne.2 ha
          clear h0 ha
          go_enter Try.func88, Try.ntmps88
          go_wp2_with fail
          refine (l1In_yes _ _ _ _ (by omega)).mono ?_
          rintro e w1 ⟨rfl, rfl⟩
          go_wp2
          go_ret
          exact ⟨rfl, rfl⟩
    · have f0 : (s == 0) = false := beq_eq_false_iff_ne.2 hz
      have f1 : (s != 0) = true := bne_iff_ne.2 hz
      by_cases ha : 0 ≤ a ∧ a ≤ 999999
      · by_cases hv : 0 ≤ v ∧ v ≤ 999999
        · have ht : a.tmod (L : Int) = a % (L : Int) := Int.tmod_eq_emod_of_nonneg ha.1
          have hr0 := Int.emod_nonneg a (show (L : Int) ≠ 0 by omega)
          have hr1 := Int.emod_lt_of_pos a (show (0 : Int) < (L : Int) by omega)
          by_cases hp : a % (L : Int) = (k : Int)
          · rw [lineF_o hs hz ⟨ha.1, ha.2, hv.1, hv.2⟩ hp]
            rw [hp] at ht hr0 hr1
            clear hp hz
            go_enter Try.func88, Try.ntmps88
            go_wp2_with fail
            refine (l1In_yes _ _ _ _ hs).mono ?_
            rintro e w1 ⟨rfl, rfl⟩
            go_wp2_with fail
            refine (l1In_yes _ _ _ _ ha).mono ?_
            rintro e w1 ⟨rfl, rfl⟩
            go_wp2_with fail
            refine (l1In_yes _ _ _ _ hv).mono ?_
            rintro e w1 ⟨rfl, rfl⟩
            go_wp2
            go_ret
            exact ⟨rfl, rfl⟩
          · rw [lineF_p hs hz ⟨ha.1, ha.2, hv.1, hv.2⟩ hp]
            obtain ⟨r, hr⟩ : ∃ r, r = a % (L : Int) := ⟨_, rfl⟩
            rw [← hr] at hp ht hr0 hr1
            have g0 : (r == (k : Int)) = false := beq_eq_false_iff_ne.2 hp
            have g1 : (r != (k : Int)) = true := bne_iff_ne.2 hp
            clear hp hz hr
            go_enter Try.func88, Try.ntmps88
            go_wp2_with fail
            refine (l1In_yes _ _ _ _ hs).mono ?_
            rintro e w1 ⟨rfl, rfl⟩
            go_wp2_with fail
            refine (l1In_yes _ _ _ _ ha).mono ?_
            rintro e w1 ⟨rfl, rfl⟩
            go_wp2_with fail
            refine (l1In_yes _ _ _ _ hv).mono ?_
            rintro e w1 ⟨rfl, rfl⟩
            go_wp2
            go_ret
            exact ⟨rfl, rfl⟩
        · rw [lineF_r hs hz (fun hh => hv ⟨hh.2.2.1, hh.2.2.2⟩)]
          have hv' : v < 0 ∨ 999999 < v := by omega
          clear hv hz
          go_enter Try.func88, Try.ntmps88
          go_wp2_with fail
          refine (l1In_yes _ _ _ _ hs).mono ?_
          rintro e w1 ⟨rfl, rfl⟩
          go_wp2_with fail
          refine (l1In_yes _ _ _ _ ha).mono ?_
          rintro e w1 ⟨rfl, rfl⟩
          go_wp2_with fail
          refine (l1In_no _ _ _ _ hv').mono ?_
          rintro e w1 ⟨rfl, rfl⟩
          go_wp2
          go_ret
          exact ⟨rfl, rfl⟩
      · rw [lineF_r hs hz (fun hh => ha ⟨hh.1, hh.2.1⟩)]
        have ha' : a < 0 ∨ 999999 < a := by omega
        clear ha hz
        go_enter Try.func88, Try.ntmps88
        go_wp2_with fail
        refine (l1In_yes _ _ _ _ hs).mono ?_
        rintro e w1 ⟨rfl, rfl⟩
        go_wp2_with fail
        refine (l1In_no _ _ _ _ ha').mono ?_
        rintro e w1 ⟨rfl, rfl⟩
        go_wp2
        go_ret
        exact ⟨rfl, rfl⟩
  · rw [lineF_k hs]
    have hs' : s < 0 ∨ 2 < s := by omega
    clear hs
    go_enter Try.func88, Try.ntmps88
    go_wp2_with fail
    refine (l1In_no _ _ _ _ hs').mono ?_
    rintro e w1 ⟨rfl, rfl⟩
    go_wp2
    go_ret
    exact ⟨rfl, rfl⟩
end Go.Proofs.Ytifijhfeeammkaa
