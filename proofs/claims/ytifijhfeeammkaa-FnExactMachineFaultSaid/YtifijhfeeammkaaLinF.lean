/- Contracts of a line's fault and of a machine's sizes, in the program. -/
import Derived.Test.YtifijhfeeammkaaMsiH
namespace Go.Proofs.Ytifijhfeeammkaa
open Go.RowKit

set_option maxRecDepth 100000 in
set_option maxHeartbeats 800000 in
theorem lineFault_any (s a v : Int) (k L : Nat) (w : World) (hL : 1 ≤ L ∧ L ≤ 1000) :
    Calls Try.prog 84 #[evV s a v, .int .i64 k, .int .i64 L] w fun e w' => e = .returned (.int .i64 (lineF L k ⟨s, a, v⟩)) ∧ Below w.heap.size w w' := by
  obtain ⟨hL1, hL2⟩ := hL
  by_cases hs : 0 ≤ s ∧ s ≤ 2
  · by_cases hz : s = 0
    · by_cases h0 : a = 0 ∧ v = 0
      · rw [show lineF L k ⟨s, a, v⟩ = 0 by rw [hz, h0.1, h0.2]; exact lineF_Z L k]
        obtain ⟨rfl, rfl⟩ := h0
        subst hz
        go_enter Try.func84, Try.ntmps84
        go_wp2
        go_ret
        exact ⟨rfl, by go_grown⟩
      · rw [lineF_z hz h0]
        subst hz
        by_cases ha : a = 0
        · have hv : ¬ v = 0 := fun e => h0 ⟨ha, e⟩
          have f0 : (v == 0) = false := beq_eq_false_iff_ne.2 hv
          subst ha
          clear h0 hv hs
          go_enter Try.func84, Try.ntmps84
          go_wp2
          go_ret
          exact ⟨rfl, by go_grown⟩
        · have f0 : (a == 0) = false := beq_eq_false_iff_ne.2 ha
          clear h0 ha hs
          go_enter Try.func84, Try.ntmps84
          go_wp2
          go_ret
          exact ⟨rfl, by go_grown⟩
    · have hs12 : s = 1 ∨ s = 2 := by omega
      by_cases ha : 0 ≤ a ∧ a ≤ 999999
      · by_cases hv : 0 ≤ v ∧ v ≤ 999999
        · have ht : a.tmod (L : Int) = a % (L : Int) := Int.tmod_eq_emod_of_nonneg ha.1
          have hr0 := Int.emod_nonneg a (show (L : Int) ≠ 0 by omega)
          have hr1 := Int.emod_lt_of_pos a (show (0 : Int) < (L : Int) by omega)
          by_cases hp : a % (L : Int) = (k : Int)
          · rw [lineF_o hs hz ⟨ha.1, ha.2, hv.1, hv.2⟩ hp]
            rw [hp] at ht hr0 hr1
            clear hp hz hs
            rcases hs12 with rfl | rfl
            all_goals
              go_enter Try.func84, Try.ntmps84
              go_wp2_with fail
              refine (allWithin_one _ _ _ _ _ _ (by simp [go_sem]) ha).mono ?_
              rintro e w1 ⟨rfl, rfl⟩
              go_wp2_with fail
              refine (allWithin_one _ _ _ _ _ _ (by simp [go_sem]) hv).mono ?_
              rintro e w1 ⟨rfl, rfl⟩
              go_wp2
              go_ret
              exact ⟨rfl, by go_grown⟩
          · rw [lineF_p hs hz ⟨ha.1, ha.2, hv.1, hv.2⟩ hp]
            obtain ⟨r, hr⟩ : ∃ r, r = a % (L : Int) := ⟨_, rfl⟩
            rw [← hr] at hp ht hr0 hr1
            have g0 : (r == (k : Int)) = false := beq_eq_false_iff_ne.2 hp
            have g1 : (r != (k : Int)) = true := bne_iff_ne.2 hp
            clear hp hz hr hs
            rcases hs12 with rfl | rfl
            all_goals
              go_enter Try.func84, Try.ntmps84
              go_wp2_with fail
              refine (allWithin_one _ _ _ _ _ _ (by simp [go_sem]) ha).mono ?_
              rintro e w1 ⟨rfl, rfl⟩
              go_wp2_with fail
              refine (allWithin_one _ _ _ _ _ _ (by simp [go_sem]) hv).mono ?_
              rintro e w1 ⟨rfl, rfl⟩
              go_wp2
              go_ret
              exact ⟨rfl, by go_grown⟩
        · rw [lineF_r hs hz (fun hh => hv ⟨hh.2.2.1, hh.2.2.2⟩)]
          have hv' : v < 0 ∨ 999999 < v := by omega
          clear hv hz hs
          rcases hs12 with rfl | rfl
          all_goals
            go_enter Try.func84, Try.ntmps84
            go_wp2_with fail
            refine (allWithin_one _ _ _ _ _ _ (by simp [go_sem]) ha).mono ?_
            rintro e w1 ⟨rfl, rfl⟩
            go_wp2_with fail
            refine (allWithin_not _ _ _ _ _ _ (by simp [go_sem]) hv').mono ?_
            rintro e w1 ⟨rfl, rfl⟩
            go_wp2
            go_ret
            exact ⟨rfl, by go_grown⟩
      · rw [lineF_r hs hz (fun hh => ha ⟨hh.1, hh.2.1⟩)]
        have ha' : a < 0 ∨ 999999 < a := by omega
        clear ha hz hs
        rcases hs12 with rfl | rfl
        all_goals
          go_enter Try.func84, Try.ntmps84
          go_wp2_with fail
          refine (allWithin_not _ _ _ _ _ _ (by simp [go_sem]) ha').mono ?_
          rintro e w1 ⟨rfl, rfl⟩
          go_wp2
          go_ret
          exact ⟨rfl, by go_grown⟩
  · rw [lineF_k hs]
    have f0 : (s == 0) = false := beq_eq_false_iff_ne.2 (by omega)
    have f1 : (s == 1) = false := beq_eq_false_iff_ne.2 (by omega)
    have f2 : (s == 2) = false := beq_eq_false_iff_ne.2 (by omega)
    have f3 : (s != 1) = true := bne_iff_ne.2 (by omega)
    have f4 : (s != 2) = true := bne_iff_ne.2 (by omega)
    clear hs
    go_enter Try.func84, Try.ntmps84
    go_wp2
    go_ret
    exact ⟨rfl, by go_grown⟩

set_option maxRecDepth 100000 in
set_option maxHeartbeats 800000 in
theorem sizesHold_any (m : Mac) (A A' : Option Addr) (c c' : Nat) (w : World) (h1 : m.cs.length ≤ maxLen) (h2 : m.mem.length ≤ maxLen) (h : RdMac w w.heap.size A A' m) :
    Calls Try.prog 82 #[macV A m.cs.length c A' m.mem.length c'] w fun e w' => e = .returned (.bool (sizB m)) ∧ Below w.heap.size w w' := by
  unfold maxLen at h1 h2
  by_cases hn : 1 ≤ (m.cs.length : Int) ∧ (m.cs.length : Int) ≤ 4
  · obtain ⟨hn1, hn2⟩ := hn
    have hpos : 0 < m.cs.length := by omega
    have kb := Bk.new w #[.slice A m.cs.length c, .slice A' m.mem.length c'] 27
    have hb0 := (Below.refl w.heap.size w).alloc (Nat.le_refl _) (Obj.cells #[.slice A m.cs.length c, .slice A' m.mem.length c'] 27)
    have hbx := fun o => hb0.alloc hb0.size o
    have kx := fun o => kb.below ((Below.refl _ _).alloc (Nat.le_refl _) o) kb.lt
    have HB := hide hbx
    have HK := hide kx
    clear hbx kx kb hb0
    go_enter Try.func82, Try.ntmps82
    go_wp2_with fail
    refine (allWithin_one _ _ _ _ _ _ (by simp [go_sem]) ⟨hn1, hn2⟩).mono ?_
    rintro e w1 ⟨rfl, rfl⟩
    go_wp2
    go_loopw [14] (fun i wr => ∃ k : Nat, k ≤ m.cs.length ∧ i = .int .i64 k ∧ Below w.heap.size w wr ∧ Bk wr w.heap.size #[.slice A m.cs.length c, .slice A' m.mem.length c'] 27 ∧ Hid (∀ i (hi : i < m.cs.length), i < k → m.cs[i].length = m.cs[0].length)) (fun i _ => m.cs.length - (intOf i).toNat)
    case atStart => exact ⟨0, Nat.zero_le _, rfl, HB.out _, HK.out _, hide fun _ _ h => by omega⟩
    case round =>
      obtain ⟨k, hk, rfl, hb, kb, HR⟩ := hrel
      have x0 := kb.cell 0
      have x1 := kb.cell 1
      simp at x0 x1
      obtain ⟨b0, off0, a0, d0, hA, _, hc0, hle0, hcm0, _⟩ := (h.cs.below hb).get hpos
      subst hA
      simp at hc0
      by_cases hlt : k < m.cs.length
      · obtain ⟨b, off, a, d, hA, _, hc1, hle, hcm, _⟩ := (h.cs.below hb).get hlt
        cases hA
        unfold maxLen at hcm hcm0
        by_cases he : m.cs[k].length = m.cs[0].length
        · rw [he] at hc1 hle
          have HE := hide (show ∀ i (hi : i < m.cs.length), i < k + 1 → m.cs[i].length = m.cs[0].length from fun i hi hik => by
            by_cases e : i = k
            · subst e; exact he
            · exact HR.out i hi (by omega))
          clear he
          go_wp2
          go_roundw
          case rel => exact ⟨k + 1, by omega, by go_num, hb, kb, HE⟩
          case measure => simp [intOf]; omega
        · have hno : ¬ Siz m := fun hs => he (by
            have e1 := hs.2.2.1 _ (List.getElem_mem hlt)
            have e2 := hs.2.2.1 _ (List.getElem_mem hpos)
            rw [e1, e2])
          have HS := hide (sizB_no hno)
          obtain ⟨R, hR⟩ : ∃ R, R = m.cs[k].length := ⟨_, rfl⟩
          obtain ⟨S, hS⟩ : ∃ S, S = m.cs[0].length := ⟨_, rfl⟩
          rw [← hR] at hc1 he hle
          rw [← hS] at hc0 he hle0
          have f1 : ((R : Int) != (S : Int)) = true := bne_iff_ne.2 (by omega)
          have f0 : ((R : Int) == (S : Int)) = false := beq_eq_false_iff_ne.2 (by omega)
          clear hno he hR hS HR
          go_wp2
          go_ret
          exact ⟨ret_bool (by rw [HS.out]), hb⟩
      · have hrow : ∀ l ∈ m.cs, l.length = (m.cs.getD 0 []).length := fun l hl => by
          obtain ⟨i, hi, rfl⟩ := List.getElem_of_mem hl
          rw [getD0 hpos]
          exact HR.out i hi (by omega)
        by_cases hL : 1 ≤ (m.cs[0].length : Int) ∧ (m.cs[0].length : Int) ≤ 4
        · by_cases hM : m.mem.length ≤ 32
          · have HS := hide (sizB_yes (show Siz m from ⟨by omega, hM, hrow, by rw [getD0 hpos]; omega⟩))
            have HB2 := hide (fun o => hb.alloc (by have := hb.size; omega) o)
            have y1 := fun o => (kb.below ((Below.refl _ _).alloc (Nat.le_refl _) o) kb.lt).cell 1
            simp at y1
            clear HR hrow x1
            have y1' := y1
            go_wp2_with fail
            refine (allWithin_one _ _ _ _ _ _ (by simp [go_sem]) hL).mono ?_
            rintro e w1 ⟨rfl, rfl⟩
            have z1 := y1 (Obj.cells #[.int .i64 m.cs[0].length] 2)
            go_wp2
            go_ret
            exact ⟨ret_bool (by rw [HS.out]; first | rfl | (simp; omega)), HB2.out _⟩
          · have HS := hide (sizB_no (show ¬ Siz m from fun hs => hM hs.2.1))
            have hM' : 32 < m.mem.length := by omega
            have HB2 := hide (fun o => hb.alloc (by have := hb.size; omega) o)
            have y1 := fun o => (kb.below ((Below.refl _ _).alloc (Nat.le_refl _) o) kb.lt).cell 1
            simp at y1
            clear HR hrow x1 hM
            go_wp2_with fail
            refine (allWithin_one _ _ _ _ _ _ (by simp [go_sem]) hL).mono ?_
            rintro e w1 ⟨rfl, rfl⟩
            have z1 := y1 (Obj.cells #[.int .i64 m.cs[0].length] 2)
            go_wp2
            go_ret
            exact ⟨ret_bool (by rw [HS.out]; first | rfl | (simp; omega)), HB2.out _⟩
        · have HS := hide (sizB_no (show ¬ Siz m from fun hs => hL (by have := hs.2.2.2; rw [getD0 hpos] at this; omega)))
          have hL' : (m.cs[0].length : Int) < 1 ∨ 4 < (m.cs[0].length : Int) := by omega
          have HB2 := hide (fun o => hb.alloc (by have := hb.size; omega) o)
          clear HR hrow hL
          go_wp2_with fail
          refine (allWithin_not _ _ _ _ _ _ (by simp [go_sem]) hL').mono ?_
          rintro e w1 ⟨rfl, rfl⟩
          go_wp2
          go_ret
          exact ⟨ret_bool (by rw [HS.out]), HB2.out _⟩
  · rw [sizB_no (show ¬ Siz m from fun hs => hn (by have := hs.1; omega))]
    have hn' : (m.cs.length : Int) < 1 ∨ 4 < (m.cs.length : Int) := by omega
    clear hn
    go_enter Try.func82, Try.ntmps82
    go_wp2_with fail
    refine (allWithin_not _ _ _ _ _ _ (by simp [go_sem]) hn').mono ?_
    rintro e w1 ⟨rfl, rfl⟩
    go_wp2
    go_ret
    exact ⟨rfl, by go_grown⟩
end Go.Proofs.Ytifijhfeeammkaa
