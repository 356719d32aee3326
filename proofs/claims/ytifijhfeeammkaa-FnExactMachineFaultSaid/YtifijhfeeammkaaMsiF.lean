/- Contracts of chapter 7's faults of ops, cells and lines, in the model. -/
import Derived.Test.YtifijhfeeammkaaMacS
import Derived.Test.YtifijhfeeammkaaMsi4
import Derived.Test.YtifijhfeeammkaaGEv
namespace Go.Proofs.Ytifijhfeeammkaa
open Go.RowKit

theorem opF_bad {o : Ev} (h : ¬ evF o = 0) : opF o = evF o := if_neg h
theorem opF_form {o : Ev} (h : evF o = 0) (h2 : o.k = 0) (h3 : ¬ o.v = 0) : opF o = 1 := by unfold opF; rw [if_pos h, if_pos ⟨h2, h3⟩]
theorem opF_ok {o : Ev} (h : evF o = 0) (h2 : o.k = 1 ∨ o.v = 0) : opF o = 0 := by unfold opF; rw [if_pos h, if_neg (by omega)]

theorem specOpF_any (k a v : Int) (w : World) :
    Calls Try.prog 28 #[evV k a v] w fun e w' => e = .returned (.int .i64 (opF ⟨k, a, v⟩)) ∧ Below w.heap.size w w' := by
  have kb := Bk.new w #[.int .i64 k, .int .i64 a, .int .i64 v] 29
  have IM := hide (fun W => specEvF_any k a v W)
  by_cases h0 : evF ⟨k, a, v⟩ = 0
  · rw [h0] at IM
    have hk := (evF_zero h0).1
    simp only at hk
    by_cases h1 : k = 1
    · rw [opF_ok h0 (.inl h1)]
      subst h1
      clear hk h0
      go_enter Try.func28, Try.ntmps28
      go_wp2_with fail
      refine (IM.out _).mono ?_
      rintro e w1 ⟨rfl, hb⟩
      have q0 := (kb.kept hb).cell 0
      simp at q0
      clear kb
      go_wp2
      go_ret
      exact ⟨rfl, below_alloc hb⟩
    · obtain rfl : k = 0 := by omega
      by_cases hv : v = 0
      · rw [opF_ok h0 (.inr hv)]
        subst hv
        clear hk h0 h1
        go_enter Try.func28, Try.ntmps28
        go_wp2_with fail
        refine (IM.out _).mono ?_
        rintro e w1 ⟨rfl, hb⟩
        have q0 := (kb.kept hb).cell 0
        have q2 := (kb.kept hb).cell 2
        simp at q0 q2
        clear kb
        go_wp2
        go_ret
        exact ⟨rfl, below_alloc hb⟩
      · rw [opF_form h0 rfl hv]
        have f0 : (v == 0) = false := beq_eq_false_iff_ne.2 hv
        clear hk h0 h1
        go_enter Try.func28, Try.ntmps28
        go_wp2_with fail
        refine (IM.out _).mono ?_
        rintro e w1 ⟨rfl, hb⟩
        have q0 := (kb.kept hb).cell 0
        have q2 := (kb.kept hb).cell 2
        simp at q0 q2
        clear kb
        go_wp2
        go_ret
        exact ⟨rfl, below_alloc hb⟩
  · rw [opF_bad h0]
    obtain ⟨F, hF⟩ : ∃ F, F = evF ⟨k, a, v⟩ := ⟨_, rfl⟩
    rw [← hF] at h0 IM ⊢
    have f0 : (F != 0) = true := bne_iff_ne.2 h0
    have f1 : (F == 0) = false := beq_eq_false_iff_ne.2 h0
    clear h0 hF kb
    go_enter Try.func28, Try.ntmps28
    go_wp2_with fail
    refine (IM.out _).mono ?_
    rintro e w1 ⟨rfl, hb⟩
    go_wp2
    go_ret
    exact ⟨rfl, below_alloc hb⟩

theorem read_drop (l : List Cel) (i : Nat) (h : i < l.length) (a : Int) : readM (l.drop i) a = if l[i].a = a then l[i].v else readM (l.drop (i + 1)) a := by
  rw [List.drop_eq_getElem_cons h, readM]
theorem l7Read_any (l : List Cel) (A : Option Addr) (c : Nat) (a : Int) (w : World) (hm : l.length ≤ maxLen) (h : RdC w w.heap.size A l) :
    Calls Try.prog 78 #[.slice A l.length c, .int .i64 a] w fun e w' => e = .returned (.int .i64 (readM l a)) ∧ w = w' := by
  unfold maxLen at hm
  go_enter Try.func78, Try.ntmps78
  go_wp2
  go_loop [8] (fun i => ∃ k : Nat, k ≤ l.length ∧ i = .int .i64 k ∧ Hid (readM l a = readM (l.drop k) a)) (fun i => l.length - (intOf i).toNat)
  case atStart => exact ⟨0, Nat.zero_le _, rfl, hide rfl⟩
  case round =>
    obtain ⟨k, hk, rfl, HR⟩ := hrel
    by_cases hlt : k < l.length
    · obtain ⟨b, off, rfl, hbb, hc0, hc1⟩ := h.get hlt
      have hd := read_drop l k hlt a
      by_cases he : l[k].a = a
      · rw [if_pos he] at hd
        have HD := hide hd
        have f0 : (l[k].a == a) = true := beq_iff_eq.2 he
        clear hd he
        go_wp2
        go_ret
        exact ⟨ret_int (by rw [HR.out, HD.out]), rfl⟩
      · rw [if_neg he] at hd
        have HD := hide hd
        have f0 : (l[k].a == a) = false := beq_eq_false_iff_ne.2 he
        clear hd he
        go_wp2
        go_round
        case rel => exact ⟨k + 1, by omega, by go_num, hide (HR.out.trans HD.out)⟩
        case measure => simp [intOf]; omega
    · have hd : readM (l.drop k) a = 0 := by rw [List.drop_eq_nil_of_le (by omega)]; rfl
      have HD := hide hd
      clear hd
      go_wp2
      go_ret
      exact ⟨ret_int (by rw [HR.out, HD.out]), rfl⟩

theorem cellsF_range {l : List Cel} (h : allC l = false) : cellsF l = 3 := by unfold cellsF; rw [if_neg (by simp [h])]
theorem cellsF_form {l : List Cel} (h : allC l = true) (h2 : rise l = false) : cellsF l = 1 := by unfold cellsF; rw [if_pos h, if_neg (by simp [h2])]
theorem cellsF_ok {l : List Cel} (h : allC l = true) (h2 : rise l = true) : cellsF l = 0 := by unfold cellsF; rw [if_pos h, if_pos h2]
theorem allC_drop (l : List Cel) (i : Nat) (h : i < l.length) : allC (l.drop i) = (decide (celOk l[i]) && allC (l.drop (i + 1))) := by rw [List.drop_eq_getElem_cons h, allC]
theorem rise_drop (l : List Cel) (i : Nat) (h : i + 1 < l.length) : rise (l.drop i) = (decide (l[i].a < l[i + 1].a) && rise (l.drop (i + 1))) := by
  rw [List.drop_eq_getElem_cons (show i < l.length by omega), List.drop_eq_getElem_cons h]
  rfl
theorem rise_end (l : List Cel) (i : Nat) (h : ¬ i + 1 < l.length) : rise (l.drop i) = true := by
  by_cases h2 : i < l.length
  · rw [List.drop_eq_getElem_cons h2, List.drop_eq_nil_of_le (show l.length ≤ i + 1 by omega)]
    rfl
  · rw [List.drop_eq_nil_of_le (by omega)]
    rfl
set_option maxRecDepth 100000 in
set_option maxHeartbeats 400000 in
theorem l7Cells_any (l : List Cel) (A : Option Addr) (c : Nat) (w : World) (hm : l.length ≤ maxLen) (h : RdC w w.heap.size A l) :
    Calls Try.prog 87 #[.slice A l.length c] w fun e w' => e = .returned (.int .i64 (cellsF l)) ∧ Below w.heap.size w w' := by
  unfold maxLen at hm
  go_enter Try.func87, Try.ntmps87
  go_wp2
  go_loop [7] (fun i => ∃ k : Nat, k ≤ l.length ∧ i = .int .i64 k ∧ Hid (allC l = allC (l.drop k))) (fun i => l.length - (intOf i).toNat)
  case atStart => exact ⟨0, Nat.zero_le _, rfl, hide rfl⟩
  case round =>
    obtain ⟨k, hk, rfl, HR⟩ := hrel
    by_cases hlt : k < l.length
    · obtain ⟨b, off, rfl, hbb, hc0, hc1⟩ := h.get hlt
      have hd := allC_drop l k hlt
      by_cases h1 : 0 ≤ l[k].a ∧ l[k].a ≤ 999999
      · by_cases h2 : 1 ≤ l[k].v ∧ l[k].v ≤ 999999
        · rw [decide_eq_true (show celOk l[k] from ⟨h1.1, h1.2, h2.1, h2.2⟩), Bool.true_and] at hd
          have HD := hide hd
          clear hd
          go_wp2_with fail
          refine (l1In_yes _ _ _ _ h1).mono ?_
          rintro e w1 ⟨rfl, rfl⟩
          go_wp2_with fail
          refine (l1In_yes _ _ _ _ h2).mono ?_
          rintro e w1 ⟨rfl, rfl⟩
          go_wp2
          go_round
          case rel => exact ⟨k + 1, by omega, by go_num, hide (HR.out.trans HD.out)⟩
          case measure => simp [intOf]; omega
        · rw [decide_eq_false (show ¬ celOk l[k] from fun hc => h2 ⟨hc.2.2.1, hc.2.2.2⟩), Bool.false_and] at hd
          have h2' : l[k].v < 1 ∨ 999999 < l[k].v := by omega
          have HD := hide hd
          clear hd h2
          go_wp2_with fail
          refine (l1In_yes _ _ _ _ h1).mono ?_
          rintro e w1 ⟨rfl, rfl⟩
          go_wp2_with fail
          refine (l1In_no _ _ _ _ h2').mono ?_
          rintro e w1 ⟨rfl, rfl⟩
          go_wp2
          go_ret
          exact ⟨ret_int (by rw [cellsF_range (HR.out.trans HD.out)]), Below.refl _ _⟩
      · rw [decide_eq_false (show ¬ celOk l[k] from fun hc => h1 ⟨hc.1, hc.2.1⟩), Bool.false_and] at hd
        have h1' : l[k].a < 0 ∨ 999999 < l[k].a := by omega
        have HD := hide hd
        clear hd h1
        go_wp2_with fail
        refine (l1In_no _ _ _ _ h1').mono ?_
        rintro e w1 ⟨rfl, rfl⟩
        go_wp2
        go_ret
        exact ⟨ret_int (by rw [cellsF_range (HR.out.trans HD.out)]), Below.refl _ _⟩
    · have ha : allC l = true := by rw [HR.out, List.drop_eq_nil_of_le (by omega)]; rfl
      have HA := hide ha
      clear ha HR
      go_wp2

      go_loopw [4] (fun i wr => ∃ k : Nat, k ≤ l.length ∧ i = .int .i64 (k + 1 : Nat) ∧ Below w.heap.size w wr ∧ Hid (rise l = rise (l.drop k))) (fun i _ => l.length + 1 - (intOf i).toNat)
      case atStart => exact ⟨0, Nat.zero_le _, rfl, Below.refl _ _, hide rfl⟩
      case round =>
        obtain ⟨k, hk, rfl, hb, HR⟩ := hrel
        by_cases hlt : k + 1 < l.length
        · obtain ⟨b, off, rfl, hbb, hc0, hc1⟩ := (h.below hb).get hlt
          obtain ⟨b', off', hA, hbb', hd0, hd1⟩ := (h.below hb).get (i := k) (by omega)
          cases hA
          have hd := rise_drop l k hlt
          by_cases he : l[k].a < l[k + 1].a
          · rw [decide_eq_true he, Bool.true_and] at hd
            have HD := hide hd
            clear hd
            go_wp2
            go_quiet (fail)
            go_wp2
            go_roundw
            case rel => exact ⟨k + 1, by omega, by go_num, below_drewN hb _, hide (HR.out.trans HD.out)⟩
            case measure => simp [intOf]; omega
          · rw [decide_eq_false he, Bool.false_and] at hd
            have HD := hide hd
            have he' : l[k + 1].a ≤ l[k].a := by omega
            clear hd he
            go_wp2
            go_quiet (fail)
            go_wp2
            go_ret
            exact ⟨ret_int (by rw [cellsF_form HA.out (HR.out.trans HD.out)]), below_drewN hb _⟩
        · have HD := hide (rise_end l k hlt)
          go_wp2
          go_ret
          exact ⟨ret_int (by rw [cellsF_ok HA.out (HR.out.trans HD.out)]), hb⟩
end Go.Proofs.Ytifijhfeeammkaa
