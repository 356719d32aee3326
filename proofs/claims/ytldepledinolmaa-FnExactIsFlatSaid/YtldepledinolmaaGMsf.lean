/- Contracts of chapter 7's faults of ops, cells and lines, in the model. -/
import Derived.Test.YtldepledinolmaaGMc2
import Derived.Test.YtldepledinolmaaGMsj
import Derived.Test.YtldepledinolmaaGEv
namespace Go.Proofs.Ytldepledinolmaa
open Go.RowKit

theorem opF_bad {o : Ev} (h : ¬ evF o = 0) : opF o = evF o := if_neg h
theorem opF_form {o : Ev} (h : evF o = 0) (h2 : o.k = 0) (h3 : ¬ o.v = 0) : opF o = 1 := by unfold opF; rw [if_pos h, if_pos ⟨h2, h3⟩]
theorem opF_ok {o : Ev} (h : evF o = 0) (h2 : o.k = 1 ∨ o.v = 0) : opF o = 0 := by unfold opF; rw [if_pos h, if_neg (by omega)]

theorem read_drop (l : List Cel) (i : Nat) (h : i < l.length) (a : Int) : readM (l.drop i) a = if l[i].a = a then l[i].v else readM (l.drop (i + 1)) a := by
  rw [List.drop_eq_getElem_cons h, readM]
theorem l7Read_any (l : List Cel) (A : Option Addr) (c : Nat) (a : Int) (w : World) (hm : l.length ≤ maxLen) (h : RdC w w.heap.size A l) :
    Calls Try.prog 126 #[.slice A l.length c, .int .i64 a] w fun e w' => e = .returned (.int .i64 (readM l a)) ∧ w = w' := by
  unfold maxLen at hm
  go_enter Try.func126, Try.ntmps126
  go_wp2
  go_loop [8] (fun i => ∃ k : Nat, k ≤ l.length ∧ i = .int .i64 k ∧ Hid (readM l a = readM (l.drop k) a)) (fun i => l.length - (intOf i).toNat)
  case atStart => exact ⟨0, Nat.zero_le _, rfl, hide rfl⟩
  case round =>
    obtain ⟨k, hk, rfl, HR⟩ := hrel
    by_cases hlt : k < l.length
    · obtain ⟨b, off, rfl, hbb, hc0, hc1⟩ := h.get hlt
      have hd := read_drop l k hlt a
      by_cases he : l[k].a = a
      · rw [if_pos he] at hd
        have HD := hide hd
        have f0 : (l[k].a == a) = true := beq_iff_eq.2 he
        clear hd he
        go_wp2
        go_ret
        exact ⟨ret_int (by rw [HR.out, HD.out]), rfl⟩
      · rw [if_neg he] at hd
        have HD := hide hd
        have f0 : (l[k].a == a) = false := beq_eq_false_iff_ne.2 he
        clear hd he
        go_wp2
        go_round
        case rel => exact ⟨k + 1, by omega, by go_num, hide (HR.out.trans HD.out)⟩
        case measure => simp [intOf]; omega
    · have hd : readM (l.drop k) a = 0 := by rw [List.drop_eq_nil_of_le (by omega)]; rfl
      have HD := hide hd
      clear hd
      go_wp2
      go_ret
      exact ⟨ret_int (by rw [HR.out, HD.out]), rfl⟩

theorem cellsF_range {l : List Cel} (h : allC l = false) : cellsF l = 3 := by unfold cellsF; rw [if_neg (by simp [h])]
theorem cellsF_form {l : List Cel} (h : allC l = true) (h2 : rise l = false) : cellsF l = 1 := by unfold cellsF; rw [if_pos h, if_neg (by simp [h2])]
theorem cellsF_ok {l : List Cel} (h : allC l = true) (h2 : rise l = true) : cellsF l = 0 := by unfold cellsF; rw [if_pos h, if_pos h2]
theorem allC_drop (l : List Cel) (i : Nat) (h : i < l.length) : allC (l.drop i) = (decide (celOk l[i]) && allC (l.drop (i + 1))) := by rw [List.drop_eq_getElem_cons h, allC]
theorem rise_drop (l : List Cel) (i : Nat) (h : i + 1 < l.length) : rise (l.drop i) = (decide (l[i].a < l[i + 1].a) && rise (l.drop (i + 1))) := by
  rw [List.drop_eq_getElem_cons (show i < l.length by omega), List.drop_eq_getElem_cons h]
  rfl
theorem rise_end (l : List Cel) (i : Nat) (h : ¬ i + 1 < l.length) : rise (l.drop i) = true := by
  by_cases h2 : i < l.length
  · rw [List.drop_eq_getElem_cons h2, List.drop_eq_nil_of_le (show l.length ≤ i + 1 by omega)]
    rfl
  · rw [List.drop_eq_nil_of_le (by omega)]
    rfl
end Go.Proofs.Ytldepledinolmaa
