/- Contracts of a memory's value at an address, and of its fault, in the program. -/
import Derived.Test.YtifijhfeeammkaaMsiH
namespace Go.Proofs.Ytifijhfeeammkaa
open Go.RowKit

set_option maxRecDepth 100000 in
theorem valueAt_any (l : List Cel) (A : Option Addr) (c : Nat) (a : Int) (w : World) (hm : l.length ≤ maxLen) (h : RdC w w.heap.size A l) :
    Calls Try.prog 73 #[.slice A l.length c, .int .i64 a] w fun e w' => e = .returned (.int .i64 (readM l a)) ∧ Below w.heap.size w w' := by
  unfold maxLen at hm
  go_enter Try.func73, Try.ntmps73
  go_wp2
  go_loopw [9] (fun i wr => ∃ k : Nat, k ≤ l.length ∧ i = .int .i64 k ∧ Below w.heap.size w wr ∧ Hid (readM l a = readM (l.drop k) a)) (fun i _ => l.length - (intOf i).toNat)
  case atStart => exact ⟨0, Nat.zero_le _, rfl, Below.refl _ _, hide rfl⟩
  case round =>
    obtain ⟨k, hk, rfl, hb, HR⟩ := hrel
    by_cases hlt : k < l.length
    · obtain ⟨b, off, rfl, hbb, hc0, hc1⟩ := (h.below hb).get hlt
      have hd := read_drop l k hlt a
      by_cases he : l[k].a = a
      · rw [if_pos he] at hd
        have HD := hide hd
        have f0 : (l[k].a == a) = true := beq_iff_eq.2 he
        clear hd he
        go_wp2
        go_ret
        exact ⟨ret_int (by rw [HR.out, HD.out]), hb.alloc hb.size _⟩
      · rw [if_neg he] at hd
        have HD := hide hd
        have f0 : (l[k].a == a) = false := beq_eq_false_iff_ne.2 he
        clear hd he
        go_wp2
        go_roundw
        case rel => exact ⟨k + 1, by omega, by go_num, hb.alloc hb.size _, hide (HR.out.trans HD.out)⟩
        case measure => simp [intOf]; omega
    · have hd : readM (l.drop k) a = 0 := by rw [List.drop_eq_nil_of_le (by omega)]; rfl
      have HD := hide hd
      clear hd
      go_wp2
      go_ret
      exact ⟨ret_int (by rw [HR.out, HD.out]), hb⟩

set_option maxRecDepth 100000 in
set_option maxHeartbeats 800000 in
theorem cellsFault_any (l : List Cel) (A : Option Addr) (c : Nat) (w : World) (hm : l.length ≤ maxLen) (h : RdC w w.heap.size A l) :
    Calls Try.prog 83 #[.slice A l.length c] w fun e w' => e = .returned (.int .i64 (cellsF l)) ∧ Below w.heap.size w w' := by
  unfold maxLen at hm
  go_enter Try.func83, Try.ntmps83
  go_wp2
  go_loopw [8] (fun i wr => ∃ k : Nat, k ≤ l.length ∧ i = .int .i64 k ∧ Below w.heap.size w wr ∧ Hid (allC l = allC (l.drop k))) (fun i _ => l.length - (intOf i).toNat)
  case atStart => exact ⟨0, Nat.zero_le _, rfl, Below.refl _ _, hide rfl⟩
  case round =>
    obtain ⟨k, hk, rfl, hb, HR⟩ := hrel
    by_cases hlt : k < l.length
    · obtain ⟨b, off, rfl, hbb, hc0, hc1⟩ := (h.below hb).get hlt
      have hd := allC_drop l k hlt
      by_cases h1 : 0 ≤ l[k].a ∧ l[k].a ≤ 999999
      · by_cases h2 : 1 ≤ l[k].v ∧ l[k].v ≤ 999999
        · rw [decide_eq_true (show celOk l[k] from ⟨h1.1, h1.2, h2.1, h2.2⟩), Bool.true_and] at hd
          have HD := hide hd
          clear hd
          have hbx := fun o1 o2 o3 => ((hb.alloc hb.size o1).alloc (by have := hb.size; simp; omega) o2).alloc (by have := hb.size; simp; omega) o3
          have HB := hide hbx
          clear hbx
          go_wp2_with fail
          refine (allWithin_one _ _ _ _ _ _ (by simp [go_sem]) h1).mono ?_
          rintro e w1 ⟨rfl, rfl⟩
          go_wp2_with fail
          refine (allWithin_one _ _ _ _ _ _ (by simp [go_sem]) h2).mono ?_
          rintro e w1 ⟨rfl, rfl⟩
          go_wp2
          go_roundw
          case rel => exact ⟨k + 1, by omega, by go_num, HB.out _ _ _, hide (HR.out.trans HD.out)⟩
          case measure => simp [intOf]; omega
        · rw [decide_eq_false (show ¬ celOk l[k] from fun hc => h2 ⟨hc.2.2.1, hc.2.2.2⟩), Bool.false_and] at hd
          have h2' : l[k].v < 1 ∨ 999999 < l[k].v := by omega
          have HD := hide hd
          clear hd h2
          have hbx := fun o1 o2 o3 => ((hb.alloc hb.size o1).alloc (by have := hb.size; simp; omega) o2).alloc (by have := hb.size; simp; omega) o3
          have HB := hide hbx
          clear hbx
          go_wp2_with fail
          refine (allWithin_one _ _ _ _ _ _ (by simp [go_sem]) h1).mono ?_
          rintro e w1 ⟨rfl, rfl⟩
          go_wp2_with fail
          refine (allWithin_not _ _ _ _ _ _ (by simp [go_sem]) h2').mono ?_
          rintro e w1 ⟨rfl, rfl⟩
          go_wp2
          go_ret
          exact ⟨ret_int (by rw [cellsF_range (HR.out.trans HD.out)]), HB.out _ _ _⟩
      · rw [decide_eq_false (show ¬ celOk l[k] from fun hc => h1 ⟨hc.1, hc.2.1⟩), Bool.false_and] at hd
        have h1' : l[k].a < 0 ∨ 999999 < l[k].a := by omega
        have HD := hide hd
        clear hd h1
        have hbx := fun o1 o2 => (hb.alloc hb.size o1).alloc (by have := hb.size; simp; omega) o2
        have HB := hide hbx
        clear hbx
        go_wp2_with fail
        refine (allWithin_not _ _ _ _ _ _ (by simp [go_sem]) h1').mono ?_
        rintro e w1 ⟨rfl, rfl⟩
        go_wp2
        go_ret
        exact ⟨ret_int (by rw [cellsF_range (HR.out.trans HD.out)]), HB.out _ _⟩
    · have ha : allC l = true := by rw [HR.out, List.drop_eq_nil_of_le (by omega)]; rfl
      have HA := hide ha
      clear ha HR
      go_wp2
      go_loopw [28] (fun i w2 => ∃ k : Nat, k ≤ l.length ∧ i = .int .i64 k ∧ Below w.heap.size w w2 ∧ Hid (rise l = rise (l.drop k))) (fun i _ => l.length - (intOf i).toNat)
      case atStart => exact ⟨0, Nat.zero_le _, rfl, hb, hide rfl⟩
      case round =>
        clear hb
        obtain ⟨k, hk, rfl, hb, HR⟩ := hrel
        by_cases hlt : k + 1 < l.length
        · obtain ⟨b, off, rfl, hbb, hc0, hc1⟩ := (h.below hb).get hlt
          obtain ⟨b', off', hA, hbb', hd0, hd1⟩ := (h.below hb).get (i := k) (by omega)
          cases hA
          have hd := rise_drop l k hlt
          by_cases he : l[k].a < l[k + 1].a
          · rw [decide_eq_true he, Bool.true_and] at hd
            have HD := hide hd
            clear hd
            go_wp2
            go_quiet (fail)
            go_wp2
            go_roundw
            case rel => exact ⟨k + 1, by omega, by go_num, below_drewN hb _, hide (HR.out.trans HD.out)⟩
            case measure => simp [intOf]; omega
          · rw [decide_eq_false he, Bool.false_and] at hd
            have HD := hide hd
            have he' : l[k + 1].a ≤ l[k].a := by omega
            clear hd he
            go_wp2
            go_quiet (fail)
            go_wp2
            go_ret
            exact ⟨ret_int (by rw [cellsF_form HA.out (HR.out.trans HD.out)]), below_drewN hb _⟩
        · have HD := hide (rise_end l k hlt)
          go_wp2
          go_ret
          exact ⟨ret_int (by rw [cellsF_ok HA.out (HR.out.trans HD.out)]), hb⟩
end Go.Proofs.Ytifijhfeeammkaa
