/- Contracts of SameLogs, in the program and in its model. -/
import Derived.Test.YtnnfkmjhaljplaaGLog
namespace Go.Proofs.Ytnnfkmjhaljplaa
open Go.RowKit

open Classical in
noncomputable def sameP (es fs : List Stp) : Bool := if es = fs then true else false
def SameToP (es fs : List Stp) (k : Nat) : Prop := ∀ i, i < k → es[i]? = fs[i]?
theorem SameToP.zero (es fs : List Stp) : SameToP es fs 0 := fun i hi => by omega
theorem SameToP.step {es fs : List Stp} {k : Nat} (h : SameToP es fs k) (hk : k < es.length) {hk' : k < fs.length} (he : es[k] = fs[k]) : SameToP es fs (k + 1) := fun i hi => by
  by_cases hik : i = k
  · subst hik
    rw [List.getElem?_eq_getElem hk, List.getElem?_eq_getElem hk', he]
  · exact h i (by omega)
theorem sameP_all {es fs : List Stp} (hl : es.length = fs.length) (h : SameToP es fs es.length) : sameP es fs = true := by
  refine if_pos ?_
  apply List.ext_getElem?
  intro i
  by_cases hi : i < es.length
  · exact h i hi
  · rw [List.getElem?_eq_none (by omega), List.getElem?_eq_none (by omega)]
theorem sameP_not {es fs : List Stp} {k : Nat} (hk : k < es.length) {hk' : k < fs.length} (he : ¬ es[k] = fs[k]) : sameP es fs = false := by
  refine if_neg ?_
  intro e
  subst e
  exact he rfl
theorem sameP_len {es fs : List Stp} (h : ¬ es.length = fs.length) : sameP es fs = false := by
  refine if_neg ?_
  intro e
  exact h (by rw [e])
theorem sameP_refl (es : List Stp) : sameP es es = true := if_pos rfl
theorem st_ne {e f : Stp} (h : ¬ e = f) : ¬ e.c = f.c ∨ (e.c = f.c ∧ ¬ e.e.k = f.e.k) ∨ (e.c = f.c ∧ e.e.k = f.e.k ∧ ¬ e.e.a = f.e.a) ∨ (e.c = f.c ∧ e.e.k = f.e.k ∧ e.e.a = f.e.a ∧ ¬ e.e.v = f.e.v) := by
  obtain ⟨c, k, a, v⟩ := e
  obtain ⟨c', k', a', v'⟩ := f
  by_cases hc : c = c'
  · by_cases h0 : k = k'
    · by_cases h1 : a = a'
      · by_cases h2 : v = v'
        · exact absurd (by rw [hc, h0, h1, h2]) h
        · exact .inr (.inr (.inr ⟨hc, h0, h1, h2⟩))
      · exact .inr (.inr (.inl ⟨hc, h0, h1⟩))
    · exact .inr (.inl ⟨hc, h0⟩)
  · exact .inl hc

set_option maxRecDepth 100000 in
set_option maxHeartbeats 400000 in
theorem specSL_any (es fs : List Stp) (A A' : Option Addr) (c c' : Nat) (w : World) (hm : es.length ≤ maxLen) (h : RdP w w.heap.size A es) (h' : RdP w w.heap.size A' fs) :
    Calls Try.prog 62 #[.slice A es.length c, .slice A' fs.length c'] w fun e w' => e = .returned (.bool (sameP es fs)) ∧ Below w.heap.size w w' := by
  unfold maxLen at hm
  by_cases hlen : fs.length = es.length
  · have HS := hide (sameP_all hlen.symm)
    rw [hlen]
    have hfl : ∀ k : Nat, k < es.length → k < fs.length := fun k h => by omega
    have HF := hide hfl
    clear hfl hlen
    go_enter Try.func62, Try.ntmps62
    go_wp2
    go_loopw [13] (fun i wr => ∃ k : Nat, k ≤ es.length ∧ i = .int .i64 k ∧ Below w.heap.size w wr ∧ Hid (SameToP es fs k)) (fun i _ => es.length - (intOf i).toNat)
    case atStart => exact ⟨0, Nat.zero_le _, rfl, Below.refl _ _, hide (SameToP.zero es fs)⟩
    case round =>
      obtain ⟨k, hk, rfl, hb, HR⟩ := hrel
      by_cases hlt : k < es.length
      · obtain ⟨b, off, rfl, hbb, hc0, hc1, hc2, hc3⟩ := (h.below hb).get hlt
        obtain ⟨b', off', rfl, hbb', hd0, hd1, hd2, hd3⟩ := (h'.below hb).get (HF.out _ hlt)
        by_cases he : es[k] = fs[k]'(HF.out _ hlt)
        · have HE := hide (HR.out.step hlt he)
          rw [← he] at hd0 hd1 hd2 hd3
          clear he
          go_wp2
          go_quiet (fail)
          go_wp2
          go_roundw
          case rel => exact ⟨k + 1, by omega, by go_num, below_drewN hb _, HE⟩
          case measure => simp [intOf]; omega
        · have HE := hide (sameP_not hlt he)
          rcases st_ne he with hx | ⟨hx0, hx⟩ | ⟨hx0, hx1, hx⟩ | ⟨hx0, hx1, hx2, hx⟩
          · skip
            have f0 := beq_eq_false_iff_ne.2 hx
            clear he hx
            go_wp2
            go_quiet (fail)
            go_wp2
            go_ret
            exact ⟨ret_bool HE.out.symm, below_drewN hb _⟩
          · skip
            rw [← hx0] at hd0
            have f0 := beq_eq_false_iff_ne.2 hx
            clear he hx hx0
            go_wp2
            go_quiet (fail)
            go_wp2
            go_ret
            exact ⟨ret_bool HE.out.symm, below_drewN hb _⟩
          · skip
            rw [← hx0] at hd0
            rw [← hx1] at hd1
            have f0 := beq_eq_false_iff_ne.2 hx
            clear he hx hx0 hx1
            go_wp2
            go_quiet (fail)
            go_wp2
            go_ret
            exact ⟨ret_bool HE.out.symm, below_drewN hb _⟩
          · skip
            rw [← hx0] at hd0
            rw [← hx1] at hd1
            rw [← hx2] at hd2
            have f0 := beq_eq_false_iff_ne.2 hx
            clear he hx hx0 hx1 hx2
            go_wp2
            go_quiet (fail)
            go_wp2
            go_ret
            exact ⟨ret_bool HE.out.symm, below_drewN hb _⟩
      · obtain rfl : k = es.length := by omega
        go_wp2
        go_ret
        exact ⟨ret_bool (HS.out HR.out).symm, hb⟩
  · rw [sameP_len (fun e => hlen e.symm)]
    have f0 : ((es.length : Int) == (fs.length : Int)) = false := beq_eq_false_iff_ne.2 (by omega)
    have f1 : ((es.length : Int) != (fs.length : Int)) = true := bne_iff_ne.2 (by omega)
    clear hlen
    go_enter Try.func62, Try.ntmps62
    go_wp2
    go_ret
    exact ⟨rfl, Below.refl _ _⟩

set_option maxRecDepth 100000 in
set_option maxHeartbeats 400000 in
theorem slicesEqP_any (es fs : List Stp) (A A' : Option Addr) (c c' : Nat) (w : World) (hm : es.length ≤ maxLen) (h : RdP w w.heap.size A es) (h' : RdP w w.heap.size A' fs) :
    Calls Try.prog 103 #[.slice A es.length c, .slice A' fs.length c'] w fun e w' => e = .returned (.bool (sameP es fs)) ∧ Below w.heap.size w w' := by
  unfold maxLen at hm
  by_cases hlen : fs.length = es.length
  · have HS := hide (sameP_all hlen.symm)
    rw [hlen]
    have hfl : ∀ k : Nat, k < es.length → k < fs.length := fun k h => by omega
    have HF := hide hfl
    clear hfl hlen
    go_enter Try.func103, Try.ntmps103
    go_wp2
    go_loopw [13] (fun i wr => ∃ k : Nat, k ≤ es.length ∧ i = .int .i64 k ∧ Below w.heap.size w wr ∧ Hid (SameToP es fs k)) (fun i _ => es.length - (intOf i).toNat)
    case atStart => exact ⟨0, Nat.zero_le _, rfl, Below.refl _ _, hide (SameToP.zero es fs)⟩
    case round =>
      obtain ⟨k, hk, rfl, hb, HR⟩ := hrel
      by_cases hlt : k < es.length
      · obtain ⟨b, off, rfl, hbb, hc0, hc1, hc2, hc3⟩ := (h.below hb).get hlt
        obtain ⟨b', off', rfl, hbb', hd0, hd1, hd2, hd3⟩ := (h'.below hb).get (HF.out _ hlt)
        by_cases he : es[k] = fs[k]'(HF.out _ hlt)
        · have HE := hide (HR.out.step hlt he)
          rw [← he] at hd0 hd1 hd2 hd3
          clear he
          go_wp2
          go_quiet (fail)
          go_wp2
          go_roundw
          case rel => exact ⟨k + 1, by omega, by go_num, below_drewN hb _, HE⟩
          case measure => simp [intOf]; omega
        · have HE := hide (sameP_not hlt he)
          rcases st_ne he with hx | ⟨hx0, hx⟩ | ⟨hx0, hx1, hx⟩ | ⟨hx0, hx1, hx2, hx⟩
          · skip
            have f0 := beq_eq_false_iff_ne.2 hx
            clear he hx
            go_wp2
            go_quiet (fail)
            go_wp2
            go_ret
            exact ⟨ret_bool HE.out.symm, below_drewN hb _⟩
          · skip
            rw [← hx0] at hd0
            have f0 := beq_eq_false_iff_ne.2 hx
            clear he hx hx0
            go_wp2
            go_quiet (fail)
            go_wp2
            go_ret
            exact ⟨ret_bool HE.out.symm, below_drewN hb _⟩
          · skip
            rw [← hx0] at hd0
            rw [← hx1] at hd1
            have f0 := beq_eq_false_iff_ne.2 hx
            clear he hx hx0 hx1
            go_wp2
            go_quiet (fail)
            go_wp2
            go_ret
            exact ⟨ret_bool HE.out.symm, below_drewN hb _⟩
          · skip
            rw [← hx0] at hd0
            rw [← hx1] at hd1
            rw [← hx2] at hd2
            have f0 := beq_eq_false_iff_ne.2 hx
            clear he hx hx0 hx1 hx2
            go_wp2
            go_quiet (fail)
            go_wp2
            go_ret
            exact ⟨ret_bool HE.out.symm, below_drewN hb _⟩
      · obtain rfl : k = es.length := by omega
        go_wp2
        go_ret
        exact ⟨ret_bool (HS.out HR.out).symm, hb⟩
  · rw [sameP_len (fun e => hlen e.symm)]
    have f0 : ((es.length : Int) == (fs.length : Int)) = false := beq_eq_false_iff_ne.2 (by omega)
    have f1 : ((es.length : Int) != (fs.length : Int)) = true := bne_iff_ne.2 (by omega)
    clear hlen
    go_enter Try.func103, Try.ntmps103
    go_wp2
    go_ret
    exact ⟨rfl, Below.refl _ _⟩

theorem implSL_any (es fs : List Stp) (A A' : Option Addr) (c c' : Nat) (w : World) (hm : es.length ≤ maxLen) (h : RdP w w.heap.size A es) (h' : RdP w w.heap.size A' fs) :
    Calls Try.prog 68 #[.slice A es.length c, .slice A' fs.length c'] w fun e w' => e = .returned (.bool (sameP es fs)) ∧ Below w.heap.size w w' := by
  go_enter Try.func68, Try.ntmps68
  go_wp2_with fail
  refine (slicesEqP_any es fs A A' c c' _ hm h h').mono ?_
  rintro e w1 ⟨rfl, hb⟩
  go_wp2
  go_ret
  exact ⟨rfl, hb⟩
end Go.Proofs.Ytnnfkmjhaljplaa
