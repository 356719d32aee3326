/- Contracts of SameSteps, in the program and in its model. -/
import Derived.Test.YtkeifkdaddmkfaaDoorEvS
namespace Go.Proofs.YtkeifkdaddmkfaaDoor
open Go.RowKit

open Classical in
noncomputable def sameE (es fs : List Ev) : Bool := if es = fs then true else false
def SameTo (es fs : List Ev) (k : Nat) : Prop := ∀ i, i < k → es[i]? = fs[i]?
theorem SameTo.zero (es fs : List Ev) : SameTo es fs 0 := fun i hi => by omega
theorem SameTo.step {es fs : List Ev} {k : Nat} (h : SameTo es fs k) (hk : k < es.length) {hk' : k < fs.length} (he : es[k] = fs[k]) : SameTo es fs (k + 1) := fun i hi => by
  by_cases hik : i = k
  · subst hik
    rw [List.getElem?_eq_getElem hk, List.getElem?_eq_getElem hk', he]
  · exact h i (by omega)
theorem sameE_all {es fs : List Ev} (hl : es.length = fs.length) (h : SameTo es fs es.length) : sameE es fs = true := by
  refine if_pos ?_
  apply List.ext_getElem?
  intro i
  by_cases hi : i < es.length
  · exact h i hi
  · rw [List.getElem?_eq_none (by omega), List.getElem?_eq_none (by omega)]
theorem sameE_not {es fs : List Ev} {k : Nat} (hk : k < es.length) {hk' : k < fs.length} (he : ¬ es[k] = fs[k]) : sameE es fs = false := by
  refine if_neg ?_
  intro e
  subst e
  exact he rfl
theorem sameE_len {es fs : List Ev} (h : ¬ es.length = fs.length) : sameE es fs = false := by
  refine if_neg ?_
  intro e
  exact h (by rw [e])
theorem sameE_refl (es : List Ev) : sameE es es = true := if_pos rfl
theorem ev_ne {e f : Ev} (h : ¬ e = f) : ¬ e.k = f.k ∨ (e.k = f.k ∧ ¬ e.a = f.a) ∨ (e.k = f.k ∧ e.a = f.a ∧ ¬ e.v = f.v) := by
  obtain ⟨k, a, v⟩ := e
  obtain ⟨k', a', v'⟩ := f
  by_cases h0 : k = k'
  · by_cases h1 : a = a'
    · by_cases h2 : v = v'
      · exact absurd (by rw [h0, h1, h2]) h
      · exact .inr (.inr ⟨h0, h1, h2⟩)
    · exact .inr (.inl ⟨h0, h1⟩)
  · exact .inl h0

set_option maxRecDepth 100000 in
set_option maxHeartbeats 400000 in
theorem specSS_any (es fs : List Ev) (A A' : Option Addr) (c c' : Nat) (w : World) (hm : es.length ≤ maxLen) (h : RdE w w.heap.size A es) (h' : RdE w w.heap.size A' fs) :
    Calls Tryd.prog 51 #[.slice A es.length c, .slice A' fs.length c'] w fun e w' => e = .returned (.bool (sameE es fs)) ∧ Below w.heap.size w w' := by
  unfold maxLen at hm
  by_cases hlen : fs.length = es.length
  · have HS := hide (sameE_all hlen.symm)
    rw [hlen]
    have hfl : ∀ k : Nat, k < es.length → k < fs.length := fun k h => by omega
    have HF := hide hfl
    clear hfl hlen
    go_enter Tryd.func51, Tryd.ntmps51
    go_wp2
    go_loopw [13] (fun i wr => ∃ k : Nat, k ≤ es.length ∧ i = .int .i64 k ∧ Below w.heap.size w wr ∧ Hid (SameTo es fs k)) (fun i _ => es.length - (intOf i).toNat)
    case atStart => exact ⟨0, Nat.zero_le _, rfl, Below.refl _ _, hide (SameTo.zero es fs)⟩
    case round =>
      obtain ⟨k, hk, rfl, hb, HR⟩ := hrel
      by_cases hlt : k < es.length
      · obtain ⟨b, off, rfl, hbb, hc0, hc1, hc2⟩ := (h.below hb).get hlt
        obtain ⟨b', off', rfl, hbb', hd0, hd1, hd2⟩ := (h'.below hb).get (HF.out _ hlt)
        by_cases he : es[k] = fs[k]'(HF.out _ hlt)
        · have HE := hide (HR.out.step hlt he)
          rw [← he] at hd0 hd1 hd2
          clear he
          go_wp2
          go_quiet (fail)
          go_wp2
          go_roundw
          case rel => exact ⟨k + 1, by omega, by go_num, below_drewN hb _, HE⟩
          case measure => simp [intOf]; omega
        · have HE := hide (sameE_not hlt he)
          rcases ev_ne he with hx | ⟨hx0, hx⟩ | ⟨hx0, hx1, hx⟩
          · have f0 := beq_eq_false_iff_ne.2 hx
            clear he hx
            go_wp2
            go_quiet (fail)
            go_wp2
            go_ret
            exact ⟨ret_bool HE.out.symm, below_drewN hb _⟩
          · rw [← hx0] at hd0
            have f0 := beq_eq_false_iff_ne.2 hx
            clear he hx hx0
            go_wp2
            go_quiet (fail)
            go_wp2
            go_ret
            exact ⟨ret_bool HE.out.symm, below_drewN hb _⟩
          · rw [← hx0] at hd0
            rw [← hx1] at hd1
            have f0 := beq_eq_false_iff_ne.2 hx
            clear he hx hx0 hx1
            go_wp2
            go_quiet (fail)
            go_wp2
            go_ret
            exact ⟨ret_bool HE.out.symm, below_drewN hb _⟩
      · obtain rfl : k = es.length := by omega
        go_wp2
        go_ret
        exact ⟨ret_bool (HS.out HR.out).symm, hb⟩
  · rw [sameE_len (fun e => hlen e.symm)]
    have f0 : ((es.length : Int) == (fs.length : Int)) = false := beq_eq_false_iff_ne.2 (by omega)
    have f1 : ((es.length : Int) != (fs.length : Int)) = true := bne_iff_ne.2 (by omega)
    clear hlen
    go_enter Tryd.func51, Tryd.ntmps51
    go_wp2
    go_ret
    exact ⟨rfl, Below.refl _ _⟩

set_option maxRecDepth 100000 in
set_option maxHeartbeats 400000 in
theorem slicesEq_any (es fs : List Ev) (A A' : Option Addr) (c c' : Nat) (w : World) (hm : es.length ≤ maxLen) (h : RdE w w.heap.size A es) (h' : RdE w w.heap.size A' fs) :
    Calls Tryd.prog 77 #[.slice A es.length c, .slice A' fs.length c'] w fun e w' => e = .returned (.bool (sameE es fs)) ∧ Below w.heap.size w w' := by
  unfold maxLen at hm
  by_cases hlen : fs.length = es.length
  · have HS := hide (sameE_all hlen.symm)
    rw [hlen]
    have hfl : ∀ k : Nat, k < es.length → k < fs.length := fun k h => by omega
    have HF := hide hfl
    clear hfl hlen
    go_enter Tryd.func77, Tryd.ntmps77
    go_wp2
    go_loopw [13] (fun i wr => ∃ k : Nat, k ≤ es.length ∧ i = .int .i64 k ∧ Below w.heap.size w wr ∧ Hid (SameTo es fs k)) (fun i _ => es.length - (intOf i).toNat)
    case atStart => exact ⟨0, Nat.zero_le _, rfl, Below.refl _ _, hide (SameTo.zero es fs)⟩
    case round =>
      obtain ⟨k, hk, rfl, hb, HR⟩ := hrel
      by_cases hlt : k < es.length
      · obtain ⟨b, off, rfl, hbb, hc0, hc1, hc2⟩ := (h.below hb).get hlt
        obtain ⟨b', off', rfl, hbb', hd0, hd1, hd2⟩ := (h'.below hb).get (HF.out _ hlt)
        by_cases he : es[k] = fs[k]'(HF.out _ hlt)
        · have HE := hide (HR.out.step hlt he)
          rw [← he] at hd0 hd1 hd2
          clear he
          go_wp2
          go_quiet (fail)
          go_wp2
          go_roundw
          case rel => exact ⟨k + 1, by omega, by go_num, below_drewN hb _, HE⟩
          case measure => simp [intOf]; omega
        · have HE := hide (sameE_not hlt he)
          rcases ev_ne he with hx | ⟨hx0, hx⟩ | ⟨hx0, hx1, hx⟩
          · have f0 := beq_eq_false_iff_ne.2 hx
            clear he hx
            go_wp2
            go_quiet (fail)
            go_wp2
            go_ret
            exact ⟨ret_bool HE.out.symm, below_drewN hb _⟩
          · rw [← hx0] at hd0
            have f0 := beq_eq_false_iff_ne.2 hx
            clear he hx hx0
            go_wp2
            go_quiet (fail)
            go_wp2
            go_ret
            exact ⟨ret_bool HE.out.symm, below_drewN hb _⟩
          · rw [← hx0] at hd0
            rw [← hx1] at hd1
            have f0 := beq_eq_false_iff_ne.2 hx
            clear he hx hx0 hx1
            go_wp2
            go_quiet (fail)
            go_wp2
            go_ret
            exact ⟨ret_bool HE.out.symm, below_drewN hb _⟩
      · obtain rfl : k = es.length := by omega
        go_wp2
        go_ret
        exact ⟨ret_bool (HS.out HR.out).symm, hb⟩
  · rw [sameE_len (fun e => hlen e.symm)]
    have f0 : ((es.length : Int) == (fs.length : Int)) = false := beq_eq_false_iff_ne.2 (by omega)
    have f1 : ((es.length : Int) != (fs.length : Int)) = true := bne_iff_ne.2 (by omega)
    clear hlen
    go_enter Tryd.func77, Tryd.ntmps77
    go_wp2
    go_ret
    exact ⟨rfl, Below.refl _ _⟩

theorem implSS_any (es fs : List Ev) (A A' : Option Addr) (c c' : Nat) (w : World) (hm : es.length ≤ maxLen) (h : RdE w w.heap.size A es) (h' : RdE w w.heap.size A' fs) :
    Calls Tryd.prog 50 #[.slice A es.length c, .slice A' fs.length c'] w fun e w' => e = .returned (.bool (sameE es fs)) ∧ Below w.heap.size w w' := by
  go_enter Tryd.func50, Tryd.ntmps50
  go_wp2_with fail
  refine (slicesEq_any es fs A A' c c' _ hm h h').mono ?_
  rintro e w1 ⟨rfl, hb⟩
  go_wp2
  go_ret
  exact ⟨rfl, hb⟩
end Go.Proofs.YtkeifkdaddmkfaaDoor
