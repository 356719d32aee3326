/- Contracts of SameSteps, in the program and in its model. Contracts of SameTraces, in the program and in its model. -/
import Derived.Test.YthomadhdjapahaaGEv
import Derived.Test.YthomadhdjapahaaGBase
namespace Go.Proofs.Ythomadhdjapahaa
open Go.RowKit

open Classical in
noncomputable def sameE (es fs : List Ev) : Bool := if es = fs then true else false
def SameTo (es fs : List Ev) (k : Nat) : Prop := ∀ i, i < k → es[i]? = fs[i]?
theorem SameTo.zero (es fs : List Ev) : SameTo es fs 0 := fun i hi => by omega
theorem SameTo.step {es fs : List Ev} {k : Nat} (h : SameTo es fs k) (hk : k < es.length) {hk' : k < fs.length} (he : es[k] = fs[k]) : SameTo es fs (k + 1) := fun i hi => by
  by_cases hik : i = k
  · subst hik
    rw [List.getElem?_eq_getElem hk, List.getElem?_eq_getElem hk', he]
  · exact h i (by omega)
theorem sameE_all {es fs : List Ev} (hl : es.length = fs.length) (h : SameTo es fs es.length) : sameE es fs = true := by
  refine if_pos ?_
  apply List.ext_getElem?
  intro i
  by_cases hi : i < es.length
  · exact h i hi
  · rw [List.getElem?_eq_none (by omega), List.getElem?_eq_none (by omega)]
theorem sameE_not {es fs : List Ev} {k : Nat} (hk : k < es.length) {hk' : k < fs.length} (he : ¬ es[k] = fs[k]) : sameE es fs = false := by
  refine if_neg ?_
  intro e
  subst e
  exact he rfl
theorem sameE_len {es fs : List Ev} (h : ¬ es.length = fs.length) : sameE es fs = false := by
  refine if_neg ?_
  intro e
  exact h (by rw [e])
theorem sameE_refl (es : List Ev) : sameE es es = true := if_pos rfl
theorem ev_ne {e f : Ev} (h : ¬ e = f) : ¬ e.k = f.k ∨ (e.k = f.k ∧ ¬ e.a = f.a) ∨ (e.k = f.k ∧ e.a = f.a ∧ ¬ e.v = f.v) := by
  obtain ⟨k, a, v⟩ := e
  obtain ⟨k', a', v'⟩ := f
  by_cases h0 : k = k'
  · by_cases h1 : a = a'
    · by_cases h2 : v = v'
      · exact absurd (by rw [h0, h1, h2]) h
      · exact .inr (.inr ⟨h0, h1, h2⟩)
    · exact .inr (.inl ⟨h0, h1⟩)
  · exact .inl h0

set_option maxRecDepth 100000 in
set_option maxHeartbeats 400000 in
theorem specSS_any (es fs : List Ev) (A A' : Option Addr) (c c' : Nat) (w : World) (hm : es.length ≤ maxLen) (h : RdE w w.heap.size A es) (h' : RdE w w.heap.size A' fs) :
    Calls Try.prog 83 #[.slice A es.length c, .slice A' fs.length c'] w fun e w' => e = .returned (.bool (sameE es fs)) ∧ Below w.heap.size w w' := by
  unfold maxLen at hm
  by_cases hlen : fs.length = es.length
  · have HS := hide (sameE_all hlen.symm)
    rw [hlen]
    have hfl : ∀ k : Nat, k < es.length → k < fs.length := fun k h => by omega
    have HF := hide hfl
    clear hfl hlen
    go_enter Try.func83, Try.ntmps83
    go_wp2
    go_loopw [13] (fun i wr => ∃ k : Nat, k ≤ es.length ∧ i = .int .i64 k ∧ Below w.heap.size w wr ∧ Hid (SameTo es fs k)) (fun i _ => es.length - (intOf i).toNat)
    case atStart => exact ⟨0, Nat.zero_le _, rfl, Below.refl _ _, hide (SameTo.zero es fs)⟩
    case round =>
      obtain ⟨k, hk, rfl, hb, HR⟩ := hrel
      by_cases hlt : k < es.length
      · obtain ⟨b, off, rfl, hbb, hc0, hc1, hc2⟩ := (h.below hb).get hlt
        obtain ⟨b', off', rfl, hbb', hd0, hd1, hd2⟩ := (h'.below hb).get (HF.out _ hlt)
        by_cases he : es[k] = fs[k]'(HF.out _ hlt)
        · have HE := hide (HR.out.step hlt he)
          rw [← he] at hd0 hd1 hd2
          clear he
          go_wp2
          go_quiet (fail)
          go_wp2
          go_roundw
          case rel => exact ⟨k + 1, by omega, by go_num, below_drewN hb _, HE⟩
          case measure => simp [intOf]; omega
        · have HE := hide (sameE_not hlt he)
          rcases ev_ne he with hx | ⟨hx0, hx⟩ | ⟨hx0, hx1, hx⟩
          · have f0 := beq_eq_false_iff_ne.2 hx
            clear he hx
            go_wp2
            go_quiet (fail)
            go_wp2
            go_ret
            exact ⟨ret_bool HE.out.symm, below_drewN hb _⟩
          · rw [← hx0] at hd0
            have f0 := beq_eq_false_iff_ne.2 hx
            clear he hx hx0
            go_wp2
            go_quiet (fail)
            go_wp2
            go_ret
            exact ⟨ret_bool HE.out.symm, below_drewN hb _⟩
          · rw [← hx0] at hd0
            rw [← hx1] at hd1
            have f0 := beq_eq_false_iff_ne.2 hx
            clear he hx hx0 hx1
            go_wp2
            go_quiet (fail)
            go_wp2
            go_ret
            exact ⟨ret_bool HE.out.symm, below_drewN hb _⟩
      · obtain rfl : k = es.length := by omega
        go_wp2
        go_ret
        exact ⟨ret_bool (HS.out HR.out).symm, hb⟩
  · rw [sameE_len (fun e => hlen e.symm)]
    have f0 : ((es.length : Int) == (fs.length : Int)) = false := beq_eq_false_iff_ne.2 (by omega)
    have f1 : ((es.length : Int) != (fs.length : Int)) = true := bne_iff_ne.2 (by omega)
    clear hlen
    go_enter Try.func83, Try.ntmps83
    go_wp2
    go_ret
    exact ⟨rfl, Below.refl _ _⟩

set_option maxRecDepth 100000 in
set_option maxHeartbeats 400000 in
theorem slicesEq_any (es fs : List Ev) (A A' : Option Addr) (c c' : Nat) (w : World) (hm : es.length ≤ maxLen) (h : RdE w w.heap.size A es) (h' : RdE w w.heap.size A' fs) :
    Calls Try.prog 88 #[.slice A es.length c, .slice A' fs.length c'] w fun e w' => e = .returned (.bool (sameE es fs)) ∧ Below w.heap.size w w' := by
  unfold maxLen at hm
  by_cases hlen : fs.length = es.length
  · have HS := hide (sameE_all hlen.symm)
    rw [hlen]
    have hfl : ∀ k : Nat, k < es.length → k < fs.length := fun k h => by omega
    have HF := hide hfl
    clear hfl hlen
    go_enter Try.func88, Try.ntmps88
    go_wp2
    go_loopw [13] (fun i wr => ∃ k : Nat, k ≤ es.length ∧ i = .int .i64 k ∧ Below w.heap.size w wr ∧ Hid (SameTo es fs k)) (fun i _ => es.length - (intOf i).toNat)
    case atStart => exact ⟨0, Nat.zero_le _, rfl, Below.refl _ _, hide (SameTo.zero es fs)⟩
    case round =>
      obtain ⟨k, hk, rfl, hb, HR⟩ := hrel
      by_cases hlt : k < es.length
      · obtain ⟨b, off, rfl, hbb, hc0, hc1, hc2⟩ := (h.below hb).get hlt
        obtain ⟨b', off', rfl, hbb', hd0, hd1, hd2⟩ := (h'.below hb).get (HF.out _ hlt)
        by_cases he : es[k] = fs[k]'(HF.out _ hlt)
        · have HE := hide (HR.out.step hlt he)
          rw [← he] at hd0 hd1 hd2
          clear he
          go_wp2
          go_quiet (fail)
          go_wp2
          go_roundw
          case rel => exact ⟨k + 1, by omega, by go_num, below_drewN hb _, HE⟩
          case measure => simp [intOf]; omega
        · have HE := hide (sameE_not hlt he)
          rcases ev_ne he with hx | ⟨hx0, hx⟩ | ⟨hx0, hx1, hx⟩
          · have f0 := beq_eq_false_iff_ne.2 hx
            clear he hx
            go_wp2
            go_quiet (fail)
            go_wp2
            go_ret
            exact ⟨ret_bool HE.out.symm, below_drewN hb _⟩
          · rw [← hx0] at hd0
            have f0 := beq_eq_false_iff_ne.2 hx
            clear he hx hx0
            go_wp2
            go_quiet (fail)
            go_wp2
            go_ret
            exact ⟨ret_bool HE.out.symm, below_drewN hb _⟩
          · rw [← hx0] at hd0
            rw [← hx1] at hd1
            have f0 := beq_eq_false_iff_ne.2 hx
            clear he hx hx0 hx1
            go_wp2
            go_quiet (fail)
            go_wp2
            go_ret
            exact ⟨ret_bool HE.out.symm, below_drewN hb _⟩
      · obtain rfl : k = es.length := by omega
        go_wp2
        go_ret
        exact ⟨ret_bool (HS.out HR.out).symm, hb⟩
  · rw [sameE_len (fun e => hlen e.symm)]
    have f0 : ((es.length : Int) == (fs.length : Int)) = false := beq_eq_false_iff_ne.2 (by omega)
    have f1 : ((es.length : Int) != (fs.length : Int)) = true := bne_iff_ne.2 (by omega)
    clear hlen
    go_enter Try.func88, Try.ntmps88
    go_wp2
    go_ret
    exact ⟨rfl, Below.refl _ _⟩

theorem implSS_any (es fs : List Ev) (A A' : Option Addr) (c c' : Nat) (w : World) (hm : es.length ≤ maxLen) (h : RdE w w.heap.size A es) (h' : RdE w w.heap.size A' fs) :
    Calls Try.prog 82 #[.slice A es.length c, .slice A' fs.length c'] w fun e w' => e = .returned (.bool (sameE es fs)) ∧ Below w.heap.size w w' := by
  go_enter Try.func82, Try.ntmps82
  go_wp2_with fail
  refine (slicesEq_any es fs A A' c c' _ hm h h').mono ?_
  rintro e w1 ⟨rfl, hb⟩
  go_wp2
  go_ret
  exact ⟨rfl, hb⟩
end Go.Proofs.Ythomadhdjapahaa
namespace Go.Proofs.Ythomadhdjapahaa
open Go.RowKit

open Classical in
noncomputable def sameT (t u : List (List Ev)) : Bool := if t = u then true else false
def SameToT (t u : List (List Ev)) (k : Nat) : Prop := ∀ i, i < k → t[i]? = u[i]?
theorem SameToT.zero (t u : List (List Ev)) : SameToT t u 0 := fun i hi => by omega
theorem SameToT.step {t u : List (List Ev)} {k : Nat} (h : SameToT t u k) (hk : k < t.length) {hk' : k < u.length} (he : t[k] = u[k]) : SameToT t u (k + 1) := fun i hi => by
  by_cases hik : i = k
  · subst hik
    rw [List.getElem?_eq_getElem hk, List.getElem?_eq_getElem hk', he]
  · exact h i (by omega)
theorem sameT_all {t u : List (List Ev)} (hl : t.length = u.length) (h : SameToT t u t.length) : sameT t u = true := by
  refine if_pos ?_
  apply List.ext_getElem?
  intro i
  by_cases hi : i < t.length
  · exact h i hi
  · rw [List.getElem?_eq_none (by omega), List.getElem?_eq_none (by omega)]
theorem sameT_not {t u : List (List Ev)} {k : Nat} (hk : k < t.length) {hk' : k < u.length} (he : ¬ t[k] = u[k]) : sameT t u = false := by
  refine if_neg ?_
  intro e
  subst e
  exact he rfl
theorem sameT_len {t u : List (List Ev)} (h : ¬ t.length = u.length) : sameT t u = false := by
  refine if_neg ?_
  intro e
  exact h (by rw [e])
theorem sameT_refl (t : List (List Ev)) : sameT t t = true := if_pos rfl

set_option maxRecDepth 100000 in
set_option maxHeartbeats 400000 in
theorem specST_any (t u : List (List Ev)) (A A' : Option Addr) (c c' : Nat) (w : World) (hm : t.length ≤ maxLen) (h : RdT w w.heap.size A t) (h' : RdT w w.heap.size A' u) :
    Calls Try.prog 60 #[.slice A t.length c, .slice A' u.length c'] w fun e w' => e = .returned (.bool (sameT t u)) ∧ Below w.heap.size w w' := by
  unfold maxLen at hm
  by_cases hlen : u.length = t.length
  · have HS := hide (sameT_all hlen.symm)
    have hfl : ∀ k : Nat, k < t.length → k < u.length := fun k h => by omega
    have HF := hide hfl
    rw [hlen]
    clear hfl hlen
    go_enter Try.func60, Try.ntmps60
    go_wp2
    go_loopw [13] (fun i wr => ∃ k : Nat, k ≤ t.length ∧ i = .int .i64 k ∧ Below w.heap.size w wr ∧ Hid (SameToT t u k)) (fun i _ => t.length - (intOf i).toNat)
    case atStart => exact ⟨0, Nat.zero_le _, rfl, Below.refl _ _, hide (SameToT.zero t u)⟩
    case round =>
      obtain ⟨k, hk, rfl, hb, HR⟩ := hrel
      by_cases hlt : k < t.length
      · obtain ⟨b, off, a, d, rfl, hbb, hc0, hle, hcm, hr⟩ := (h.below hb).get hlt
        obtain ⟨b', off', a', d', rfl, hbb', hd0, hle', hdm, hr'⟩ := (h'.below hb).get (HF.out _ hlt)
        by_cases he : t[k] = u[k]'(HF.out _ hlt)
        · have HE := hide (HR.out.step hlt he)
          have SP := hide (fun W => specSS_any t[k] (u[k]'(HF.out _ hlt)) a a' d d' W (by omega))
          rw [show sameE t[k] (u[k]'(HF.out _ hlt)) = true by rw [← he]; exact sameE_refl _] at SP
          clear he
          go_wp2
          go_still_tail 8, (by kernel_rfl)
          change wpList _ _ _ _ _ wr.drew
          generalize hw2 : wr.drew = w2
          have hb2 : Below w.heap.size w w2 := by rw [← hw2]; exact hb.drew
          have hr2 : RdE w2 w.heap.size a t[k] := by rw [← hw2]; exact hr
          have hr2' : RdE w2 w.heap.size a' (u[k]'(HF.out _ hlt)) := by rw [← hw2]; exact hr'
          clear hw2
          go_wp2_with fail
          refine (SP.out _ hr2.lt hr2'.lt).mono ?_
          rintro e w3 ⟨rfl, hb3⟩
          have hb4 := hb2.trans (hb3.mono hb2.size)
          go_wp2
          go_roundw
          case rel => exact ⟨k + 1, by omega, by go_num, hb4, HE⟩
          case measure => simp [intOf]; omega
        · have HE := hide (sameT_not hlt he)
          have SP := hide (fun W => specSS_any t[k] (u[k]'(HF.out _ hlt)) a a' d d' W (by omega))
          rw [show sameE t[k] (u[k]'(HF.out _ hlt)) = false from if_neg he] at SP
          clear he
          go_wp2
          go_still_tail 8, (by kernel_rfl)
          change wpList _ _ _ _ _ wr.drew
          generalize hw2 : wr.drew = w2
          have hb2 : Below w.heap.size w w2 := by rw [← hw2]; exact hb.drew
          have hr2 : RdE w2 w.heap.size a t[k] := by rw [← hw2]; exact hr
          have hr2' : RdE w2 w.heap.size a' (u[k]'(HF.out _ hlt)) := by rw [← hw2]; exact hr'
          clear hw2
          go_wp2_with fail
          refine (SP.out _ hr2.lt hr2'.lt).mono ?_
          rintro e w3 ⟨rfl, hb3⟩
          have hb4 := hb2.trans (hb3.mono hb2.size)
          go_wp2
          go_ret
          exact ⟨ret_bool HE.out.symm, hb4⟩
      · obtain rfl : k = t.length := by omega
        go_wp2
        go_ret
        exact ⟨ret_bool (HS.out HR.out).symm, hb⟩
  · rw [sameT_len (fun e => hlen e.symm)]
    have f0 : ((t.length : Int) == (u.length : Int)) = false := beq_eq_false_iff_ne.2 (by omega)
    have f1 : ((t.length : Int) != (u.length : Int)) = true := bne_iff_ne.2 (by omega)
    clear hlen
    go_enter Try.func60, Try.ntmps60
    go_wp2
    go_ret
    exact ⟨rfl, Below.refl _ _⟩

set_option maxRecDepth 100000 in
set_option maxHeartbeats 400000 in
theorem eqFunc_any (t u : List (List Ev)) (A A' : Option Addr) (c c' : Nat) (w : World) (hm : t.length ≤ maxLen) (h : RdT w w.heap.size A t) (h' : RdT w w.heap.size A' u) :
    Calls Try.prog 81 #[.slice A t.length c, .slice A' u.length c', .func (.func 82) #[] #[]] w fun e w' => e = .returned (.bool (sameT t u)) ∧ Below w.heap.size w w' := by
  unfold maxLen at hm
  by_cases hlen : u.length = t.length
  · have HS := hide (sameT_all hlen.symm)
    have hfl : ∀ k : Nat, k < t.length → k < u.length := fun k h => by omega
    have HF := hide hfl
    rw [hlen]
    clear hfl hlen
    go_enter Try.func81, Try.ntmps81
    go_wp2
    go_loopw [17] (fun i wr => ∃ k : Nat, k ≤ t.length ∧ i = .int .i64 k ∧ Below w.heap.size w wr ∧ Hid (SameToT t u k)) (fun i _ => t.length - (intOf i).toNat)
    case atStart => exact ⟨0, Nat.zero_le _, rfl, Below.refl _ _, hide (SameToT.zero t u)⟩
    case round =>
      obtain ⟨k, hk, rfl, hb, HR⟩ := hrel
      by_cases hlt : k < t.length
      · obtain ⟨b, off, a, d, rfl, hbb, hc0, hle, hcm, hr⟩ := (h.below hb).get hlt
        obtain ⟨b', off', a', d', rfl, hbb', hd0, hle', hdm, hr'⟩ := (h'.below hb).get (HF.out _ hlt)
        by_cases he : t[k] = u[k]'(HF.out _ hlt)
        · have HE := hide (HR.out.step hlt he)
          have SP := hide (fun W => implSS_any t[k] (u[k]'(HF.out _ hlt)) a a' d d' W (by omega))
          rw [show sameE t[k] (u[k]'(HF.out _ hlt)) = true by rw [← he]; exact sameE_refl _] at SP
          clear he
          go_wp2_with fail
          refine (SP.out _ hr.lt hr'.lt).mono ?_
          rintro e w3 ⟨rfl, hb3⟩
          have hb4 := hb.trans (hb3.mono hb.size)
          go_wp2
          go_roundw
          case rel => exact ⟨k + 1, by omega, by go_num, hb4, HE⟩
          case measure => simp [intOf]; omega
        · have HE := hide (sameT_not hlt he)
          have SP := hide (fun W => implSS_any t[k] (u[k]'(HF.out _ hlt)) a a' d d' W (by omega))
          rw [show sameE t[k] (u[k]'(HF.out _ hlt)) = false from if_neg he] at SP
          clear he
          go_wp2_with fail
          refine (SP.out _ hr.lt hr'.lt).mono ?_
          rintro e w3 ⟨rfl, hb3⟩
          have hb4 := hb.trans (hb3.mono hb.size)
          go_wp2
          go_ret
          exact ⟨ret_bool HE.out.symm, hb4⟩
      · obtain rfl : k = t.length := by omega
        go_wp2
        go_ret
        exact ⟨ret_bool (HS.out HR.out).symm, hb⟩
  · rw [sameT_len (fun e => hlen e.symm)]
    have f0 : ((t.length : Int) == (u.length : Int)) = false := beq_eq_false_iff_ne.2 (by omega)
    have f1 : ((t.length : Int) != (u.length : Int)) = true := bne_iff_ne.2 (by omega)
    clear hlen
    go_enter Try.func81, Try.ntmps81
    go_wp2
    go_ret
    exact ⟨rfl, Below.refl _ _⟩

theorem implST_any (t u : List (List Ev)) (A A' : Option Addr) (c c' : Nat) (w : World) (hm : t.length ≤ maxLen) (h : RdT w w.heap.size A t) (h' : RdT w w.heap.size A' u) :
    Calls Try.prog 59 #[.slice A t.length c, .slice A' u.length c'] w fun e w' => e = .returned (.bool (sameT t u)) ∧ Below w.heap.size w w' := by
  go_enter Try.func59, Try.ntmps59
  go_wp2_with fail
  refine (eqFunc_any t u A A' c c' _ hm h h').mono ?_
  rintro e w1 ⟨rfl, hb⟩
  go_wp2
  go_ret
  exact ⟨rfl, hb⟩
end Go.Proofs.Ythomadhdjapahaa
