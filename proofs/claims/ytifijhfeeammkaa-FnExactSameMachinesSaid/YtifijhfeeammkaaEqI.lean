/- Contracts of SameMachines in the program, and of what it calls of Go's library. -/
import Derived.Test.YtifijhfeeammkaaSameM
import Derived.Test.YtifijhfeeammkaaGSS
namespace Go.Proofs.Ytifijhfeeammkaa
open Go.RowKit

open Classical in
noncomputable def sameC (es fs : List Cel) : Bool := if es = fs then true else false
def SameToC (es fs : List Cel) (k : Nat) : Prop := ∀ i, i < k → es[i]? = fs[i]?
theorem SameToC.zero (es fs : List Cel) : SameToC es fs 0 := fun i hi => by omega
theorem SameToC.step {es fs : List Cel} {k : Nat} (h : SameToC es fs k) (hk : k < es.length) {hk' : k < fs.length} (he : es[k] = fs[k]) : SameToC es fs (k + 1) := fun i hi => by
  by_cases hik : i = k
  · subst hik
    rw [List.getElem?_eq_getElem hk, List.getElem?_eq_getElem hk', he]
  · exact h i (by omega)
theorem sameC_all {es fs : List Cel} (hl : es.length = fs.length) (h : SameToC es fs es.length) : sameC es fs = true := by
  refine if_pos ?_
  apply List.ext_getElem?
  intro i
  by_cases hi : i < es.length
  · exact h i hi
  · rw [List.getElem?_eq_none (by omega), List.getElem?_eq_none (by omega)]
theorem sameC_not {es fs : List Cel} {k : Nat} (hk : k < es.length) {hk' : k < fs.length} (he : ¬ es[k] = fs[k]) : sameC es fs = false := by
  refine if_neg ?_
  intro e
  subst e
  exact he rfl
theorem sameC_len {es fs : List Cel} (h : ¬ es.length = fs.length) : sameC es fs = false := by
  refine if_neg ?_
  intro e
  exact h (by rw [e])
theorem sameC_refl (es : List Cel) : sameC es es = true := if_pos rfl
set_option maxRecDepth 100000 in
set_option maxHeartbeats 400000 in
theorem lineEq_any (es fs : List Ev) (A A' : Option Addr) (c c' : Nat) (w : World) (hm : es.length ≤ maxLen) (h : RdE w w.heap.size A es) (h' : RdE w w.heap.size A' fs) :
    Calls Try.prog 76 #[.slice A es.length c, .slice A' fs.length c'] w fun e w' => e = .returned (.bool (sameE es fs)) ∧ Below w.heap.size w w' := by
  unfold maxLen at hm
  by_cases hlen : fs.length = es.length
  · have HS := hide (sameE_all hlen.symm)
    rw [hlen]
    have hfl : ∀ k : Nat, k < es.length → k < fs.length := fun k h => by omega
    have HF := hide hfl
    clear hfl hlen
    go_enter Try.func76, Try.ntmps76
    go_wp2
    go_loopw [13] (fun i wr => ∃ k : Nat, k ≤ es.length ∧ i = .int .i64 k ∧ Below w.heap.size w wr ∧ Hid (SameTo es fs k)) (fun i _ => es.length - (intOf i).toNat)
    case atStart => exact ⟨0, Nat.zero_le _, rfl, Below.refl _ _, hide (SameTo.zero es fs)⟩
    case round =>
      obtain ⟨k, hk, rfl, hb, HR⟩ := hrel
      by_cases hlt : k < es.length
      · obtain ⟨b, off, rfl, hbb, hc0, hc1, hc2⟩ := (h.below hb).get hlt
        obtain ⟨b', off', rfl, hbb', hd0, hd1, hd2⟩ := (h'.below hb).get (HF.out _ hlt)
        by_cases he : es[k] = fs[k]'(HF.out _ hlt)
        · have HE := hide (HR.out.step hlt he)
          rw [← he] at hd0 hd1 hd2
          clear he
          go_wp2
          go_quiet (fail)
          go_wp2
          go_roundw
          case rel => exact ⟨k + 1, by omega, by go_num, below_drewN hb _, HE⟩
          case measure => simp [intOf]; omega
        · have HE := hide (sameE_not hlt he)
          rcases ev_ne he with hx | ⟨hx0, hx⟩ | ⟨hx0, hx1, hx⟩
          · have f0 := beq_eq_false_iff_ne.2 hx
            clear he hx
            go_wp2
            go_quiet (fail)
            go_wp2
            go_ret
            exact ⟨ret_bool HE.out.symm, below_drewN hb _⟩
          · rw [← hx0] at hd0
            have f0 := beq_eq_false_iff_ne.2 hx
            clear he hx hx0
            go_wp2
            go_quiet (fail)
            go_wp2
            go_ret
            exact ⟨ret_bool HE.out.symm, below_drewN hb _⟩
          · rw [← hx0] at hd0
            rw [← hx1] at hd1
            have f0 := beq_eq_false_iff_ne.2 hx
            clear he hx hx0 hx1
            go_wp2
            go_quiet (fail)
            go_wp2
            go_ret
            exact ⟨ret_bool HE.out.symm, below_drewN hb _⟩
      · obtain rfl : k = es.length := by omega
        go_wp2
        go_ret
        exact ⟨ret_bool (HS.out HR.out).symm, hb⟩
  · rw [sameE_len (fun e => hlen e.symm)]
    have f0 : ((es.length : Int) == (fs.length : Int)) = false := beq_eq_false_iff_ne.2 (by omega)
    have f1 : ((es.length : Int) != (fs.length : Int)) = true := bne_iff_ne.2 (by omega)
    clear hlen
    go_enter Try.func76, Try.ntmps76
    go_wp2
    go_ret
    exact ⟨rfl, Below.refl _ _⟩

set_option maxRecDepth 100000 in
set_option maxHeartbeats 400000 in
theorem cellEq_any (es fs : List Cel) (A A' : Option Addr) (c c' : Nat) (w : World) (hm : es.length ≤ maxLen) (h : RdC w w.heap.size A es) (h' : RdC w w.heap.size A' fs) :
    Calls Try.prog 77 #[.slice A es.length c, .slice A' fs.length c'] w fun e w' => e = .returned (.bool (sameC es fs)) ∧ Below w.heap.size w w' := by
  unfold maxLen at hm
  by_cases hlen : fs.length = es.length
  · have HS := hide (sameC_all hlen.symm)
    rw [hlen]
    have hfl : ∀ k : Nat, k < es.length → k < fs.length := fun k h => by omega
    have HF := hide hfl
    clear hfl hlen
    go_enter Try.func77, Try.ntmps77
    go_wp2
    go_loopw [13] (fun i wr => ∃ k : Nat, k ≤ es.length ∧ i = .int .i64 k ∧ Below w.heap.size w wr ∧ Hid (SameToC es fs k)) (fun i _ => es.length - (intOf i).toNat)
    case atStart => exact ⟨0, Nat.zero_le _, rfl, Below.refl _ _, hide (SameToC.zero es fs)⟩
    case round =>
      obtain ⟨k, hk, rfl, hb, HR⟩ := hrel
      by_cases hlt : k < es.length
      · obtain ⟨b, off, rfl, hbb, hc0, hc1⟩ := (h.below hb).get hlt
        obtain ⟨b', off', rfl, hbb', hd0, hd1⟩ := (h'.below hb).get (HF.out _ hlt)
        by_cases he : es[k] = fs[k]'(HF.out _ hlt)
        · have HE := hide (HR.out.step hlt he)
          rw [← he] at hd0 hd1
          clear he
          go_wp2
          go_quiet (fail)
          go_wp2
          go_roundw
          case rel => exact ⟨k + 1, by omega, by go_num, below_drewN hb _, HE⟩
          case measure => simp [intOf]; omega
        · have HE := hide (sameC_not hlt he)
          rcases cel_ne7 he with hx | ⟨hx0, hx⟩
          · have f0 := beq_eq_false_iff_ne.2 hx
            clear he hx
            go_wp2
            go_quiet (fail)
            go_wp2
            go_ret
            exact ⟨ret_bool HE.out.symm, below_drewN hb _⟩
          · rw [← hx0] at hd0
            have f0 := beq_eq_false_iff_ne.2 hx
            clear he hx hx0
            go_wp2
            go_quiet (fail)
            go_wp2
            go_ret
            exact ⟨ret_bool HE.out.symm, below_drewN hb _⟩
      · obtain rfl : k = es.length := by omega
        go_wp2
        go_ret
        exact ⟨ret_bool (HS.out HR.out).symm, hb⟩
  · rw [sameC_len (fun e => hlen e.symm)]
    have f0 : ((es.length : Int) == (fs.length : Int)) = false := beq_eq_false_iff_ne.2 (by omega)
    have f1 : ((es.length : Int) != (fs.length : Int)) = true := bne_iff_ne.2 (by omega)
    clear hlen
    go_enter Try.func77, Try.ntmps77
    go_wp2
    go_ret
    exact ⟨rfl, Below.refl _ _⟩

set_option maxRecDepth 100000 in
set_option maxHeartbeats 400000 in
theorem eqFuncL_any (t u : List (List Ev)) (A A' : Option Addr) (c c' : Nat) (w : World) (hm : t.length ≤ maxLen) (h : RdT w w.heap.size A t) (h' : RdT w w.heap.size A' u) :
    Calls Try.prog 75 #[.slice A t.length c, .slice A' u.length c', .func (.func 76) #[] #[]] w fun e w' => e = .returned (.bool (sameT t u)) ∧ Below w.heap.size w w' := by
  unfold maxLen at hm
  by_cases hlen : u.length = t.length
  · have HS := hide (sameT_all hlen.symm)
    have hfl : ∀ k : Nat, k < t.length → k < u.length := fun k h => by omega
    have HF := hide hfl
    rw [hlen]
    clear hfl hlen
    go_enter Try.func75, Try.ntmps75
    go_wp2
    go_loopw [17] (fun i wr => ∃ k : Nat, k ≤ t.length ∧ i = .int .i64 k ∧ Below w.heap.size w wr ∧ Hid (SameToT t u k)) (fun i _ => t.length - (intOf i).toNat)
    case atStart => exact ⟨0, Nat.zero_le _, rfl, Below.refl _ _, hide (SameToT.zero t u)⟩
    case round =>
      obtain ⟨k, hk, rfl, hb, HR⟩ := hrel
      by_cases hlt : k < t.length
      · obtain ⟨b, off, a, d, rfl, hbb, hc0, hle, hcm, hr⟩ := (h.below hb).get hlt
        obtain ⟨b', off', a', d', rfl, hbb', hd0, hle', hdm, hr'⟩ := (h'.below hb).get (HF.out _ hlt)
        by_cases he : t[k] = u[k]'(HF.out _ hlt)
        · have HE := hide (HR.out.step hlt he)
          have SP := hide (fun W => lineEq_any t[k] (u[k]'(HF.out _ hlt)) a a' d d' W (by omega))
          rw [show sameE t[k] (u[k]'(HF.out _ hlt)) = true by rw [← he]; exact sameE_refl _] at SP
          clear he
          go_wp2_with fail
          refine (SP.out _ hr.lt hr'.lt).mono ?_
          rintro e w3 ⟨rfl, hb3⟩
          have hb4 := hb.trans (hb3.mono hb.size)
          go_wp2
          go_roundw
          case rel => exact ⟨k + 1, by omega, by go_num, hb4, HE⟩
          case measure => simp [intOf]; omega
        · have HE := hide (sameT_not hlt he)
          have SP := hide (fun W => lineEq_any t[k] (u[k]'(HF.out _ hlt)) a a' d d' W (by omega))
          rw [show sameE t[k] (u[k]'(HF.out _ hlt)) = false from if_neg he] at SP
          clear he
          go_wp2_with fail
          refine (SP.out _ hr.lt hr'.lt).mono ?_
          rintro e w3 ⟨rfl, hb3⟩
          have hb4 := hb.trans (hb3.mono hb.size)
          go_wp2
          go_ret
          exact ⟨ret_bool HE.out.symm, hb4⟩
      · obtain rfl : k = t.length := by omega
        go_wp2
        go_ret
        exact ⟨ret_bool (HS.out HR.out).symm, hb⟩
  · rw [sameT_len (fun e => hlen e.symm)]
    have f0 : ((t.length : Int) == (u.length : Int)) = false := beq_eq_false_iff_ne.2 (by omega)
    have f1 : ((t.length : Int) != (u.length : Int)) = true := bne_iff_ne.2 (by omega)
    clear hlen
    go_enter Try.func75, Try.ntmps75
    go_wp2
    go_ret
    exact ⟨rfl, Below.refl _ _⟩

theorem sameM_split (m n : Mac) : sameM m n = (sameT m.cs n.cs && sameC m.mem n.mem) := by
  unfold sameM sameT sameC
  by_cases h : m.cs = n.cs
  · by_cases h2 : m.mem = n.mem
    · rw [if_pos ⟨h, h2⟩, if_pos h, if_pos h2]; rfl
    · rw [if_neg (fun e => h2 e.2), if_pos h, if_neg h2]; rfl
  · rw [if_neg (fun e => h e.1), if_neg h]; rfl
set_option maxRecDepth 100000 in
theorem implSM_any (m n : Mac) (A A' Z Z' : Option Addr) (c c' d d' : Nat) (w : World) (h1 : m.cs.length ≤ maxLen) (h2 : m.mem.length ≤ maxLen) (h : RdMac w w.heap.size A A' m) (k : RdMac w w.heap.size Z Z' n) :
    Calls Try.prog 23 #[macV A m.cs.length c A' m.mem.length c', macV Z n.cs.length d Z' n.mem.length d'] w fun e w' => e = .returned (.bool (sameM m n)) ∧ Below w.heap.size w w' := by
  obtain ⟨W, hW⟩ : ∃ W, W = (w.alloc (Obj.cells #[.slice A m.cs.length c, .slice A' m.mem.length c'] 27)).alloc (Obj.cells #[.slice Z n.cs.length d, .slice Z' n.mem.length d'] 27) := ⟨_, rfl⟩
  obtain ⟨k1, k2, hz, B0⟩ := two_new _ _ _ _ _ W hW
  have HW := hide hW
  have hR := (h.below B0).lt
  have kR := (k.below B0).lt
  clear hW
  have SP := hide (sameM_split m n)
  obtain ⟨x, hx⟩ : ∃ x, x = sameT m.cs n.cs := ⟨_, rfl⟩
  obtain ⟨y, hy⟩ : ∃ y, y = sameC m.mem n.mem := ⟨_, rfl⟩
  have IM := hide (fun W => eqFuncL_any m.cs n.cs A Z c d W h1)
  have IC := hide (fun W => cellEq_any m.mem n.mem A' Z' c' d' W h2)
  rw [← hx] at SP IM
  rw [← hy] at SP IC
  clear hx hy
  go_enter Try.func23, Try.ntmps23
  go_wp2_with fail
  rw [← HW.out]
  refine (IM.out _ hR.cs kR.cs).mono ?_
  rintro e w1 ⟨rfl, hb⟩
  have B1 := B0.trans (hb.mono B0.size)
  have q1 := (k1.kept hb).cell 1
  have q2 := (k2.kept hb).cell 1
  simp at q1 q2
  have hR1 := (hR.mem.below hb).lt
  have kR1 := (kR.mem.below hb).lt
  clear k1 k2
  cases x
  · go_wp2
    go_ret
    exact ⟨ret_bool (by rw [SP.out]; rfl), B1⟩
  · go_wp2_with fail
    refine (IC.out _ hR1 kR1).mono ?_
    rintro e w2 ⟨rfl, hb2⟩
    go_wp2
    go_ret
    exact ⟨ret_bool (by rw [SP.out]; rfl), B1.trans (hb2.mono B1.size)⟩
end Go.Proofs.Ytifijhfeeammkaa
