/- The contract of SameMachines, in the model. -/
import Derived.Test.YtifijhfeeammkaaGMsf
namespace Go.Proofs.Ytifijhfeeammkaa
open Go.RowKit

open Classical in
noncomputable def sameM (m n : Mac) : Bool := if m.cs = n.cs ∧ m.mem = n.mem then true else false
theorem sameM_yes {m n : Mac} (h : m.cs = n.cs) (h2 : m.mem = n.mem) : sameM m n = true := if_pos ⟨h, h2⟩
theorem sameM_cs {m n : Mac} (h : ¬ m.cs = n.cs) : sameM m n = false := if_neg fun hh => h hh.1
theorem sameM_mem {m n : Mac} (h : ¬ m.mem = n.mem) : sameM m n = false := if_neg fun hh => h hh.2
theorem ev_ne7 {e f : Ev} (h : ¬ e = f) : ¬ e.k = f.k ∨ (e.k = f.k ∧ ¬ e.a = f.a) ∨ (e.k = f.k ∧ e.a = f.a ∧ ¬ e.v = f.v) := by
  obtain ⟨k, a, v⟩ := e
  obtain ⟨k', a', v'⟩ := f
  by_cases h0 : k = k'
  · by_cases h1 : a = a'
    · by_cases h2 : v = v'
      · exact absurd (by rw [h0, h1, h2]) h
      · exact .inr (.inr ⟨h0, h1, h2⟩)
    · exact .inr (.inl ⟨h0, h1⟩)
  · exact .inl h0
theorem cel_ne7 {e f : Cel} (h : ¬ e = f) : ¬ e.a = f.a ∨ (e.a = f.a ∧ ¬ e.v = f.v) := by
  obtain ⟨a, v⟩ := e
  obtain ⟨a', v'⟩ := f
  by_cases h1 : a = a'
  · by_cases h2 : v = v'
    · exact absurd (by rw [h1, h2]) h
    · exact .inr ⟨h1, h2⟩
  · exact .inl h1
def Upto {α : Type} (l m : List α) (k : Nat) : Prop := ∀ i, i < k → l[i]? = m[i]?
theorem Upto.step {α : Type} {l m : List α} {k : Nat} (h : Upto l m k) (hk : k < l.length) {hk' : k < m.length} (he : l[k] = m[k]) : Upto l m (k + 1) := fun i hi => by
  by_cases e : i = k
  · subst e
    rw [List.getElem?_eq_getElem hk, List.getElem?_eq_getElem hk', he]
  · exact h i (by omega)
theorem Upto.all {α : Type} {l m : List α} (hl : m.length = l.length) (h : Upto l m l.length) : l = m := List.ext_getElem? fun i => by
  by_cases hi : i < l.length
  · exact h i hi
  · rw [List.getElem?_eq_none (by omega), List.getElem?_eq_none (by omega)]

set_option maxRecDepth 100000 in
set_option maxHeartbeats 1000000 in
theorem specSM_any (m n : Mac) (A A' Z Z' : Option Addr) (c c' d d' : Nat) (w : World) (h1 : m.cs.length ≤ maxLen) (h2 : m.mem.length ≤ maxLen) (h : RdMac w w.heap.size A A' m) (k : RdMac w w.heap.size Z Z' n) :
    Calls Try.prog 26 #[macV A m.cs.length c A' m.mem.length c', macV Z n.cs.length d Z' n.mem.length d'] w fun e w' => e = .returned (.bool (sameM m n)) ∧ Below w.heap.size w w' := by
  unfold maxLen at h1 h2
  by_cases hl : n.cs.length = m.cs.length
  · by_cases hl2 : n.mem.length = m.mem.length
    · obtain ⟨W, hW⟩ : ∃ W, W = (w.alloc (Obj.cells #[.slice A m.cs.length c, .slice A' m.mem.length c'] 27)).alloc (Obj.cells #[.slice Z n.cs.length d, .slice Z' n.mem.length d'] 27) := ⟨_, rfl⟩
      obtain ⟨k1, k2, hz, B0⟩ := two_new _ _ _ _ _ W hW
      rw [hl, hl2] at hW k2 ⊢
      have HW := hide hW
      have HL := hide hl
      have HL2 := hide hl2
      clear hW hl hl2
      have x0 := k1.cell 0
      have x1 := k1.cell 1
      have y0 := k2.cell 0
      have y1 := k2.cell 1
      simp at x0 x1 y0 y1
      go_enter Try.func26, Try.ntmps26
      generalize hQ : w.heap.size = Q at *
      go_wp2_with (rw [← HW.out])
      clear x0 x1 y0 y1
      go_loopw [27] (fun i wr => ∃ j : Nat, j ≤ m.cs.length ∧ i = .int .i64 j ∧ Below Q w wr ∧ Bk wr Q #[.slice A m.cs.length c, .slice A' m.mem.length c'] 27 ∧ Bk wr (Q + 1) #[.slice Z m.cs.length d, .slice Z' m.mem.length d'] 27 ∧ Hid (Upto m.cs n.cs j)) (fun i _ => m.cs.length - (intOf i).toNat)
      case atStart => exact ⟨0, Nat.zero_le _, rfl, B0, k1, k2, hide fun _ h => by omega⟩
      case round =>
        clear k1 k2
        obtain ⟨i, hik, rfl, hb, k1, k2, HR⟩ := hrel
        have x0 := k1.cell 0
        have x1 := k1.cell 1
        have y0 := k2.cell 0
        have y1 := k2.cell 1
        simp at x0 x1 y0 y1
        by_cases hi : i < m.cs.length
        · obtain ⟨b, off, a, e, rfl, _, hc0, hle, hcm, hr⟩ := (h.cs.below hb).get hi
          obtain ⟨b', off', a', e', rfl, _, hd0, hle', hcm', hr'⟩ := (k.cs.below hb).get (i := i) (by rw [HL.out]; exact hi)
          unfold maxLen at hcm hcm'
          by_cases hrow : (n.cs[i]'(by rw [HL.out]; exact hi)).length = m.cs[i].length
          · rw [hrow] at hd0 hle'
            have HRow := hide hrow
            clear hrow
            go_wp2
            go_quiet (fail)
            go_wp2
            clear x0 x1 y0 y1 hc0 hd0 hr hr'
            go_loopw [49] (fun q w2 => ∃ j : Nat, j ≤ m.cs[i].length ∧ q = .int .i64 j ∧ Below Q w w2 ∧ Bk w2 Q #[.slice (some ⟨b, off, none⟩) m.cs.length c, .slice A' m.mem.length c'] 27 ∧ Bk w2 (Q + 1) #[.slice (some ⟨b', off', none⟩) m.cs.length d, .slice Z' m.mem.length d'] 27 ∧ Hid (Upto m.cs[i] (n.cs[i]'(by rw [HL.out]; exact hi)) j)) (fun q _ => m.cs[i].length - (intOf q).toNat)
            case atStart => exact ⟨0, Nat.zero_le _, rfl, below_drewN hb _, k1.drewN _, k2.drewN _, hide fun _ h => by omega⟩
            case round =>
              clear hb k1 k2
              obtain ⟨j, hjk, rfl, hb2, k1, k2, HJ⟩ := hrel
              have x0 := k1.cell 0
              have y0 := k2.cell 0
              simp at x0 y0
              by_cases hj : j < m.cs[i].length
              · obtain ⟨b3, off3, a3, e3, hA, _, hc0, hle3, _, hr⟩ := (h.cs.below hb2).get hi
                cases hA
                obtain ⟨b4, off4, a4, e4, hA, _, hd0, hle4, _, hr'⟩ := (k.cs.below hb2).get (i := i) (by rw [HL.out]; exact hi)
                cases hA
                rw [HRow.out] at hd0 hle4
                obtain ⟨b5, off5, rfl, _, c0, c1, c2⟩ := hr.get hj
                obtain ⟨b6, off6, rfl, _, d0, d1, d2⟩ := hr'.get (i := j) (by rw [HRow.out]; exact hj)
                by_cases he : m.cs[i][j] = (n.cs[i]'(by rw [HL.out]; exact hi))[j]'(by rw [HRow.out]; exact hj)
                · have HE := hide (HJ.out.step hj he)
                  rw [← he] at d0 d1 d2
                  clear he
                  go_wp2
                  go_quiet (fail)
                  go_wp2
                  go_roundw
                  case rel => exact ⟨j + 1, by omega, by go_num, below_drewN hb2 _, k1.drewN _, k2.drewN _, HE⟩
                  case measure => simp [intOf]; omega
                · have hcs : ¬ m.cs = n.cs := fun e => he (by simp [e])
                  have HS := hide (sameM_cs hcs)
                  clear hcs
                  rcases ev_ne7 he with hx | ⟨hx0, hx⟩ | ⟨hx0, hx1, hx⟩
                  · have f0 := beq_eq_false_iff_ne.2 hx
                    clear he hx
                    go_wp2
                    go_quiet (fail)
                    go_wp2
                    go_ret
                    exact ⟨ret_bool (by rw [HS.out]), below_drewN hb2 _⟩
                  · have f0 := beq_eq_false_iff_ne.2 hx
                    rw [← hx0] at d0
                    clear he hx hx0
                    go_wp2
                    go_quiet (fail)
                    go_wp2
                    go_ret
                    exact ⟨ret_bool (by rw [HS.out]), below_drewN hb2 _⟩
                  · have f0 := beq_eq_false_iff_ne.2 hx
                    rw [← hx0] at d0
                    rw [← hx1] at d1
                    clear he hx hx0 hx1
                    go_wp2
                    go_quiet (fail)
                    go_wp2
                    go_ret
                    exact ⟨ret_bool (by rw [HS.out]), below_drewN hb2 _⟩
              · have hjl : j = m.cs[i].length := by omega
                have hrw : m.cs[i] = n.cs[i]'(by rw [HL.out]; exact hi) := Upto.all HRow.out (by rw [← hjl]; exact HJ.out)
                have HE := hide (HR.out.step hi hrw)
                clear hrw hjl
                go_wp2
                go_roundw
                case rel => exact ⟨i + 1, by omega, by go_num, hb2, k1, k2, HE⟩
                case measure => simp [intOf]; omega
          · have hcs : ¬ m.cs = n.cs := fun e => hrow (by simp [e])
            have HS := hide (sameM_cs hcs)
            obtain ⟨R, hR⟩ : ∃ R, R = (n.cs[i]'(by rw [HL.out]; exact hi)).length := ⟨_, rfl⟩
            rw [← hR] at hd0 hrow hle'
            have f0 : ((m.cs[i].length : Int) == (R : Int)) = false := beq_eq_false_iff_ne.2 (by omega)
            have f1 : ((m.cs[i].length : Int) != (R : Int)) = true := bne_iff_ne.2 (by omega)
            clear hcs hrow hR
            go_wp2
            go_quiet (fail)
            go_wp2
            go_ret
            exact ⟨ret_bool (by rw [HS.out]), below_drewN hb _⟩
        · have hil : i = m.cs.length := by omega
          have hrw : m.cs = n.cs := Upto.all HL.out (by rw [← hil]; exact HR.out)
          have HCs := hide hrw
          clear hrw hil
          go_wp2
          clear x0 x1 y0 y1
          go_loopw [74] (fun q w2 => ∃ j : Nat, j ≤ m.mem.length ∧ q = .int .i64 j ∧ Below Q w w2 ∧ Bk w2 Q #[.slice A m.cs.length c, .slice A' m.mem.length c'] 27 ∧ Bk w2 (Q + 1) #[.slice Z m.cs.length d, .slice Z' m.mem.length d'] 27 ∧ Hid (Upto m.mem n.mem j)) (fun q _ => m.mem.length - (intOf q).toNat)
          case atStart => exact ⟨0, Nat.zero_le _, rfl, hb, k1, k2, hide fun _ h => by omega⟩
          case round =>
            clear hb k1 k2
            obtain ⟨j, hjk, rfl, hb2, k1, k2, HJ⟩ := hrel
            have x1 := k1.cell 1
            have y1 := k2.cell 1
            simp at x1 y1
            by_cases hj : j < m.mem.length
            · obtain ⟨b5, off5, rfl, _, c0, c1⟩ := (h.mem.below hb2).get hj
              obtain ⟨b6, off6, rfl, _, d0, d1⟩ := (k.mem.below hb2).get (i := j) (by rw [HL2.out]; exact hj)
              by_cases he : m.mem[j] = n.mem[j]'(by rw [HL2.out]; exact hj)
              · have HE := hide (HJ.out.step hj he)
                rw [← he] at d0 d1
                clear he
                go_wp2
                go_quiet (fail)
                go_wp2
                go_roundw
                case rel => exact ⟨j + 1, by omega, by go_num, below_drewN hb2 _, k1.drewN _, k2.drewN _, HE⟩
                case measure => simp [intOf]; omega
              · have hcs : ¬ m.mem = n.mem := fun e => he (by simp [e])
                have HS := hide (sameM_mem hcs)
                clear hcs
                rcases cel_ne7 he with hx | ⟨hx0, hx⟩
                · have f0 := beq_eq_false_iff_ne.2 hx
                  clear he hx
                  go_wp2
                  go_quiet (fail)
                  go_wp2
                  go_ret
                  exact ⟨ret_bool (by rw [HS.out]), below_drewN hb2 _⟩
                · have f0 := beq_eq_false_iff_ne.2 hx
                  rw [← hx0] at d0
                  clear he hx hx0
                  go_wp2
                  go_quiet (fail)
                  go_wp2
                  go_ret
                  exact ⟨ret_bool (by rw [HS.out]), below_drewN hb2 _⟩
            · have hjl : j = m.mem.length := by omega
              have HS := hide (sameM_yes HCs.out (Upto.all HL2.out (by rw [← hjl]; exact HJ.out)))
              go_wp2
              go_ret
              exact ⟨ret_bool (by rw [HS.out]), hb2⟩
    · have HS := hide (sameM_mem (m := m) (n := n) fun e => hl2 (by rw [e]))
      rw [hl]
      have f0 : ((m.mem.length : Int) == (n.mem.length : Int)) = false := beq_eq_false_iff_ne.2 (by omega)
      have f1 : ((m.mem.length : Int) != (n.mem.length : Int)) = true := bne_iff_ne.2 (by omega)
      clear hl hl2
      go_enter Try.func26, Try.ntmps26
      go_wp2
      go_ret
      exact ⟨ret_bool (by rw [HS.out]), by go_grown⟩
  · have HS := hide (sameM_cs (m := m) (n := n) fun e => hl (by rw [e]))
    have f0 : ((m.cs.length : Int) == (n.cs.length : Int)) = false := beq_eq_false_iff_ne.2 (by omega)
    have f1 : ((m.cs.length : Int) != (n.cs.length : Int)) = true := bne_iff_ne.2 (by omega)
    clear hl
    go_enter Try.func26, Try.ntmps26
    go_wp2
    go_ret
    exact ⟨ret_bool (by rw [HS.out]), by go_grown⟩
end Go.Proofs.Ytifijhfeeammkaa
