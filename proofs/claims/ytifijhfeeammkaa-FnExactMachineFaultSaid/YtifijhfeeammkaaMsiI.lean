/- Contracts of chapter 7's keeping together, in the model. -/
import Derived.Test.YtifijhfeeammkaaMsiH
namespace Go.Proofs.Ytifijhfeeammkaa
open Go.RowKit

def TogAt (n : Nat) (m : Mac) (i k : Nat) : Prop :=
  ((ln m.cs i k).k = 1 → (ln m.cs i k).v = readM m.mem (ln m.cs i k).a) ∧
  ∀ j, j < n → j ≠ i → (ln m.cs i k).k = 2 → (ln m.cs j k).k ≠ 0 → (ln m.cs j k).a ≠ (ln m.cs i k).a
open Classical in
noncomputable def togB (n L : Nat) (m : Mac) : Bool := if Tog n L m then true else false
theorem togB_yes {n L : Nat} {m : Mac} (h : Tog n L m) : togB n L m = true := if_pos h
theorem togB_no {n L : Nat} {m : Mac} (h : ¬ Tog n L m) : togB n L m = false := if_neg h

set_option maxRecDepth 100000 in
set_option maxHeartbeats 800000 in
theorem l7Together_any (m : Mac) (L : Nat) (A A' : Option Addr) (c c' g : Nat) (w : World) (hsh : Shp7 m.cs.length L m.cs) (h4 : m.cs.length ≤ 4) (hL : L ≤ 4) (h2 : m.mem.length ≤ 32) (hg : g < w.heap.size) (ha : MacAt w g A c A' c' m) (h : RdMac w w.heap.size A A' m) :
    Calls Try.prog 89 #[.pointer (some ⟨g, 0, none⟩)] w fun e w' => e = .returned (.bool (togB m.cs.length L m)) ∧ Below w.heap.size w w' := by
  have m0 := ha.c0
  go_enter Try.func89, Try.ntmps89
  go_wp2
  clear m0
  go_loopw [13] (fun i wr => ∃ k : Nat, k ≤ m.cs.length ∧ i = .int .i64 k ∧ Below w.heap.size w wr ∧ Hid (∀ i, i < k → ∀ q, q < L → TogAt m.cs.length m i q)) (fun i _ => m.cs.length - (intOf i).toNat)
  case atStart => exact ⟨0, Nat.zero_le _, rfl, Below.refl _ _, hide fun _ h => by omega⟩
  case round =>
    obtain ⟨i, hik, rfl, hb, HR⟩ := hrel
    by_cases hi : i < m.cs.length
    · have m0 := (ha.below hb hg).c0
      obtain ⟨b, off, a, d, rfl, _, hc0, hle, hcm, _⟩ := (h.cs.below hb).get hi
      have hLi := hsh.2 _ (List.getElem_mem hi)
      rw [hLi] at hc0 hle
      go_wp2
      clear m0 hc0 hle hcm
      go_loopw [24] (fun q w2 => ∃ k : Nat, k ≤ L ∧ q = .int .i64 k ∧ Below w.heap.size w w2 ∧ Hid (∀ q, q < k → TogAt m.cs.length m i q)) (fun q _ => L - (intOf q).toNat)
      case atStart => exact ⟨0, Nat.zero_le _, rfl, hb, hide fun _ h => by omega⟩
      case round =>
        obtain ⟨k, hkL, rfl, hb2, HS⟩ := hrel
        by_cases hk : k < L
        · have m0 := (ha.below hb2 hg).c0
          have m1 := (ha.below hb2 hg).c1
          obtain ⟨b', off', a', d', hA, _, hc0, hle, hcm, hr⟩ := (h.cs.below hb2).get hi
          cases hA
          rw [hLi] at hc0 hle
          obtain ⟨b3, off3, rfl, hb3, e0, e1, e2⟩ := hr.get (i := k) (by omega)
          obtain ⟨X, hX⟩ : ∃ X, X = m.cs[i][k]'(by omega) := ⟨_, rfl⟩
          have hln := ln_get m.cs i k hi (by omega)
          rw [← hX] at e0 e1 e2 hln
          have HX := hide hln
          clear hX hln
          go_wp2
          have kx := Bk.new wr #[.int .i64 X.k, .int .i64 X.a, .int .i64 X.v] 115
          have hbx := hb2.alloc hb2.size (Obj.cells #[.int .i64 X.k, .int .i64 X.a, .int .i64 X.v] 115)
          clear m0 m1 hc0 e0 e1 e2 hr hb3 hle hcm
          generalize wr.alloc (Obj.cells #[.int .i64 X.k, .int .i64 X.a, .int .i64 X.v] 115) = W at kx hbx ⊢
          generalize wr.heap.size = Q at kx ⊢
          have m0 := (ha.below hbx hg).c0
          have m1 := (ha.below hbx hg).c1
          have x0 := kx.cell 0
          have x1 := kx.cell 1
          have x2 := kx.cell 2
          simp at x0 x1 x2
          have HRM := (h.mem.below hbx).lt
          by_cases hs : X.k = 1
          · have f0 : (X.k == 1) = true := beq_iff_eq.2 hs
            have hmm : m.mem.length ≤ maxLen := by unfold maxLen; omega
            by_cases hv : X.v = readM m.mem X.a
            · have HF := hide (show X.k = 1 → X.v = readM m.mem X.a from fun _ => hv)
              have HC := hide (fun V (hV : RdC V V.heap.size A' m.mem) => l7Read_any m.mem A' c' X.a V hmm hV)
              obtain ⟨R, hR⟩ : ∃ R, R = readM m.mem X.a := ⟨_, rfl⟩
              rw [← hR] at hv HC
              have f1 : (X.v == R) = true := beq_iff_eq.2 hv
              have f2 : (X.v != R) = false := by simp [hv]
              clear hs hv hR
              go_quiet ((go_at_call 78; exact Calls.quiet_of_same (Calls.mono (HC.out (World.drewN W _) (RdC.drewN HRM _)) (fun _ _ h => ⟨h.1, h.2.symm⟩))))
              go_wp2
              go_loopw [57] (fun q w3 => ∃ j : Nat, j ≤ m.cs.length ∧ q = .int .i64 j ∧ Below w.heap.size w w3 ∧ Bk w3 Q #[.int .i64 X.k, .int .i64 X.a, .int .i64 X.v] 115 ∧ Hid (∀ j', j' < j → j' ≠ i → X.k = 2 → (ln m.cs j' k).k ≠ 0 → (ln m.cs j' k).a ≠ X.a)) (fun q _ => m.cs.length - (intOf q).toNat)
              case atStart => exact ⟨0, Nat.zero_le _, rfl, below_drewN hbx _, kx.drewN _, hide fun _ h => by omega⟩
              case round =>
                clear m0 m1 x0 x1 x2 HRM kx hbx
                obtain ⟨j, hjn, rfl, hb4, kx4, HJ⟩ := hrel
                by_cases hj : j < m.cs.length
                · have m0 := (ha.below hb4 hg).c0
                  obtain ⟨b5, off5, a5, d5, hA, _, hc0, hle5, hcm5, hr⟩ := (h.cs.below hb4).get hj
                  cases hA
                  have hLj := hsh.2 _ (List.getElem_mem hj)
                  rw [hLj] at hc0 hle5
                  obtain ⟨b6, off6, rfl, _, y0, y1, y2⟩ := hr.get (i := k) (by omega)
                  obtain ⟨Y, hY⟩ : ∃ Y, Y = m.cs[j][k]'(by omega) := ⟨_, rfl⟩
                  have hln := ln_get m.cs j k hj (by omega)
                  rw [← hY] at y0 y1 y2 hln
                  have HY := hide hln
                  have x0 := (kx4.alloc (Obj.cells #[.int .i64 Y.k, .int .i64 Y.a, .int .i64 Y.v] 115)).cell 0
                  have x1 := (kx4.alloc (Obj.cells #[.int .i64 Y.k, .int .i64 Y.a, .int .i64 Y.v] 115)).cell 1
                  simp at x0 x1
                  have KX := hide (kx4.alloc (Obj.cells #[.int .i64 Y.k, .int .i64 Y.a, .int .i64 Y.v] 115))
                  have HB := hide (hb4.alloc hb4.size (Obj.cells #[.int .i64 Y.k, .int .i64 Y.a, .int .i64 Y.v] 115))
                  have hnx : (j ≠ i → X.k = 2 → Y.k ≠ 0 → Y.a ≠ X.a) → ∀ j', j' < j + 1 → j' ≠ i → X.k = 2 → (ln m.cs j' k).k ≠ 0 → (ln m.cs j' k).a ≠ X.a := fun hh j' hj' h1 h2 h3 => by
                    by_cases e : j' = j
                    · subst e
                      rw [HY.out] at h3 ⊢
                      exact hh h1 h2 h3
                    · exact HJ.out j' (by omega) h1 h2 h3
                  have HN := hide hnx
                  clear hY hln hnx kx4
                  by_cases hji : j = i
                  · have g0 : ((j : Int) == (i : Int)) = true := beq_iff_eq.2 (by omega)
                    have g1 : ((j : Int) != (i : Int)) = false := by simp [hji]
                    have HJ2 := hide (HN.out fun e => absurd hji e)
                    clear hji
                    go_wp2
                    go_roundw
                    case rel => exact ⟨j + 1, by omega, by go_num, HB.out, KX.out, HJ2⟩
                    case measure => simp [intOf]; omega
                  · have g0 : ((j : Int) == (i : Int)) = false := beq_eq_false_iff_ne.2 (by omega)
                    have g1 : ((j : Int) != (i : Int)) = true := bne_iff_ne.2 (by omega)
                    by_cases hx2 : X.k = 2
                    · have g2 : (X.k == 2) = true := beq_iff_eq.2 hx2
                      by_cases hy0 : Y.k = 0
                      · have g3 : (Y.k == 0) = true := beq_iff_eq.2 hy0
                        have g4 : (Y.k != 0) = false := by simp [hy0]
                        have HJ2 := hide (HN.out fun _ _ e => absurd hy0 e)
                        clear hji hx2 hy0
                        go_wp2
                        go_roundw
                        case rel => exact ⟨j + 1, by omega, by go_num, HB.out, KX.out, HJ2⟩
                        case measure => simp [intOf]; omega
                      · have g3 : (Y.k == 0) = false := beq_eq_false_iff_ne.2 hy0
                        have g4 : (Y.k != 0) = true := bne_iff_ne.2 hy0
                        by_cases hya : Y.a = X.a
                        · have g5 : (Y.a == X.a) = true := beq_iff_eq.2 hya
                          have HT := hide (togB_no (n := m.cs.length) (L := L) (m := m) fun hT => (hT i hi k hk).2 j hj hji (by rw [HX.out]; exact hx2) (by rw [HY.out]; exact hy0) (by rw [HY.out, HX.out]; exact hya))
                          clear hji hx2 hy0 hya
                          go_wp2
                          go_ret
                          exact ⟨ret_bool (by rw [HT.out]), HB.out⟩
                        · have g5 : (Y.a == X.a) = false := beq_eq_false_iff_ne.2 hya
                          have HJ2 := hide (HN.out fun _ _ _ => hya)
                          clear hji hx2 hy0 hya
                          go_wp2
                          go_roundw
                          case rel => exact ⟨j + 1, by omega, by go_num, HB.out, KX.out, HJ2⟩
                          case measure => simp [intOf]; omega
                    · have g2 : (X.k == 2) = false := beq_eq_false_iff_ne.2 hx2
                      have HJ2 := hide (HN.out fun _ e => absurd e hx2)
                      clear hji hx2
                      go_wp2
                      go_roundw
                      case rel => exact ⟨j + 1, by omega, by go_num, HB.out, KX.out, HJ2⟩
                      case measure => simp [intOf]; omega
                · have hT : ∀ q, q < k + 1 → TogAt m.cs.length m i q := fun q hq => by
                    by_cases e : q = k
                    · subst e
                      exact ⟨by rw [HX.out]; exact HF.out, fun j' hj' hne h1 h2 => by rw [HX.out] at h1 ⊢; exact HJ.out j' (by omega) hne h1 h2⟩
                    · exact HS.out q (by omega)
                  have HT := hide hT
                  clear hT
                  go_wp2
                  go_roundw
                  case rel => exact ⟨k + 1, by omega, by go_num, hb4, HT⟩
                  case measure => simp [intOf]; omega
            · have HT := hide (togB_no (n := m.cs.length) (L := L) (m := m) fun hT => hv (by have := (hT i hi k hk).1; rw [HX.out] at this; exact this hs))
              have HC := hide (fun V (hV : RdC V V.heap.size A' m.mem) => l7Read_any m.mem A' c' X.a V hmm hV)
              obtain ⟨R, hR⟩ : ∃ R, R = readM m.mem X.a := ⟨_, rfl⟩
              rw [← hR] at hv HC
              have f1 : (X.v == R) = false := beq_eq_false_iff_ne.2 hv
              have f2 : (X.v != R) = true := bne_iff_ne.2 hv
              clear hs hv hR
              go_quiet ((go_at_call 78; exact Calls.quiet_of_same (Calls.mono (HC.out (World.drewN W _) (RdC.drewN HRM _)) (fun _ _ h => ⟨h.1, h.2.symm⟩))))
              go_wp2
              go_ret
              exact ⟨ret_bool (by rw [HT.out]), below_drewN hbx _⟩
          · have f0 : (X.k == 1) = false := beq_eq_false_iff_ne.2 hs
            have HF := hide (show X.k = 1 → X.v = readM m.mem X.a from fun e => absurd e hs)
            clear hs
            go_quiet (fail)
            go_wp2
            go_loopw [57] (fun q w3 => ∃ j : Nat, j ≤ m.cs.length ∧ q = .int .i64 j ∧ Below w.heap.size w w3 ∧ Bk w3 Q #[.int .i64 X.k, .int .i64 X.a, .int .i64 X.v] 115 ∧ Hid (∀ j', j' < j → j' ≠ i → X.k = 2 → (ln m.cs j' k).k ≠ 0 → (ln m.cs j' k).a ≠ X.a)) (fun q _ => m.cs.length - (intOf q).toNat)
            case atStart => exact ⟨0, Nat.zero_le _, rfl, below_drewN hbx _, kx.drewN _, hide fun _ h => by omega⟩
            case round =>
              clear m0 m1 x0 x1 x2 HRM kx hbx
              obtain ⟨j, hjn, rfl, hb4, kx4, HJ⟩ := hrel
              by_cases hj : j < m.cs.length
              · have m0 := (ha.below hb4 hg).c0
                obtain ⟨b5, off5, a5, d5, hA, _, hc0, hle5, hcm5, hr⟩ := (h.cs.below hb4).get hj
                cases hA
                have hLj := hsh.2 _ (List.getElem_mem hj)
                rw [hLj] at hc0 hle5
                obtain ⟨b6, off6, rfl, _, y0, y1, y2⟩ := hr.get (i := k) (by omega)
                obtain ⟨Y, hY⟩ : ∃ Y, Y = m.cs[j][k]'(by omega) := ⟨_, rfl⟩
                have hln := ln_get m.cs j k hj (by omega)
                rw [← hY] at y0 y1 y2 hln
                have HY := hide hln
                have x0 := (kx4.alloc (Obj.cells #[.int .i64 Y.k, .int .i64 Y.a, .int .i64 Y.v] 115)).cell 0
                have x1 := (kx4.alloc (Obj.cells #[.int .i64 Y.k, .int .i64 Y.a, .int .i64 Y.v] 115)).cell 1
                simp at x0 x1
                have KX := hide (kx4.alloc (Obj.cells #[.int .i64 Y.k, .int .i64 Y.a, .int .i64 Y.v] 115))
                have HB := hide (hb4.alloc hb4.size (Obj.cells #[.int .i64 Y.k, .int .i64 Y.a, .int .i64 Y.v] 115))
                have hnx : (j ≠ i → X.k = 2 → Y.k ≠ 0 → Y.a ≠ X.a) → ∀ j', j' < j + 1 → j' ≠ i → X.k = 2 → (ln m.cs j' k).k ≠ 0 → (ln m.cs j' k).a ≠ X.a := fun hh j' hj' h1 h2 h3 => by
                  by_cases e : j' = j
                  · subst e
                    rw [HY.out] at h3 ⊢
                    exact hh h1 h2 h3
                  · exact HJ.out j' (by omega) h1 h2 h3
                have HN := hide hnx
                clear hY hln hnx kx4
                by_cases hji : j = i
                · have g0 : ((j : Int) == (i : Int)) = true := beq_iff_eq.2 (by omega)
                  have g1 : ((j : Int) != (i : Int)) = false := by simp [hji]
                  have HJ2 := hide (HN.out fun e => absurd hji e)
                  clear hji
                  go_wp2
                  go_roundw
                  case rel => exact ⟨j + 1, by omega, by go_num, HB.out, KX.out, HJ2⟩
                  case measure => simp [intOf]; omega
                · have g0 : ((j : Int) == (i : Int)) = false := beq_eq_false_iff_ne.2 (by omega)
                  have g1 : ((j : Int) != (i : Int)) = true := bne_iff_ne.2 (by omega)
                  by_cases hx2 : X.k = 2
                  · have g2 : (X.k == 2) = true := beq_iff_eq.2 hx2
                    by_cases hy0 : Y.k = 0
                    · have g3 : (Y.k == 0) = true := beq_iff_eq.2 hy0
                      have g4 : (Y.k != 0) = false := by simp [hy0]
                      have HJ2 := hide (HN.out fun _ _ e => absurd hy0 e)
                      clear hji hx2 hy0
                      go_wp2
                      go_roundw
                      case rel => exact ⟨j + 1, by omega, by go_num, HB.out, KX.out, HJ2⟩
                      case measure => simp [intOf]; omega
                    · have g3 : (Y.k == 0) = false := beq_eq_false_iff_ne.2 hy0
                      have g4 : (Y.k != 0) = true := bne_iff_ne.2 hy0
                      by_cases hya : Y.a = X.a
                      · have g5 : (Y.a == X.a) = true := beq_iff_eq.2 hya
                        have HT := hide (togB_no (n := m.cs.length) (L := L) (m := m) fun hT => (hT i hi k hk).2 j hj hji (by rw [HX.out]; exact hx2) (by rw [HY.out]; exact hy0) (by rw [HY.out, HX.out]; exact hya))
                        clear hji hx2 hy0 hya
                        go_wp2
                        go_ret
                        exact ⟨ret_bool (by rw [HT.out]), HB.out⟩
                      · have g5 : (Y.a == X.a) = false := beq_eq_false_iff_ne.2 hya
                        have HJ2 := hide (HN.out fun _ _ _ => hya)
                        clear hji hx2 hy0 hya
                        go_wp2
                        go_roundw
                        case rel => exact ⟨j + 1, by omega, by go_num, HB.out, KX.out, HJ2⟩
                        case measure => simp [intOf]; omega
                  · have g2 : (X.k == 2) = false := beq_eq_false_iff_ne.2 hx2
                    have HJ2 := hide (HN.out fun _ e => absurd e hx2)
                    clear hji hx2
                    go_wp2
                    go_roundw
                    case rel => exact ⟨j + 1, by omega, by go_num, HB.out, KX.out, HJ2⟩
                    case measure => simp [intOf]; omega
              · have hT : ∀ q, q < k + 1 → TogAt m.cs.length m i q := fun q hq => by
                  by_cases e : q = k
                  · subst e
                    exact ⟨by rw [HX.out]; exact HF.out, fun j' hj' hne h1 h2 => by rw [HX.out] at h1 ⊢; exact HJ.out j' (by omega) hne h1 h2⟩
                  · exact HS.out q (by omega)
                have HT := hide hT
                clear hT
                go_wp2
                go_roundw
                case rel => exact ⟨k + 1, by omega, by go_num, hb4, HT⟩
                case measure => simp [intOf]; omega
        · have hT : ∀ i', i' < i + 1 → ∀ q, q < L → TogAt m.cs.length m i' q := fun i' hi' q hq => by
            by_cases e : i' = i
            · subst e
              exact HS.out q (by omega)
            · exact HR.out i' (by omega) q hq
          have HT := hide hT
          clear hT
          go_wp2
          go_roundw
          case rel => exact ⟨i + 1, by omega, by go_num, hb2, HT⟩
          case measure => simp [intOf]; omega
    · have hT : Tog m.cs.length L m := fun i' hi' q hq => HR.out i' (by omega) q hq
      have HT := hide (togB_yes hT)
      clear hT
      go_wp2
      go_ret
      exact ⟨ret_bool (by rw [HT.out]), hb⟩
end Go.Proofs.Ytifijhfeeammkaa
