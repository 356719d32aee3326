/- The contract of MachineFault, in the model. -/
import Derived.Test.YtifijhfeeammkaaMsiI
namespace Go.Proofs.Ytifijhfeeammkaa
open Go.RowKit

theorem rowF_drop (L : Nat) (l : List Ev) (k : Nat) (h : k < l.length) : rowF L k (l.drop k) = if lineF L k l[k] = 0 then rowF L (k + 1) (l.drop (k + 1)) else lineF L k l[k] := by rw [List.drop_eq_getElem_cons h, rowF]
theorem linesF_drop (L : Nat) (cs : List (List Ev)) (i : Nat) (h : i < cs.length) : linesF L (cs.drop i) = if rowF L 0 cs[i] = 0 then linesF L (cs.drop (i + 1)) else rowF L 0 cs[i] := by rw [List.drop_eq_getElem_cons h, linesF]

set_option maxRecDepth 100000 in
set_option maxHeartbeats 800000 in
theorem specMacF_any (m : Mac) (A A' : Option Addr) (c c' : Nat) (w : World) (h1 : m.cs.length ≤ maxLen) (h2 : m.mem.length ≤ maxLen) (h : RdMac w w.heap.size A A' m) :
    Calls Try.prog 30 #[macV A m.cs.length c A' m.mem.length c'] w fun e w' => e = .returned (.int .i64 (macF m)) ∧ Below w.heap.size w w' := by
  have kb := Bk.new w #[.slice A m.cs.length c, .slice A' m.mem.length c'] 27
  have hbw := (Below.refl w.heap.size w).alloc (Nat.le_refl _) (Obj.cells #[.slice A m.cs.length c, .slice A' m.mem.length c'] 27)
  have hq : w.heap.size < (w.alloc (Obj.cells #[.slice A m.cs.length c, .slice A' m.mem.length c'] 27)).heap.size := by simp
  have AT : ∀ V, Bk V w.heap.size #[.slice A m.cs.length c, .slice A' m.mem.length c'] 27 → MacAt V w.heap.size A c A' c' m := fun V hV => ⟨by have := hV.cell 0; simp at this; exact this, by have := hV.cell 1; simp at this; exact this⟩
  have HAT := hide AT
  clear AT
  go_enter Try.func30, Try.ntmps30
  generalize hQ : w.heap.size = Q at *
  go_wp2_with fail
  generalize w.alloc (Obj.cells #[.slice A m.cs.length c, .slice A' m.mem.length c'] 27) = W at *
  have hRW := (h.below hbw).lt
  refine (l7Sizes_any m A A' c c' Q W h1 h2 (HAT.out W kb) hRW).mono ?_
  rintro e w1 ⟨rfl, rfl⟩
  by_cases hS : Siz m
  · rw [sizB_yes hS]
    have q1 := (HAT.out W kb).c1
    go_wp2_with fail
    refine (l7Cells_any m.mem A' c' W h2 hRW.mem).mono ?_
    rintro e w1 ⟨rfl, hb1⟩
    have hbx := hbw.trans (hb1.mono (by have := hbw.size; omega))
    have kx := kb.kept hb1
    have hq1 : Q < w1.heap.size := kx.lt
    clear q1 kb hbw hRW hq
    by_cases hF : cellsF m.mem = 0
    · rw [hF]
      obtain ⟨L, hL⟩ : ∃ L, L = (m.cs.getD 0 []).length := ⟨_, rfl⟩
      have hsh := hS.shp
      rw [← hL] at hsh
      have hL4 : 1 ≤ L ∧ L ≤ 4 := by have := hS.2.2.2; rw [← hL] at this; exact this
      have hn := hS.1
      have hm32 := hS.2.1
      have HS := hide hS
      have HF := hide hF
      have HL := hide hL
      have x0 := (HAT.out _ kx).c0
      clear hS hF hL
      obtain ⟨hL1, hL2⟩ := hL4
      obtain ⟨hn1, hn2⟩ := hn
      go_wp2
      clear x0
      go_loopw [18] (fun i wr => ∃ k : Nat, k ≤ m.cs.length ∧ i = .int .i64 k ∧ Below Q w wr ∧ Bk wr Q #[.slice A m.cs.length c, .slice A' m.mem.length c'] 27 ∧ Hid (linesF L m.cs = linesF L (m.cs.drop k))) (fun i _ => m.cs.length - (intOf i).toNat)
      case atStart => exact ⟨0, Nat.zero_le _, rfl, hbx, kx, hide rfl⟩
      case round =>
        clear hbx kx hb1
        obtain ⟨i, hik, rfl, hb, kb, HR⟩ := hrel
        by_cases hi : i < m.cs.length
        · have x0 := (HAT.out _ kb).c0
          obtain ⟨b, off, a, d, rfl, _, hc0, hle, hcm, _⟩ := (h.cs.below hb).get hi
          have hLi := hsh.2 _ (List.getElem_mem hi)
          rw [hLi] at hc0 hle
          have hd := linesF_drop L m.cs i hi
          have HD := hide hd
          clear hd
          go_wp2
          clear x0 hc0 hle hcm
          go_loopw [27] (fun q w2 => ∃ k : Nat, k ≤ L ∧ q = .int .i64 k ∧ Below Q w w2 ∧ Bk w2 Q #[.slice (some ⟨b, off, none⟩) m.cs.length c, .slice A' m.mem.length c'] 27 ∧ Hid (rowF L 0 m.cs[i] = rowF L k (m.cs[i].drop k))) (fun q _ => L - (intOf q).toNat)
          case atStart => exact ⟨0, Nat.zero_le _, rfl, hb, kb, hide rfl⟩
          case round =>
            clear hb kb
            obtain ⟨k, hkL, rfl, hb2, kb2, HK⟩ := hrel
            by_cases hk : k < L
            · have x0 := (HAT.out _ kb2).c0
              obtain ⟨b', off', a', d', hA, _, hc0, hle, hcm, hr⟩ := (h.cs.below hb2).get hi
              cases hA
              rw [hLi] at hc0 hle
              obtain ⟨b3, off3, rfl, hb3, e0, e1, e2⟩ := hr.get (i := k) (by omega)
              have hd2 := rowF_drop L m.cs[i] k (by omega)
              obtain ⟨X, hX⟩ : ∃ X, X = m.cs[i][k]'(by omega) := ⟨_, rfl⟩
              rw [← hX] at e0 e1 e2 hd2
              clear hX
              have LC := l7Line_any X.k X.a X.v b3 (off3 + k * 3) k L
              by_cases h0 : lineF L k X = 0
              · rw [if_pos h0] at hd2
                rw [show lineF L k ⟨X.k, X.a, X.v⟩ = 0 from h0] at LC
                have HLC := hide LC
                have HD2 := hide hd2
                clear hd2 h0 LC
                go_wp2
                go_quiet ((go_at_call 88; exact Calls.quiet_of_same (Calls.mono (HLC.out (World.drewN _ _) (by omega) e0 e1 e2) (fun _ _ h => ⟨h.1, h.2.symm⟩))))
                go_wp2
                go_roundw
                case rel => exact ⟨k + 1, by omega, by go_num, below_drewN hb2 _, kb2.drewN _, hide (HK.out.trans HD2.out)⟩
                case measure => simp [intOf]; omega
              · rw [if_neg h0] at hd2
                obtain ⟨F, hF⟩ : ∃ F, F = lineF L k X := ⟨_, rfl⟩
                rw [show lineF L k ⟨X.k, X.a, X.v⟩ = F from hF.symm] at LC
                have HLC := hide LC
                have hrow : rowF L 0 m.cs[i] = F := by rw [HK.out, hd2, hF]
                have hD3 := HD.out
                rw [hrow] at hD3
                rw [← hF] at h0
                rw [if_neg h0] at hD3
                have hall : macF m = F := by
                  have hl : linesF (m.cs.getD 0 []).length m.cs = F := by rw [← HL.out, HR.out, hD3]
                  rw [macF_lines HS.out HF.out (by rw [hl]; exact h0), hl]
                have HA := hide hall
                have f0 : (F != 0) = true := bne_iff_ne.2 h0
                have f1 : (F == 0) = false := beq_eq_false_iff_ne.2 h0
                clear hd2 hF hrow hD3 hall h0 LC
                go_wp2
                go_quiet ((go_at_call 88; exact Calls.quiet_of_same (Calls.mono (HLC.out (World.drewN _ _) (by omega) e0 e1 e2) (fun _ _ h => ⟨h.1, h.2.symm⟩))))
                go_wp2
                go_ret
                exact ⟨ret_int (by rw [HA.out]), below_drewN hb2 _⟩
            · have hrow : rowF L 0 m.cs[i] = 0 := by rw [HK.out, List.drop_eq_nil_of_le (by omega)]; rfl
              have hD3 := HD.out
              rw [if_pos hrow] at hD3
              have HD3 := hide hD3
              clear hrow hD3
              go_wp2
              go_roundw
              case rel => exact ⟨i + 1, by omega, by go_num, hb2, kb2, hide (HR.out.trans HD3.out)⟩
              case measure => simp [intOf]; omega
        · have hlin : linesF (m.cs.getD 0 []).length m.cs = 0 := by rw [← HL.out, HR.out, List.drop_eq_nil_of_le (by omega)]; rfl
          have HLN := hide hlin
          clear hlin
          have hTT := l7Together_any m L A A' c c' Q _ hsh hn2 hL2 hm32 kb.lt (HAT.out _ kb) ((h.below hb).lt)
          by_cases hT : Tog m.cs.length L m
          · rw [togB_yes hT] at hTT
            have hall : macF m = 0 := macF_ok HS.out HF.out HLN.out (by rw [← HL.out]; exact hT)
            have HA := hide hall
            have HC := hide hTT
            clear hall hT hTT
            go_wp2_with fail
            refine HC.out.mono ?_
            rintro e w2 ⟨rfl, hb2⟩
            go_wp2
            go_ret
            exact ⟨ret_int (by rw [HA.out]), hb.trans (hb2.mono (by have := hb.size; omega))⟩
          · rw [togB_no hT] at hTT
            have hall : macF m = 7 := macF_tog HS.out HF.out HLN.out (by rw [← HL.out]; exact hT)
            have HA := hide hall
            have HC := hide hTT
            clear hall hT hTT
            go_wp2_with fail
            refine HC.out.mono ?_
            rintro e w2 ⟨rfl, hb2⟩
            go_wp2
            go_ret
            exact ⟨ret_int (by rw [HA.out]), hb.trans (hb2.mono (by have := hb.size; omega))⟩
    · have hall := macF_cells hS hF
      obtain ⟨F, hF2⟩ : ∃ F, F = cellsF m.mem := ⟨_, rfl⟩
      rw [← hF2] at hF hall ⊢
      have HA := hide hall
      have f0 : (F != 0) = true := bne_iff_ne.2 hF
      have f1 : (F == 0) = false := beq_eq_false_iff_ne.2 hF
      clear hF hall hF2 hS
      go_wp2
      go_ret
      exact ⟨ret_int (by rw [HA.out]), hbx⟩
  · rw [sizB_no hS]
    have HA := hide (macF_siz hS)
    clear hS
    go_wp2
    go_ret
    exact ⟨ret_int (by rw [HA.out]), hbw⟩
end Go.Proofs.Ytifijhfeeammkaa
