/- The contract of MachineFault, in the program. -/
import Derived.Test.YtifijhfeeammkaaAgr
import Derived.Test.YtifijhfeeammkaaLinF
import Derived.Test.YtifijhfeeammkaaConc
import Derived.Test.YtifijhfeeammkaaMsiJ
namespace Go.Proofs.Ytifijhfeeammkaa
open Go.RowKit

theorem siz_sum {m : Mac} (h : Siz m) : sumT m.cs ≤ 16 := by
  have h1 := h.2.2.1
  have h2 := h.2.2.2.2
  have hn := h.1.2
  generalize (m.cs.getD 0 []).length = L at *
  have key : ∀ cs : List (List Ev), (∀ l ∈ cs, l.length = L) → sumT cs = cs.length * L := by
    intro cs
    induction cs with
    | nil => intro _; simp [sumT]
    | cons l r ih =>
      intro hh
      rw [sumT, ih (fun x hx => hh x (by simp [hx])), hh l (by simp), List.length_cons, Nat.succ_mul]
      omega
  rw [key _ h1]
  exact Nat.le_trans (Nat.mul_le_mul hn h2) (by omega)

set_option maxRecDepth 100000 in
set_option maxHeartbeats 4000000 in
theorem implMacF_any (m : Mac) (A A' : Option Addr) (c c' : Nat) (w : World) (h1 : m.cs.length ≤ maxLen) (h2 : m.mem.length ≤ maxLen) (h : RdMac w w.heap.size A A' m) :
    Calls Try.prog 29 #[macV A m.cs.length c A' m.mem.length c'] w fun e w' => e = .returned (.int .i64 (macF m)) ∧ Below w.heap.size w w' := by
  have kb := Bk.new w #[.slice A m.cs.length c, .slice A' m.mem.length c'] 27
  have hbw := (Below.refl w.heap.size w).alloc (Nat.le_refl _) (Obj.cells #[.slice A m.cs.length c, .slice A' m.mem.length c'] 27)
  have hRW := (h.below hbw).lt
  go_enter Try.func29, Try.ntmps29
  go_wp2_with fail
  refine (sizesHold_any m A A' c c' _ h1 h2 hRW).mono ?_
  rintro e w1 ⟨rfl, b1⟩
  have K1 := kb.kept b1
  have B1 := hbw.trans (b1.mono hbw.size)
  have R1 := (h.below B1).lt
  clear kb hbw hRW b1
  by_cases hS : Siz m
  · rw [sizB_yes hS]
    have q1 := (K1.cell 1).trans (rfl : _ = some (Value.slice A' m.mem.length c'))
    go_wp2_with fail
    refine (cellsFault_any m.mem A' c' w1 h2 R1.mem).mono ?_
    rintro e w2 ⟨rfl, b2⟩
    have K2 := K1.kept b2
    have B2 := B1.trans (b2.mono B1.size)
    clear q1 K1 R1 b2 B1
    by_cases hF : cellsF m.mem = 0
    · rw [hF]
      obtain ⟨L, hL⟩ : ∃ L, L = (m.cs.getD 0 []).length := ⟨_, rfl⟩
      have hsh := hS.shp
      rw [← hL] at hsh
      have hL4 : 1 ≤ L ∧ L ≤ 4 := by have := hS.2.2.2; rw [← hL] at this; exact this
      obtain ⟨hL1, hL2⟩ := hL4
      have hn := hS.1
      obtain ⟨hn1, hn2⟩ := hn
      have hm32 := hS.2.1
      have HSum := hide (siz_sum hS)
      have HS := hide hS
      have HF := hide hF
      have HL := hide hL
      have x0 := (K2.cell 0).trans (rfl : _ = some (Value.slice A m.cs.length c))
      clear hS hF hL
      go_wp2
      clear x0
      go_loopw [21] (fun i wr => ∃ k : Nat, k ≤ m.cs.length ∧ i = .int .i64 k ∧ Below w.heap.size w wr ∧ Bk wr w.heap.size #[.slice A m.cs.length c, .slice A' m.mem.length c'] 27 ∧ Hid (linesF L m.cs = linesF L (m.cs.drop k))) (fun i _ => m.cs.length - (intOf i).toNat)
      case atStart => exact ⟨0, Nat.zero_le _, rfl, B2, K2, hide rfl⟩
      case round =>
        clear B2 K2
        obtain ⟨i, hik, rfl, hb, kb, HR⟩ := hrel
        by_cases hi : i < m.cs.length
        · obtain ⟨b, off, a, d, rfl, hbb, hcw, hle, hcm, hrw⟩ := h.cs.get hi
          have hc0 := (hb.cell (p := ⟨b, off + i, none⟩) hbb).trans hcw
          have HRW := hide hrw
          have hLi := hsh.2 _ (List.getElem_mem hi)
          rw [hLi] at hc0 hle
          have hd := linesF_drop L m.cs i hi
          have HD := hide hd
          clear hd hrw hcw
          go_wp2
          clear hc0
          go_loopw [27] (fun q w2 => ∃ k : Nat, k ≤ L ∧ q = .int .i64 k ∧ Below w.heap.size w w2 ∧ Bk w2 w.heap.size #[.slice (some ⟨b, off, none⟩) m.cs.length c, .slice A' m.mem.length c'] 27 ∧ Hid (rowF L 0 m.cs[i] = rowF L k (m.cs[i].drop k))) (fun q _ => L - (intOf q).toNat)
          case atStart => exact ⟨0, Nat.zero_le _, rfl, hb, kb, hide rfl⟩
          case round =>
            clear hb kb
            obtain ⟨k, hkL, rfl, hb2, kb2, HK⟩ := hrel
            by_cases hk : k < L
            · obtain ⟨b3, off3, rfl, hb3, e0, e1, e2⟩ := (HRW.out.below hb2).get (i := k) (by omega)
              have hd2 := rowF_drop L m.cs[i] k (by omega)
              obtain ⟨X, hX⟩ : ∃ X, X = m.cs[i][k]'(by omega) := ⟨_, rfl⟩
              rw [← hX] at e0 e1 e2 hd2
              clear hX
              have LC := fun W => lineFault_any X.k X.a X.v k L W ⟨hL1, by omega⟩
              have kx := fun o => kb2.below ((Below.refl _ _).alloc (Nat.le_refl _) o) kb2.lt
              have bx := fun o => hb2.alloc hb2.size o
              have HKX := hide kx
              have HBX := hide bx
              clear kx bx
              by_cases h0 : lineF L k X = 0
              · rw [if_pos h0] at hd2
                rw [show lineF L k ⟨X.k, X.a, X.v⟩ = 0 from h0] at LC
                have HLC := hide LC
                have HD2 := hide hd2
                clear hd2 h0 LC kb2
                go_wp2_with fail
                refine (HLC.out _).mono ?_
                rintro e w3 ⟨rfl, b3⟩
                have K3 := (HKX.out _).kept b3
                have B3 := (HBX.out _).trans (b3.mono (HBX.out _).size)
                go_wp2
                go_roundw
                case rel => exact ⟨k + 1, by omega, by go_num, B3, K3, hide (HK.out.trans HD2.out)⟩
                case measure => simp [intOf]; omega
              · rw [if_neg h0] at hd2
                obtain ⟨F, hF⟩ : ∃ F, F = lineF L k X := ⟨_, rfl⟩
                rw [show lineF L k ⟨X.k, X.a, X.v⟩ = F from hF.symm] at LC
                have HLC := hide LC
                have hrow : rowF L 0 m.cs[i] = F := by rw [HK.out, hd2, hF]
                have hD3 := HD.out
                rw [hrow] at hD3
                rw [← hF] at h0
                rw [if_neg h0] at hD3
                have hall : macF m = F := by
                  have hl : linesF (m.cs.getD 0 []).length m.cs = F := by rw [← HL.out, HR.out, hD3]
                  rw [macF_lines HS.out HF.out (by rw [hl]; exact h0), hl]
                have HA := hide hall
                have f0 : (F != 0) = true := bne_iff_ne.2 h0
                have f1 : (F == 0) = false := beq_eq_false_iff_ne.2 h0
                clear hall hD3 hrow hd2 h0 hF LC kb2
                go_wp2_with fail
                refine (HLC.out _).mono ?_
                rintro e w3 ⟨rfl, b3⟩
                have B3 := (HBX.out _).trans (b3.mono (HBX.out _).size)
                go_wp2
                go_ret
                exact ⟨ret_int (by rw [HA.out]), B3⟩
            · have hrow : rowF L 0 m.cs[i] = 0 := by rw [HK.out, List.drop_eq_nil_of_le (by omega)]; rfl
              have hD3 := HD.out
              rw [if_pos hrow] at hD3
              have HD3 := hide hD3
              clear hD3 hrow
              go_wp2
              go_roundw
              case rel => exact ⟨i + 1, by omega, by go_num, hb2, kb2, hide (HR.out.trans HD3.out)⟩
              case measure => simp [intOf]; omega
        · have hz : linesF L m.cs = 0 := by rw [HR.out, List.drop_eq_nil_of_le (by omega)]; rfl
          have HZ := hide hz
          have x0 := (kb.cell 0).trans (rfl : _ = some (Value.slice A m.cs.length c))
          have x1 := (kb.cell 1).trans (rfl : _ = some (Value.slice A' m.mem.length c'))
          have hR := h.below hb
          have hfl : m.cs.flatten.length ≤ 1000000 := by rw [flat_len]; have := HSum.out; omega
          obtain ⟨fl, hfe⟩ : ∃ fl, fl = m.cs.flatten := ⟨_, rfl⟩
          have hC := (fun W (hW : Below wr.heap.size wr W) => concat_any m.cs A c W (by omega) (by have := HSum.out; omega) ((hR.cs.below (hW.mono hb.size)).more (Nat.le_trans hb.size hW.size)))
          have hG := (fun Z z W (hW : Below wr.heap.size wr W) (hW' : RdE W W.heap.size Z m.cs.flatten) => linesAgree_any m.cs.flatten m.mem Z A' z c' W hfl h2 hW' ((hR.mem.below (hW.mono hb.size)).more (Nat.le_trans hb.size hW.size)))
          rw [← hfe] at hC hG
          have HC := hide hC
          have HG := hide hG
          have HFE := hide hfe
          clear hz hfl hC hG hfe
          go_wp2_with fail
          go_cut [48] (fun s wx => s = .bool (!agrB fl m.mem) ∧ Below wr.heap.size wr wx)
          case first =>
            go_region_held3 (fun w' => w'.cell? ⟨w.heap.size, 0, none⟩ = some (Value.slice A m.cs.length c) ∧ w'.cell? ⟨w.heap.size, 1, none⟩ = some (Value.slice A' m.mem.length c') ∧ Below wr.heap.size wr w')
              (first | assumption | exact ⟨x0, x1, (Below.refl _ _).drew⟩ | (go_split_ands; exact ⟨cell_kept (by assumption) (by assumption), cell_kept (by assumption) (by assumption), Below.trans (by assumption) (Below.mono (by assumption) (Below.size (by assumption)))⟩))
              (first
                | (go_at_call 72; (with_reducible refine (HC.out _ ?_).mono ?_); (go_split_ands; assumption); rintro e wa ⟨Za, za, rfl, ra, ba⟩)
                | (go_at_call 85; (with_reducible refine (HG.out _ _ _ ?_ ?_).mono ?_); (go_split_ands; assumption); exact ra; rintro e wc ⟨rfl, bc⟩))
            all_goals
              go_wp2_with fail
              go_meet
              exact ⟨rfl, by go_split_ands; assumption⟩
          case rest =>
            obtain ⟨rfl, C1⟩ := hcut
            rw [HFE.out]
            have B3 := hb.trans (C1.mono hb.size)
            have hok := (lines_iff hsh).1 HZ.out
            by_cases hT : Tog m.cs.length L m
            · have e1 : agrB m.cs.flatten m.mem = true := agrB_yes ((agr_tog hsh hok).2 hT)
              rw [e1]
              have HA := hide (show macF m = 0 from macF_ok HS.out HF.out (by rw [← HL.out]; exact HZ.out) (by rw [← HL.out]; exact hT))
              clear hT e1 hok x0 x1 C1
              go_wp2
              go_ret
              exact ⟨ret_int (by rw [HA.out]), B3⟩
            · have e1 : agrB m.cs.flatten m.mem = false := agrB_no fun hA => hT ((agr_tog hsh hok).1 hA)
              rw [e1]
              have HA := hide (show macF m = 7 from macF_tog HS.out HF.out (by rw [← HL.out]; exact HZ.out) (by rw [← HL.out]; exact hT))
              clear hT e1 hok x0 x1 C1
              go_wp2
              go_ret
              exact ⟨ret_int (by rw [HA.out]), B3⟩
    · have HA := hide (macF_cells hS hF)
      obtain ⟨F, hFF⟩ : ∃ F, F = cellsF m.mem := ⟨_, rfl⟩
      rw [← hFF] at hF HA ⊢
      have f0 : (F != 0) = true := bne_iff_ne.2 hF
      have f1 : (F == 0) = false := beq_eq_false_iff_ne.2 hF
      clear hF hFF hS
      go_wp2
      go_ret
      exact ⟨ret_int (by rw [HA.out]), B2⟩
  · rw [sizB_no hS]
    have HA := hide (macF_siz hS)
    clear hS
    go_wp2
    go_ret
    exact ⟨ret_int (by rw [HA.out]), B1⟩
end Go.Proofs.Ytifijhfeeammkaa
