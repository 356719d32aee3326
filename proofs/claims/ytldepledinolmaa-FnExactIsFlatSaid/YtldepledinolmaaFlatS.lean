/- The contract of IsFlat in the model. -/
import Derived.Test.YtldepledinolmaaFlatM
import Derived.Test.YtldepledinolmaaGMsf
import Derived.Test.YtldepledinolmaaLogS
import Derived.Test.YtldepledinolmaaGBuf
import Derived.BigQuiet
import Derived.Deep.Cut
namespace Go.Proofs.Ytldepledinolmaa
open Go.RowKit

set_option maxRecDepth 100000 in
set_option maxHeartbeats 1600000 in
theorem l9Flat_any (ss : List Stp) (n : Int) (A : Option Addr) (c : Nat) (w : World) (h0 : logF ss n = 0) (h : RdP w w.heap.size A ss) :
    Calls Try.prog 90 #[.slice A ss.length c] w fun e w' => e = .returned (.bool (flatB ss n)) ∧ Below w.heap.size w w' := by
  obtain ⟨i0, hi, hz0, hz1, hz2⟩ := info_parts info_cell
  obtain ⟨_, hl32, hG, _⟩ := logF_zero h0
  have HK := hide (fun s hs => (evF_zero (logG_all hG s hs).2))
  have H0 := hide h0
  obtain ⟨W, hW⟩ : ∃ W, W = w.alloc (Obj.cells #[] 185) := ⟨_, rfl⟩
  have B0 : Below w.heap.size w W := by rw [hW]; exact (Below.refl _ _).alloc (Nat.le_refl _) _
  have o0 : W.ownsRow w.heap.size 185 2 (.slice (some ⟨w.heap.size, 0, none⟩) 0 0) 0 (cels []) := by
    rw [hW]; exact World.ownsRow_lit (base := w.heap.size) (e := 185) (size := 2) w #[] 0 (Nat.le_refl _) (by unfold maxLen; omega) rfl
  have HW := hide hW
  clear hW hG h0
  go_enter Try.func90, Try.ntmps90
  go_upto_region 2 with fail
  rw [← HW.out]
  go_wp2
  go_loopw [3, 9] (fun v i wr => ∃ (k : Nat) (M : List Cel), k ≤ ss.length ∧ i = .int .i64 k ∧ wr.ownsRow w.heap.size 185 2 v M.length (cels M) ∧ Below w.heap.size w wr ∧ Hid (M = memC (ss.take k).reverse) ∧ Hid (flatR (ss.take k).reverse)) (fun _ i _ => ss.length - (intOf i).toNat)
  case atStart => exact ⟨0, [], Nat.zero_le _, rfl, o0, B0, hide rfl, hide trivial⟩
  case round =>
    clear o0 B0
    obtain ⟨k, M, hk, rfl, ho, hb, HM, HF⟩ := hrel
    obtain ⟨Av, cv, hv⟩ := own_shape ho
    subst hv
    by_cases hlt : k < ss.length
    · obtain ⟨b, off, rfl, hbb, hc0, hc1, hc2, hc3⟩ := (h.below hb).get hlt
      have hkk := (HK.out _ (List.getElem_mem hlt)).1
      have HST := hide (fun h1 => memC_store hlt h1)
      have HLD := hide (fun h1 => memC_load hlt h1)
      have HNO := hide (fun h1 => flatB_no (n := n) hlt h1)
      have HYE := hide (fun h1 => flat_step hlt HF.out h1)
      have HRM := hide (fun a => read_memC a (ss.take k).reverse)
      have hml : M.length ≤ 32 := by have := memC_len (ss.take k).reverse; rw [HM.out]; rw [List.length_reverse, List.length_take] at this; omega
      unfold fitR at HNO HYE
      rw [← HM.out] at HRM HLD HST
      obtain ⟨s, hs⟩ : ∃ s, s = ss[k] := ⟨_, rfl⟩
      rw [← hs] at hc1 hc2 hc3 hkk HST HLD HNO HYE
      obtain ⟨R, hR⟩ : ∃ R, R = (ss.take k).reverse := ⟨_, rfl⟩
      rw [← hR] at HNO HYE HRM HM
      obtain ⟨W1, hW1⟩ : ∃ W1, W1 = wr.alloc (Obj.cells #[.int .i64 s.e.k, .int .i64 s.e.a, .int .i64 s.e.v] 98) := ⟨_, rfl⟩
      have kp : Bk W1 wr.heap.size #[.int .i64 s.e.k, .int .i64 s.e.a, .int .i64 s.e.v] 98 := by rw [hW1]; exact Bk.new wr _ _
      have ho1 : W1.ownsRow w.heap.size 185 2 (.slice Av M.length cv) M.length (cels M) := by rw [hW1]; exact ho.alloc _
      have hb1 : Below w.heap.size w W1 := by rw [hW1]; exact hb.alloc hb.size _
      have HW1 := hide hW1
      clear hs hR hW1 ho hb hc0
      go_upto_region 6 with fail
      rw [← HW1.out]
      have q0 := (kp.cell 0).trans (rfl : _ = some (Value.int .i64 s.e.k))
      have q1 := (kp.cell 1).trans (rfl : _ = some (Value.int .i64 s.e.a))
      have q2 := (kp.cell 2).trans (rfl : _ = some (Value.int .i64 s.e.v))
      rcases hkk with h0 | h1
      · have hne : ¬ s.e.k = 1 := by omega
        have HC := hide (fun V (hV : RdC V V.heap.size Av M) => l7Read_any M Av cv s.e.a V (by unfold maxLen; omega) hV)
        have rC := RdC.of_own ho1
        rw [HRM.out] at HC
        rw [h0] at q0 kp HW1
        by_cases hf : s.e.v = valR s.e.a R
        · have HY := hide (HYE.out (.inr hf))
          have HL := hide (HLD.out hne)
          have g1 : (s.e.v != valR s.e.a R) = false := by rw [← hf]; simp
          have HT := hide (And.intro ho1 hb1)
          clear hf h0 hne HYE HNO HLD HST HRM ho1 hb1 kp
          go_quiet ((go_at_call 126; exact Calls.quiet_of_same (Calls.mono (HC.out (World.drewN W1 _) (RdC.drewN rC _)) (fun _ _ h => ⟨h.1, h.2.symm⟩))))
          go_wp2
          go_roundw
          case rel => exact ⟨k + 1, M, by omega, by go_num, own_below HT.out.1 (below_drewN (Below.refl _ _) _) (Nat.le_refl _), below_drewN HT.out.2 _, hide HL.out.symm, HY⟩
          case measure => simp [intOf]; omega
        · have HE := hide (HNO.out (by rintro (h | h); exact hne h; exact hf h))
          have g1 : (s.e.v != valR s.e.a R) = true := bne_iff_ne.2 hf
          clear hf h0 hne HYE HNO HLD HST HRM
          go_quiet ((go_at_call 126; exact Calls.quiet_of_same (Calls.mono (HC.out (World.drewN W1 _) (RdC.drewN rC _)) (fun _ _ h => ⟨h.1, h.2.symm⟩))))
          go_wp2
          go_ret
          exact ⟨ret_bool HE.out.symm, below_drewN hb1 _⟩
      · rw [h1] at q0 kp HW1
        have HY := hide (HYE.out (.inl h1))
        have HL := hide (HST.out h1)
        clear h1 HYE HNO HLD HST HRM
        go_quiet (fail)
        generalize hV : W1.drewN nq = V at *
        have kV : Bk V wr.heap.size #[.int .i64 1, .int .i64 s.e.a, .int .i64 s.e.v] 98 := by rw [← hV]; exact kp.drewN _
        have hbV : Below w.heap.size w V := by rw [← hV]; exact below_drewN hb1 _
        have hoV : V.ownsRow w.heap.size 185 2 (.slice Av M.length cv) M.length (cels M) := by rw [← hV]; exact own_below ho1 (below_drewN (Below.refl _ _) _) (Nat.le_refl _)
        clear hV kp hb1 ho1 q0 q1 q2 HW1
        have q0 := (kV.cell 0).trans (rfl : _ = some (Value.int .i64 1))
        have q1 := (kV.cell 1).trans (rfl : _ = some (Value.int .i64 s.e.a))
        have q2 := (kV.cell 2).trans (rfl : _ = some (Value.int .i64 s.e.v))
        have rC := (RdC.of_own hoV).below ((Below.refl V.heap.size V).alloc (Nat.le_refl _) (Obj.cells #[.int .i64 s.e.a, .int .i64 s.e.v] 185))
        have oL := World.ownsRow_lit (base := w.heap.size) (e := 185) (size := 2) V #[.int .i64 s.e.a, .int .i64 s.e.v] 1 hbV.size (by unfold maxLen; omega) rfl
        have a63 : 1 + M.length ≤ maxLen := by unfold maxLen; omega
        have aby : (1 + M.length) * 16 ≤ 140737488355328 := by omega
        have bA := hbV.alloc hbV.size (Obj.cells #[.int .i64 s.e.a, .int .i64 s.e.v] 185)
        have abs := bA.size
        have HB := hide bA
        clear kV hbV hoV bA
        go_wp2_with (at_builtin; refine wpList_append_rc _ rfl _ _ 146 rfl w.heap.size 185 i0 (.agg #[.int .i64 0, .int .i64 0]) 16 Try.underlying146 hi hz0 hz1 hz2 rfl _ _ _ rfl oL Av M cv _ rfl rC a63 aby abs ?_; intro v5 w5 o5 g5 hat5)
        have hb5 := HB.out.trans (grown_below oL g5 abs (Nat.le_refl _))
        have o6 : w5.ownsRow w.heap.size 185 2 v5 ((⟨s.e.a, s.e.v⟩ : Cel) :: M).length (cels ((⟨s.e.a, s.e.v⟩ : Cel) :: M)) := by rw [List.length_cons, Nat.add_comm]; exact o5
        clear o5 g5 hat5 oL
        go_roundw
        case rel => exact ⟨k + 1, _, by omega, by go_num, o6, hb5, hide HL.out.symm, HY⟩
        case measure => simp [intOf]; omega
    · obtain rfl : k = ss.length := by omega
      have HE := hide (flatB_yes H0.out HF.out)
      go_wp2
      go_ret
      exact ⟨ret_bool HE.out.symm, hb⟩

set_option maxRecDepth 100000 in
set_option maxHeartbeats 800000 in
theorem specFlat_any (ss : List Stp) (n : Int) (A : Option Addr) (c : Nat) (w : World) (hm : ss.length ≤ maxLen) (h : RdP w w.heap.size A ss) :
    Calls Try.prog 39 #[.slice A ss.length c, .int .i64 n] w fun e w' => e = .returned (.bool (flatB ss n)) ∧ Below w.heap.size w w' := by
  have LF := hide (specLogF_any ss n A c w hm h)
  by_cases h0 : logF ss n = 0
  · have FL := hide (fun V (hV : RdP V V.heap.size A ss) => l9Flat_any ss n A c V h0 hV)
    rw [h0] at LF
    clear h0
    go_enter Try.func39, Try.ntmps39
    go_wp2_with fail
    refine LF.out.mono ?_
    rintro e w1 ⟨rfl, b1⟩
    go_wp2_with fail
    refine (FL.out w1 ((h.below b1).lt)).mono ?_
    rintro e w2 ⟨rfl, b2⟩
    go_wp2
    go_ret
    exact ⟨rfl, b1.trans (b2.mono b1.size)⟩
  · have HE := hide (flatB_log h0)
    obtain ⟨F, hF⟩ : ∃ F, F = logF ss n := ⟨_, rfl⟩
    rw [← hF] at LF h0
    have g1 : (F == 0) = false := beq_eq_false_iff_ne.2 h0
    clear hF h0
    go_enter Try.func39, Try.ntmps39
    go_wp2_with fail
    refine LF.out.mono ?_
    rintro e w1 ⟨rfl, b1⟩
    go_wp2
    go_ret
    exact ⟨ret_bool HE.out.symm, b1⟩
end Go.Proofs.Ytldepledinolmaa
