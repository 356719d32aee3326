/- The contract of IsWhole in the model. -/
import Derived.Test.YtldepledinolmaaDoorWhlI
import Derived.Test.YtldepledinolmaaDoorDecS
import Derived.Test.YtldepledinolmaaDoorFilS2
namespace Go.Proofs.YtldepledinolmaaDoor
open Go.RowKit

set_option maxRecDepth 100000 in
set_option maxHeartbeats 800000 in
theorem specWhole_any (t : List (List Ev)) (b : Int) (A : Option Addr) (c : Nat) (w : World) (hm : t.length ≤ maxLen) (h : RdT w w.heap.size A t) :
    Calls Tryd.prog 10 #[.slice A t.length c, .int .i64 b] w fun e w' => e = .returned (.bool (fcC t b == 0)) ∧ Below w.heap.size w w' := by
  have AK := hide (l4Asked_any t b A c w hm h)
  by_cases h0 : fcC t b = 0
  · obtain ⟨e0, e1, e2⟩ := fcC_zero h0
    obtain ⟨B, rfl⟩ := Int.eq_ofNat_of_zero_le (show 0 ≤ b by omega)
    rw [h0] at AK
    rw [h0]
    have EN := hide (fun V (hV : RdT V V.heap.size A t) => l4Encode_any t B A c V e0 (by omega) (by omega) hV)
    have hfew := filL_few (b := B) (by omega) e0
    have hb8 := filL_B8 (b := B) (by omega) e0
    have hdc : (dc (filL B t)).1 = 0 := by rw [dc_back e0 (by omega)]
    obtain ⟨F, hF⟩ : ∃ F, F = filL B t := ⟨_, rfl⟩
    rw [← hF] at EN hfew hb8 hdc
    have HD := hide hdc
    clear h0 hF e0 e1 e2 hdc
    go_enter Tryd.func10, Tryd.ntmps10
    go_wp2_with fail
    refine AK.out.mono ?_
    rintro e w0 ⟨rfl, b0⟩
    go_wp2_with fail
    refine (EN.out w0 ((h.below b0).lt)).mono ?_
    rintro e V ⟨D, d, rfl, o1⟩
    have hcap := own_capE o1.1
    have hrV := Rd.of_own (k := .u8) o1.1
    have bV := b0.trans (o1.2.mono b0.size)
    clear o1
    go_wp2
    go_loopw [16] (fun i wr => ∃ k : Nat, k ≤ F.length ∧ i = .int .i64 k ∧ Below V.heap.size V wr) (fun i _ => F.length - (intOf i).toNat)
    case atStart => exact ⟨0, Nat.zero_le _, rfl, Below.refl _ _⟩
    case round =>
      obtain ⟨k, hk, rfl, hb⟩ := hrel
      by_cases hlt : k < F.length
      · have hh : ∀ w : World, (Instr.slice 22 (.slice D F.length d) none (some (.int .i64 k)) none).run Tryd.prog w = .ok (.slice D k d) w := fun w => run_head D F.length k d k w rfl (by omega)
        have hne := cut_take hb8 HD.out hlt
        obtain ⟨C, hC⟩ : ∃ C, C = (dc (F.take k)).1 := ⟨_, rfl⟩
        have DT := hide (specDec_any (F.take k) D d wr (by rw [take_len hk]; omega) (by rw [take_len hk]; omega) (((hrV.below hb).lt).take k) (hb8.take k))
        unfold DtPost at DT
        rw [take_len hk, ← hC] at DT
        rw [← hC] at hne
        have g0 : (C == 0) = false := beq_eq_false_iff_ne.2 hne
        have hf := field_trc C
        clear hne hC
        go_wp2_with fail
        refine DT.out.mono ?_
        rintro e w3 ⟨D3, d3, us3, rfl, o3, b3⟩
        have hb3 := hb.trans (b3.mono hb.size)
        clear DT b3 hh o3
        go_wp2
        go_roundw
        case rel => exact ⟨k + 1, by omega, by go_num, hb3⟩
        case measure => simp [intOf]; omega
      · go_wp2
        go_ret
        exact ⟨rfl, bV.trans (hb.mono bV.size)⟩
  · obtain ⟨C, hC⟩ : ∃ C, C = fcC t b := ⟨_, rfl⟩
    rw [← hC] at AK h0 ⊢
    have g0 : (C != 0) = true := bne_iff_ne.2 h0
    have g1 : (C == 0) = false := beq_eq_false_iff_ne.2 h0
    clear hC h0
    go_enter Tryd.func10, Tryd.ntmps10
    go_wp2_with fail
    refine AK.out.mono ?_
    rintro e w1 ⟨rfl, b1⟩
    go_wp2
    go_ret
    exact ⟨ret_bool g1.symm, b1⟩
end Go.Proofs.YtldepledinolmaaDoor
