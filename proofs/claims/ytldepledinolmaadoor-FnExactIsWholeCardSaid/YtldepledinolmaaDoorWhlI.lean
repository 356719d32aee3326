/- The contract of IsWhole in the program. -/
import Derived.Test.YtldepledinolmaaDoorAudM
import Derived.Test.YtldepledinolmaaDoorDecI
import Derived.Test.YtldepledinolmaaDoorEncI
import Derived.Deep.Cut
namespace Go.Proofs.YtldepledinolmaaDoor
open Go.RowKit

theorem field_trc (a : Int) (D : Option Addr) (n d : Nat) (W : World) : (Instr.field 32 (.agg #[.int .i64 a, .slice D n d]) 0).run Tryd.prog W = .ok (.int .i64 a) W := by kernel_rfl
theorem take_len {l : List Int} {k : Nat} (h : k ≤ l.length) : (l.take k).length = k := by rw [List.length_take]; omega
theorem filL_few {b : Nat} (hb : 1 ≤ b) {t : List (List Ev)} (h : trF t = 0) : (filL b t).length ≤ 841 := by
  have := hdF_len hb h
  unfold filL
  rw [List.length_append, fourL_length]
  omega
theorem filL_B8 {b : Nat} (hb : 1 ≤ b) {t : List (List Ev)} (h : trF t = 0) : B8 (filL b t) := by
  have := hdF_B8 hb h
  unfold filL
  exact this.append (fourL_B8 (crcV_bd this))
theorem fcB_ok {t : List (List Ev)} {b : Int} (h : fcC t b = 0) : fcB t b = filL b.toNat t := if_pos h

set_option maxRecDepth 100000 in
set_option maxHeartbeats 400000 in
theorem canBe_any (file : List Int) (A : Option Addr) (c : Nat) (aN aS aE : Addr) (w : World) (hm : file.length ≤ 1048576) (hc : file.length ≤ c) (hR : Rd .u8 w w.heap.size A file) (b8 : B8 file) (hT : Tab w) (hS : Sent aN aS aE w) :
    Calls Tryd.prog 24 #[.slice A file.length c] w fun e w' => e = .returned (.bool ((dc file).1 == 0)) ∧ Below w.heap.size w w' := by
  have DT := hide (implDec_any file A c aN aS aE w hm hc hR b8 hT hS)
  unfold DtPost at DT
  obtain ⟨C, hC⟩ : ∃ C, C = (dc file).1 := ⟨_, rfl⟩
  rw [← hC] at DT ⊢
  have hf := field_trc C
  clear hC
  go_enter Tryd.func24, Tryd.ntmps24
  go_wp2_with fail
  refine DT.out.mono ?_
  rintro e w1 ⟨D, d, us, rfl, o1, b1⟩
  go_wp2
  go_ret
  exact ⟨rfl, b1⟩

set_option maxRecDepth 100000 in
set_option maxHeartbeats 800000 in
theorem implWhole_any (t : List (List Ev)) (b : Int) (A : Option Addr) (c : Nat) (aN aS aE : Addr) (w : World) (hm : t.length ≤ maxLen) (h : RdT w w.heap.size A t) (hT : Tab w) (hS : Sent aN aS aE w) :
    Calls Tryd.prog 8 #[.slice A t.length c, .int .i64 b] w fun e w' => e = .returned (.bool (fcC t b == 0)) ∧ Below w.heap.size w w' := by
  have EN := hide (implEnc_any t b A c w hm h hT)
  by_cases h0 : fcC t b = 0
  · obtain ⟨e0, e1, e2⟩ := fcC_zero h0
    rw [fcB_ok h0, h0] at EN
    rw [h0]
    have hb1 : 1 ≤ b.toNat := by omega
    have hfew := filL_few hb1 e0
    have hb8 := filL_B8 hb1 e0
    have hdc : (dc (filL b.toNat t)).1 = 0 := by rw [dc_back e0 hb1]
    obtain ⟨F, hF⟩ : ∃ F, F = filL b.toNat t := ⟨_, rfl⟩
    rw [← hF] at EN hfew hb8 hdc
    have HD := hide hdc
    have HT := hide hT
    have HS := hide hS
    clear h0 hF e0 e1 e2 hdc hT hS
    go_enter Tryd.func8, Tryd.ntmps8
    go_wp2_with fail
    refine EN.out.mono ?_
    rintro e w1 ⟨D, d, rfl, o1, b1⟩
    have hcap := own_capE o1
    have hr := Rd.of_own (k := .u8) o1
    have bA := (Below.refl w1.heap.size w1).alloc (Nat.le_refl _) (Obj.cells #[.int .i64 0, .slice D F.length d] 29)
    have kp := Bk.new w1 #[.int .i64 0, .slice D F.length d] 29
    have hrV := (hr.below bA).lt
    have bV := b1.trans (bA.mono b1.size)
    have zb := b1.size
    go_upto_region 2 with fail
    generalize w1.alloc (Obj.cells #[.int .i64 0, .slice D F.length d] 29) = V at *
    obtain ⟨G, hG⟩ : ∃ G, G = w1.heap.size := ⟨_, rfl⟩
    rw [← hG] at kp ⊢
    have q0 := (kp.cell 0).trans (rfl : _ = some (Value.int .i64 0))
    have q1 := (kp.cell 1).trans (rfl : _ = some (Value.slice D F.length d))
    clear hG o1 hr bA b1
    go_wp2
    go_loopw [16] (fun i wr => ∃ k : Nat, k ≤ F.length ∧ i = .int .i64 k ∧ Below V.heap.size V wr) (fun i _ => F.length - (intOf i).toNat)
    case atStart => exact ⟨0, Nat.zero_le _, rfl, Below.refl _ _⟩
    case round =>
      obtain ⟨k, hk, rfl, hb⟩ := hrel
      have x1 := cell_kept hb q1
      by_cases hlt : k < F.length
      · have hh : ∀ w : World, (Instr.slice 22 (.slice D F.length d) none (some (.int .i64 k)) none).run Tryd.prog w = .ok (.slice D k d) w := fun w => run_head D F.length k d k w rfl (by omega)
        have hne := cut_take hb8 HD.out hlt
        have g0 : ((dc (F.take k)).1 == 0) = false := beq_eq_false_iff_ne.2 hne
        have bw := bV.trans (hb.mono (by have := bV.size; omega))
        have CB := hide (canBe_any (F.take k) D d aN aS aE wr (by rw [take_len hk]; omega) (by rw [take_len hk]; omega) (((hrV.below hb).lt).take k) (hb8.take k) (HT.out.below bw) (HS.out.below bw))
        rw [take_len hk, g0] at CB
        clear hne g0 bw
        go_wp2_with fail
        refine CB.out.mono ?_
        rintro e w3 ⟨rfl, b3⟩
        have hb3 := hb.trans (b3.mono hb.size)
        clear CB b3 hh x1
        go_wp2
        go_roundw
        case rel => exact ⟨k + 1, by omega, by go_num, hb3⟩
        case measure => simp [intOf]; omega
      · go_wp2
        go_ret
        exact ⟨rfl, bV.trans (hb.mono bV.size)⟩
  · obtain ⟨C, hC⟩ : ∃ C, C = fcC t b := ⟨_, rfl⟩
    rw [← hC] at EN h0 ⊢
    have g0 : (C != 0) = true := bne_iff_ne.2 h0
    have g1 : (C == 0) = false := beq_eq_false_iff_ne.2 h0
    generalize fcB t b = F at *
    clear hC h0
    go_enter Tryd.func8, Tryd.ntmps8
    go_wp2_with fail
    refine EN.out.mono ?_
    rintro e w1 ⟨D, d, rfl, o1, b1⟩
    have bA := b1.alloc b1.size (Obj.cells #[.int .i64 C, .slice D F.length d] 29)
    have kp := Bk.new w1 #[.int .i64 C, .slice D F.length d] 29
    have q0 := (kp.cell 0).trans (rfl : _ = some (Value.int .i64 C))
    go_wp2
    go_ret
    exact ⟨ret_bool g1.symm, bA⟩
end Go.Proofs.YtldepledinolmaaDoor
