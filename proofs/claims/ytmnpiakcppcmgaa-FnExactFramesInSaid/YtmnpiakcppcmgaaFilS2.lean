/- Contracts of the model's EncodeTrace and FramesIn. -/
import Derived.Test.YtmnpiakcppcmgaaFilS
import Derived.Test.YtmnpiakcppcmgaaTrF
namespace Go.Proofs.Ytmnpiakcppcmgaa
open Go.RowKit

theorem fcC_bad {t : List (List Ev)} {b : Int} (h : ¬ trF t = 0) : fcC t b = trF t := if_neg h
theorem fcC_in {t : List (List Ev)} {b : Int} (h : trF t = 0) (hb : 1 ≤ b ∧ b ≤ 8) : fcC t b = 0 := by unfold fcC; rw [if_pos h, if_pos hb]
theorem fcC_out {t : List (List Ev)} {b : Int} (h : trF t = 0) (hb : ¬ (1 ≤ b ∧ b ≤ 8)) : fcC t b = 3 := by unfold fcC; rw [if_pos h, if_neg hb]

set_option maxHeartbeats 400000 in
theorem l4Asked_any (t : List (List Ev)) (b : Int) (A : Option Addr) (c : Nat) (w : World) (hm : t.length ≤ maxLen) (h : RdT w w.heap.size A t) :
    Calls Try.prog 11 #[.slice A t.length c, .int .i64 b] w fun e w' => e = .returned (.int .i64 (fcC t b)) ∧ Below w.heap.size w w' := by
  have TF := hide (specTrF_any t A c w hm h)
  by_cases h0 : trF t = 0
  · rw [h0] at TF
    by_cases hb : 1 ≤ b ∧ b ≤ 8
    · rw [fcC_in h0 hb]
      have LI := hide (fun W => l1In_yes b 1 8 W hb)
      clear h0 hb
      go_enter Try.func11, Try.ntmps11
      go_wp2_with fail
      refine TF.out.mono ?_
      rintro e w1 ⟨rfl, b1⟩
      go_wp2_with fail
      refine (LI.out _).mono ?_
      rintro e w2 ⟨rfl, rfl⟩
      go_wp2
      go_ret
      exact ⟨rfl, b1⟩
    · rw [fcC_out h0 hb]
      have LI := hide (fun W => l1In_no b 1 8 W (by omega))
      clear h0 hb
      go_enter Try.func11, Try.ntmps11
      go_wp2_with fail
      refine TF.out.mono ?_
      rintro e w1 ⟨rfl, b1⟩
      go_wp2_with fail
      refine (LI.out _).mono ?_
      rintro e w2 ⟨rfl, rfl⟩
      go_wp2
      go_ret
      exact ⟨rfl, b1⟩
  · rw [fcC_bad h0]
    obtain ⟨F, hF⟩ : ∃ F, F = trF t := ⟨_, rfl⟩
    rw [← hF] at TF h0 ⊢
    have g0 : (F != 0) = true := bne_iff_ne.2 h0
    have g1 : (F == 0) = false := beq_eq_false_iff_ne.2 h0
    clear hF h0
    go_enter Try.func11, Try.ntmps11
    go_wp2_with fail
    refine TF.out.mono ?_
    rintro e w1 ⟨rfl, b1⟩
    go_wp2
    go_ret
    exact ⟨rfl, b1⟩

set_option maxRecDepth 100000 in
set_option maxHeartbeats 800000 in
theorem specFin_any (t : List (List Ev)) (b : Int) (A : Option Addr) (c : Nat) (w : World) (hm : t.length ≤ maxLen) (h : RdT w w.heap.size A t) :
    Calls Try.prog 5 #[.slice A t.length c, .int .i64 b] w fun e w' => e = .returned (.agg #[.int .i64 (fcC t b), .int .i64 (fcN t b)]) ∧ Below w.heap.size w w' := by
  obtain ⟨W, hW⟩ : ∃ W, W = w.alloc (Obj.cells #[Value.int .i64 0, .int .i64 0] 25) := ⟨_, rfl⟩
  have HW := hide hW
  have hR : RdT W W.heap.size A t := by subst hW; exact (h.alloc (Nat.le_refl _) _).lt
  clear hW h
  have AS := hide (l4Asked_any t b A c W hm hR)
  by_cases h0 : fcC t b = 0
  · obtain ⟨e0, e1, e2⟩ := fcC_zero h0
    obtain ⟨B, rfl⟩ := Int.eq_ofNat_of_zero_le (show 0 ≤ b by omega)
    have LE := hide (fun W hW => l4Frames_any t B A c W e0 (by omega) (by omega) hW)
    have HB : fcN t (B : Int) = (filN B t : Nat) := by unfold fcN; rw [if_pos h0]; rfl
    obtain ⟨F, hF⟩ : ∃ F, F = filN B t := ⟨_, rfl⟩
    rw [h0] at AS
    rw [h0, HB]
    rw [← hF] at LE ⊢
    clear h0 e0 e1 e2 HB hF
    go_enter Try.func5, Try.ntmps5
    go_wp2_with fail
    rw [← HW.out]
    refine AS.out.mono ?_
    rintro e w1 ⟨rfl, b1⟩
    go_wp2_with fail
    refine (LE.out _ (hR.below b1).lt).mono ?_
    rintro e w2 ⟨A2, c2, rfl, O2⟩
    have hb := b1.trans (O2.2.mono b1.size)
    have q0 := W_cell HW.out hb 0
    have q1 := W_cell HW.out hb 1
    have f0 := W_frozen HW.out hb 0
    have f1 := W_frozen HW.out hb 1
    simp at q0 q1
    clear O2
    go_wp2
    refine bodyPost_ret (v := .agg #[.int .i64 0, .int .i64 (F : Nat)]) (by simp [results, Try.results5, go_sem, q0, q1]) rfl ?_
    exact ⟨rfl, ((W_below HW.out hb).setCell (Nat.le_refl _) _).setCell (Nat.le_refl _) _⟩
  · have HB : fcN t b = 0 := if_neg h0
    rw [HB]
    obtain ⟨F, hF⟩ : ∃ F, F = fcC t b := ⟨_, rfl⟩
    rw [← hF] at AS h0 ⊢
    have g0 : (F != 0) = true := bne_iff_ne.2 h0
    have g1 : (F == 0) = false := beq_eq_false_iff_ne.2 h0
    clear hF h0 HB
    go_enter Try.func5, Try.ntmps5
    go_wp2_with fail
    rw [← HW.out]
    refine AS.out.mono ?_
    rintro e w1 ⟨rfl, hb⟩
    have q0 := W_cell HW.out hb 0
    have q1 := W_cell HW.out hb 1
    have f0 := W_frozen HW.out hb 0
    have f1 := W_frozen HW.out hb 1
    simp at q0 q1
    go_wp2
    refine bodyPost_ret (v := .agg #[.int .i64 F, .int .i64 0]) (by simp [results, Try.results5, go_sem, q0, q1]) rfl ?_
    exact ⟨rfl, ((W_below HW.out hb).setCell (Nat.le_refl _) _).setCell (Nat.le_refl _) _⟩
end Go.Proofs.Ytmnpiakcppcmgaa
