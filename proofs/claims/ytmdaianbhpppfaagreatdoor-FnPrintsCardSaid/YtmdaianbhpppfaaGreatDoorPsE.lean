/- The contract of the document's ParseTrace. -/
import Derived.Test.YtmdaianbhpppfaaGreatDoorPsD
namespace Go.Proofs.YtmdaianbhpppfaaGreatDoor
open Go.RowKit

set_option maxRecDepth 100000 in
set_option maxHeartbeats 1600000 in
theorem ParseTrace_spec (l : List Int) (w : World) (b8 : B8 l) (hl : l.length ≤ maxLen) :
    Calls Tryz.prog 17 #[.string (strOfNums l)] w (PsPost l w) := by
  unfold maxLen at hl
  unfold PsPost
  obtain ⟨W, hW⟩ : ∃ W, W = w.alloc (Obj.cells #[Value.int .i64 0, .slice none 0 0] 31) := ⟨_, rfl⟩
  have HW := hide hW
  have bW : Below w.heap.size w W := by rw [hW]; exact (Below.refl _ _).alloc (Nat.le_refl _) _
  have zW := W_size hW
  clear hW
  have z0 := strOfNums_size l
  by_cases h2 : l.length ≤ 2000
  · have PL := hide (l5Parse_any l W b8 h2)
    unfold PlPost at PL
    have q1 : ¬ (2000 : Int) < (l.length : Int) := by omega
    have hC : psC l = if trF (parL l) = 0 ∧ prL (parL l) = l then 0 else 5 := by unfold psC; rw [if_pos h2]
    have hT : psT l = if psC l = 0 then parL l else [] := rfl
    obtain ⟨T, hTT⟩ : ∃ T, T = parL l := ⟨_, rfl⟩
    rw [← hTT] at PL hC hT
    have SQ := seq_str (prL_B8 T) b8
    have HC := hide hC
    have HT := hide hT
    obtain ⟨C, hC2⟩ : ∃ C, C = psC l := ⟨_, rfl⟩
    obtain ⟨P, hP2⟩ : ∃ P, P = psT l := ⟨_, rfl⟩
    rw [← hC2] at HC HT
    rw [← hP2] at HT
    rw [← hC2, ← hP2]
    clear hC hT hTT hC2 hP2
    by_cases hF : trF T = 0
    · have LP := hide (fun (A : Option Addr) (c : Nat) w h => l5Print_any T A c w hF h)
      by_cases hE : prL T = l
      · have hC0 : C = 0 := by rw [HC.out, if_pos ⟨hF, hE⟩]
        have hP0 : P = T := by rw [HT.out, if_pos hC0]
        have sq : ((strOfNums (prL T)).toList == (strOfNums l).toList) = true := by rw [SQ]; exact beq_iff_eq.2 hE
        have HCC := hide hC0
        have HPP := hide hP0
        have TF := hide (fun (A : Option Addr) (c : Nat) w (hm : T.length ≤ maxLen) h => specTrF_any T A c w hm h)
        rw [hF] at TF
        clear SQ HC HT hC0 hP0 hE hF
        generalize prL T = S at LP sq
        go_enter Tryz.func17, Tryz.ntmps17
        go_wp2_with fail
        rw [← HW.out]
        refine PL.out.mono ?_
        rintro e w1 ⟨A, c, us, rfl, ho, hb, hn⟩
        go_wp2_with fail
        refine (TF.out A c _ (by unfold maxLen; omega) ho.rd).mono ?_
        rintro e w2 ⟨rfl, b2⟩
        have ho2 := ho.below b2
        have hb2 := hb.trans (b2.mono hb.size)
        go_wp2_with fail
        refine (LP.out A c _ ho2.rd).mono ?_
        rintro e w3 ⟨rfl, b3⟩
        have ho3 := ho2.below b3
        have h4 := hb2.trans (b3.mono hb2.size)
        have q0 := (W_cell HW.out h4 0).trans (rfl : _ = some (Value.int .i64 0))
        have q1' := (W_cell HW.out h4 1).trans (rfl : _ = some (Value.slice none 0 0))
        have f0 := W_frozen HW.out h4 0
        have f1 := W_frozen HW.out h4 1
        have hbw := W_below HW.out h4
        clear PL TF LP ho ho2 hb hb2 b2 b3 h4
        go_wp2
        refine bodyPost_ret (v := .agg #[.int .i64 0, .slice A T.length c]) (by simp [results, Tryz.results17, go_sem, q0, q1']) rfl ?_
        rw [HCC.out, HPP.out]
        exact ⟨A, c, us, rfl, ((ho3.set_ (by omega) 0 _).set_ (by omega) 1 _).mono (by omega), (hbw.setCell (Nat.le_refl _) _).setCell (Nat.le_refl _) _⟩
      · have hC0 : C = 5 := by rw [HC.out, if_neg (fun h => hE h.2)]
        have hP0 : P = [] := by rw [HT.out, if_neg (by rw [hC0]; decide)]
        have sq : ((strOfNums (prL T)).toList == (strOfNums l).toList) = false := by rw [SQ]; exact beq_eq_false_iff_ne.2 hE
        have HCC := hide hC0
        have HPP := hide hP0
        have TF := hide (fun (A : Option Addr) (c : Nat) w (hm : T.length ≤ maxLen) h => specTrF_any T A c w hm h)
        rw [hF] at TF
        clear SQ HC HT hC0 hP0 hE hF
        generalize prL T = S at LP sq
        go_enter Tryz.func17, Tryz.ntmps17
        go_wp2_with fail
        rw [← HW.out]
        refine PL.out.mono ?_
        rintro e w1 ⟨A, c, us, rfl, ho, hb, hn⟩
        go_wp2_with fail
        refine (TF.out A c _ (by unfold maxLen; omega) ho.rd).mono ?_
        rintro e w2 ⟨rfl, b2⟩
        have ho2 := ho.below b2
        have hb2 := hb.trans (b2.mono hb.size)
        go_wp2_with fail
        refine (LP.out A c _ ho2.rd).mono ?_
        rintro e w3 ⟨rfl, b3⟩
        have h4 := hb2.trans (b3.mono hb2.size)
        have q0 := (W_cell HW.out h4 0).trans (rfl : _ = some (Value.int .i64 0))
        have q1' := (W_cell HW.out h4 1).trans (rfl : _ = some (Value.slice none 0 0))
        have f0 := W_frozen HW.out h4 0
        have f1 := W_frozen HW.out h4 1
        have hbw := W_below HW.out h4
        clear PL TF LP ho ho2 hb hb2 b2 b3 h4
        go_wp2
        refine bodyPost_ret (v := .agg #[.int .i64 5, .slice none 0 0]) (by simp [results, Tryz.results17, go_sem, q0, q1']) rfl ?_
        rw [HCC.out, HPP.out]
        exact ⟨none, 0, [], rfl, OwnT.none_ _ _, (hbw.setCell (Nat.le_refl _) _).setCell (Nat.le_refl _) _⟩
    · have hC0 : C = 5 := by rw [HC.out, if_neg (fun h => hF h.1)]
      have hP0 : P = [] := by rw [HT.out, if_neg (by rw [hC0]; decide)]
      have HCC := hide hC0
      have HPP := hide hP0
      have TF := hide (fun (A : Option Addr) (c : Nat) w (hm : T.length ≤ maxLen) h => specTrF_any T A c w hm h)
      have q2 : (trF T != 0) = true := bne_iff_ne.2 hF
      generalize trF T = F at TF q2
      clear SQ HC HT hC0 hP0 hF
      go_enter Tryz.func17, Tryz.ntmps17
      go_wp2_with fail
      rw [← HW.out]
      refine PL.out.mono ?_
      rintro e w1 ⟨A, c, us, rfl, ho, hb, hn⟩
      go_wp2_with fail
      refine (TF.out A c _ (by unfold maxLen; omega) ho.rd).mono ?_
      rintro e w2 ⟨rfl, b2⟩
      have h4 := hb.trans (b2.mono hb.size)
      have q0 := (W_cell HW.out h4 0).trans (rfl : _ = some (Value.int .i64 0))
      have q1' := (W_cell HW.out h4 1).trans (rfl : _ = some (Value.slice none 0 0))
      have f0 := W_frozen HW.out h4 0
      have f1 := W_frozen HW.out h4 1
      have hbw := W_below HW.out h4
      clear PL TF ho hb b2 h4
      go_wp2
      refine bodyPost_ret (v := .agg #[.int .i64 5, .slice none 0 0]) (by simp [results, Tryz.results17, go_sem, q0, q1']) rfl ?_
      rw [HCC.out, HPP.out]
      exact ⟨none, 0, [], rfl, OwnT.none_ _ _, (hbw.setCell (Nat.le_refl _) _).setCell (Nat.le_refl _) _⟩
  · have hC : psC l = 2 := by unfold psC; rw [if_neg h2]
    have hT : psT l = [] := by unfold psT; rw [hC]; rfl
    have q1 : (2000 : Int) < (l.length : Int) := by omega
    rw [hC, hT]
    clear hC hT
    go_enter Tryz.func17, Tryz.ntmps17
    go_wp2
    go_returns
    exact ⟨none, 0, [], rfl, OwnT.none_ _ _, by go_grown⟩
end Go.Proofs.YtmdaianbhpppfaaGreatDoor
