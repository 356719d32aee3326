/- Contracts of ReadFrame, in the program and in its model. -/
import Derived.Test.YtkeifkdaddmkfaaDoorReadF3
import Derived.Test.YtkeifkdaddmkfaaDoorReadF2
import Derived.Test.YtkeifkdaddmkfaaDoorFrM
namespace Go.Proofs.YtkeifkdaddmkfaaDoor
open Go.RowKit

/-- What ReadFrame tells. -/
def RfPost (d : List Int) (w : World) (e : Ending) (w' : World) : Prop :=
  ∃ A c, e = .returned (frR (frC d) (frK d) A (frE d).length c (frZ d)) ∧ w'.ownsRow w.heap.size 81 3 (.slice A (frE d).length c) (frE d).length (evs (frE d)) ∧ Below w.heap.size w w'
theorem RfPost.bad {d : List Int} {w w' : World} (h : ¬ frC d = 0) (hb : Below w.heap.size w w') : RfPost d w (.returned (frR (frC d) 0 none 0 0 0)) w' := by
  obtain ⟨h1, h2, h3⟩ := frC_not h
  unfold RfPost
  rw [h1, h2, h3]
  exact ⟨none, 0, rfl, World.ownsRow_nil _ _ _ _, hb⟩
theorem frC_cases (d : List Int) : frC d = 0 ∨ frC d = 5 ∨ frC d = 6 ∨ frC d = 1 := by
  by_cases h0 : frHd d
  · by_cases h1 : frSum d
    · by_cases h2 : unC (frPay d) = 0
      · exact .inl (frC_ok h0 h1 h2)
      · exact .inr (.inr (.inr (frC_form h0 h1 h2)))
    · exact .inr (.inr (.inl (frC_sum h0 h1)))
  · exact .inr (.inl (frC_text h0))

set_option maxRecDepth 100000 in
set_option maxHeartbeats 1000000 in
theorem implRf_any (d : List Int) (A : Option Addr) (c : Nat) (aN aS aE : Addr) (w : World) (hm : d.length ≤ 1048576) (hc : d.length ≤ c) (hR : Rd .u8 w w.heap.size A d) (b8 : B8 d) (hT : Tab w) (hS : Sent aN aS aE w) :
    Calls Tryd.prog 10 #[.slice A d.length c] w (RfPost d w) := by
  obtain ⟨W, hW⟩ : ∃ W, W = w.alloc (Obj.cells #[Value.int .i64 0, .int .i64 0, .slice none 0 0, .int .i64 0] 33) := ⟨_, rfl⟩
  have HW := hide hW
  have B0 : Below w.heap.size w W := by subst hW; exact (Below.refl _ _).alloc (Nat.le_refl _) _
  have hR' : Rd .u8 W W.heap.size A d := (hR.below B0).lt
  have hT' : Tab W := hT.below B0
  have hS' : Sent aN aS aE W := hS.below B0
  clear hW hT hS hR
  have FA := frameAhead_any d A c aN aS aE W hm hc hR' b8 hT' hS'
  by_cases hC : frC d = 0
  · have FY := hide (FA.mono fun e w' hp => by
      rcases hp with ⟨_, h⟩ | ⟨h, _⟩
      · exact h
      · exact absurd hC h)
    obtain ⟨K, hK⟩ : ∃ K, K = frK d := ⟨_, rfl⟩
    obtain ⟨E, hE⟩ : ∃ E, E = frE d := ⟨_, rfl⟩
    obtain ⟨Z, hZ⟩ : ∃ Z, Z = frZ d := ⟨_, rfl⟩
    unfold RfPost
    rw [← hK, ← hE, ← hZ] at FY ⊢
    rw [hC]
    clear FA hC hK hE hZ
    go_enter Tryd.func10, Tryd.ntmps10
    go_wp2_with fail
    rw [← HW.out]
    refine FY.out.mono ?_
    rintro e w1 ⟨A1, c1, rfl, o1, b1⟩
    have x3 := Bk.new w1 #[Value.int .i64 K, .slice A1 E.length c1] 26
    have e3 := b1.alloc b1.size (Obj.cells #[Value.int .i64 K, .slice A1 E.length c1] 26)
    have o3 := own_below o1 ((Below.refl _ _).alloc (Nat.le_refl _) (Obj.cells #[Value.int .i64 K, .slice A1 E.length c1] 26)) (Nat.le_refl _)
    have q0 := W_cell HW.out e3 0
    have q1 := W_cell HW.out e3 1
    have q2 := W_cell HW.out e3 2
    have q3 := W_cell HW.out e3 3
    have f0 := W_frozen HW.out e3 0
    have f1 := W_frozen HW.out e3 1
    have f2 := W_frozen HW.out e3 2
    have f3 := W_frozen HW.out e3 3
    have y0 := (x3.cell 0).trans (rfl : _ = some (Value.int .i64 K))
    have y1 := (x3.cell 1).trans (rfl : _ = some (Value.slice A1 E.length c1))
    simp at q0 q1 q2 q3
    have hO := hide o3
    have HB := hide e3
    have zW := W_size HW.out
    clear x3 e3 o1 o3 b1
    go_wp2
    refine bodyPost_ret (v := frR 0 K A1 E.length c1 Z) (by simp [results, Tryd.results10, go_sem, q0, q1, q2, q3]) rfl ?_
    refine ⟨A1, c1, rfl, ?_, (((((W_below HW.out HB.out).setCell (Nat.le_refl _) _).setCell (Nat.le_refl _) _).setCell (Nat.le_refl _) _).setCell (Nat.le_refl _) _)⟩
    have o4 := ownsRow_setCell_below hO.out (a := ⟨w.heap.size, 0, none⟩) (by simp; omega) (.int .i64 0)
    have o5 := ownsRow_setCell_below o4 (a := ⟨w.heap.size, 1, none⟩) (by simp; omega) (.int .i64 K)
    have o6 := ownsRow_setCell_below o5 (a := ⟨w.heap.size, 2, none⟩) (by simp; omega) (.slice A1 E.length c1)
    have o7 := ownsRow_setCell_below o6 (a := ⟨w.heap.size, 3, none⟩) (by simp; omega) (.int .i64 Z)
    exact own_mono o7 (by omega)
  · have FN := hide (FA.mono fun e w' hp => by
      rcases hp with ⟨h, _⟩ | ⟨_, h⟩
      · exact absurd h hC
      · exact h)
    have hcs : frC d = 5 ∨ frC d = 6 ∨ frC d = 1 := (frC_cases d).resolve_left hC
    have FP := hide (fun (w' : World) (h : Below w.heap.size w w') => RfPost.bad hC h)
    have FC := hide (fun W h => frameCode_any aN aS aE (frC d) W h hcs)
    obtain ⟨C, hCC⟩ : ∃ C, C = frC d := ⟨_, rfl⟩
    rw [← hCC] at FN FC FP
    clear FA hC hCC hcs
    go_enter Tryd.func10, Tryd.ntmps10
    go_wp2_with fail
    rw [← HW.out]
    refine FN.out.mono ?_
    rintro e w1 ⟨rfl, b1⟩
    have e3 := b1.alloc b1.size (Obj.cells #[Value.int .i64 0, .slice none 0 0] 26)
    have q0 := W_cell HW.out e3 0
    have q1 := W_cell HW.out e3 1
    have q2 := W_cell HW.out e3 2
    have q3 := W_cell HW.out e3 3
    have f0 := W_frozen HW.out e3 0
    have f1 := W_frozen HW.out e3 1
    have f2 := W_frozen HW.out e3 2
    have f3 := W_frozen HW.out e3 3
    simp at q0 q1 q2 q3
    have hS3 := hS'.below e3
    have HB := hide e3
    clear e3 b1
    go_wp2_with fail
    refine (FC.out _ hS3).mono ?_
    rintro e w2 ⟨rfl, rfl⟩
    go_wp2
    refine bodyPost_ret (v := frR C 0 none 0 0 0) (by simp [results, Tryd.results10, go_sem, q0, q1, q2, q3]) rfl ?_
    exact FP.out _ (((((W_below HW.out HB.out).setCell (Nat.le_refl _) _).setCell (Nat.le_refl _) _).setCell (Nat.le_refl _) _).setCell (Nat.le_refl _) _)
end Go.Proofs.YtkeifkdaddmkfaaDoor
