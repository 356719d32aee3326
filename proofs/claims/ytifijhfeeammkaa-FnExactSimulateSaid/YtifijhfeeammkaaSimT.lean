/- The contract of Simulate, in the model. -/
import Derived.Test.YtifijhfeeammkaaSimS
namespace Go.Proofs.Ytifijhfeeammkaa
open Go.RowKit

set_option maxRecDepth 100000 in
set_option maxHeartbeats 3200000 in
theorem specSim_any (t : List (List Ev)) (L : Int) (picks : List Int) (A Ap : Option Addr) (c cp : Nat) (w : World) (hm : t.length ≤ maxLen) (hpm : picks.length ≤ maxLen) (h : RdT w w.heap.size A t) (hp : Rd .i64 w w.heap.size Ap picks) :
    Calls Try.prog 33 #[.slice A t.length c, .int .i64 L, .slice Ap picks.length cp] w (SimPost (simR t L picks) w) := by
  unfold SimPost
  obtain ⟨W, hW⟩ : ∃ W, W = w.alloc (Obj.cells #[.int .i64 0, .slice none 0 0, .slice none 0 0, .slice none 0 0] 55) := ⟨_, rfl⟩
  have k1 : Bk W w.heap.size #[.int .i64 0, .slice none 0 0, .slice none 0 0, .slice none 0 0] 55 := by rw [hW]; exact Bk.new _ _ _
  have B0 : Below w.heap.size w W := by rw [hW]; exact (Below.refl _ _).alloc (Nat.le_refl _) _
  have HW := hide hW
  clear hW
  have hset : ∀ V : World, Below w.heap.size w V → ∀ (x0 x1 x2 x3 : Value), Below w.heap.size w ((((V.setCell ⟨w.heap.size, 0, none⟩ x0).setCell ⟨w.heap.size, 1, none⟩ x1).setCell ⟨w.heap.size, 2, none⟩ x2).setCell ⟨w.heap.size, 3, none⟩ x3) := fun V hb x0 x1 x2 x3 => (((hb.setCell (Nat.le_refl _) x0).setCell (Nat.le_refl _) x1).setCell (Nat.le_refl _) x2).setCell (Nat.le_refl _) x3
  have HSET := hide hset
  have AS := hide (l7Asked_any t L picks A Ap c cp W hm hpm (h.below B0).lt)
  clear hset
  by_cases hC : simC t L picks = 0
  · rw [simR_ok hC]
    rw [hC] at AS
    obtain ⟨hg, hL, hpk⟩ := simC_zero hC
    obtain ⟨Ln, rfl⟩ := Int.eq_ofNat_of_zero_le (show 0 ≤ L by omega)
    have RN := hide (fun W' hT hP => l7Run_any t Ln picks A Ap c cp W' hg (by omega) (by omega) hT hP)
    unfold RunPost at RN
    have hsim : runL (newM t.length Ln) (logO t (ordF t picks)) = simL t (Ln : Int) picks := by unfold simL; rw [Int.toNat_natCast]
    rw [hsim] at RN
    obtain ⟨S, M, hSM⟩ : ∃ S M, simL t (Ln : Int) picks = (S, M) := ⟨_, _, rfl⟩
    rw [hSM] at RN ⊢
    clear hsim hSM hC
    dsimp only at RN ⊢
    go_enter Try.func33, Try.ntmps33
    go_wp2_with fail
    rw [← HW.out]
    refine AS.out.mono ?_
    rintro e w1 ⟨rfl, b1⟩
    replace k1 := k1.kept b1
    have B1 := B0.trans (b1.mono B0.size)
    have R2 := RN.out w1 (((h.below B1).more B1.size).lt) (((hp.below B1).more B1.size).lt)
    have zk := k1.lt
    clear AS b1 B0 RN
    have HR2 := hide R2
    clear R2
    go_wp2_with fail
    refine HR2.out.mono ?_
    rintro e w2 ⟨B, cb, A1, c1, Ap1, cp1, us, rfl, ol, om, b2⟩
    clear HR2
    replace k1 := k1.kept b2
    have B2 := B1.trans (b2.mono B1.size)
    have e2 := (Below.refl w2.heap.size w2).alloc (Nat.le_refl _) (Obj.cells #[.slice A1 M.cs.length c1, .slice Ap1 M.mem.length cp1] 27)
    have k9 := Bk.new w2 #[.slice A1 M.cs.length c1, .slice Ap1 M.mem.length cp1] 27
    replace k1 := k1.kept e2
    have B3 := B2.trans (e2.mono B2.size)
    have ol2 := own_below ol e2 (Nat.le_refl _)
    have om2 := om.below e2
    obtain ⟨X9, hX9⟩ : ∃ X9, X9 = w2.alloc (Obj.cells #[.slice A1 M.cs.length c1, .slice Ap1 M.mem.length cp1] 27) := ⟨_, rfl⟩
    obtain ⟨b9, hb9⟩ : ∃ b9, b9 = w2.heap.size := ⟨_, rfl⟩
    have hq9 : w.heap.size ≠ b9 := by have := B2.size; have := b2.size; omega
    rw [← hX9] at k1 B3 ol2 om2 k9
    rw [← hb9] at k9
    have HX9 := hide hX9
    have HB9 := hide hb9
    clear hX9 hb9 ol om e2 b2 B2 B1
    go_upto_region 5 with fail
    rw [← HX9.out, ← HB9.out]
    have d0 := (k9.cell 0).trans (rfl : _ = some (Value.slice A1 M.cs.length c1))
    have d1 := (k9.cell 1).trans (rfl : _ = some (Value.slice Ap1 M.mem.length cp1))
    have z0 := (k1.cell 0).trans (rfl : _ = some (Value.int .i64 0))
    have z1 := (k1.cell 1).trans (rfl : _ = some (Value.slice none 0 0))
    have z2 := (k1.cell 2).trans (rfl : _ = some (Value.slice none 0 0))
    have z3 := (k1.cell 3).trans (rfl : _ = some (Value.slice none 0 0))
    have f0 := k1.frozen 0
    have f1 := k1.frozen 1
    have f2 := k1.frozen 2
    have f3 := k1.frozen 3
    have hB3 := HSET.out _ B3
    have HB3 := hide hB3
    have HOL := hide ol2
    have HOM := hide om2
    clear hB3 B3 ol2 om2 k1 k9
    go_wp2
    refine bodyPost_ret (v := siV 0 B S.length cb A1 M.cs.length c1 Ap1 M.mem.length cp1) (by simp [results, Try.results33, go_sem, z0, z1, z2, z3]) rfl ?_
    have own4 : ∀ (e : TypeId) (s n : Nat) (v : Value) (xs : List Value), X9.ownsRow w1.heap.size e s v n xs → ∀ {x0 x1 x2 x3 : Value}, ((((X9.setCell ⟨w.heap.size, 0, none⟩ x0).setCell ⟨w.heap.size, 1, none⟩ x1).setCell ⟨w.heap.size, 2, none⟩ x2).setCell ⟨w.heap.size, 3, none⟩ x3).ownsRow w.heap.size e s v n xs := fun e s n v xs hh x0 x1 x2 x3 =>
      own_mono (ownsRow_setCell_below (ownsRow_setCell_below (ownsRow_setCell_below (ownsRow_setCell_below hh (a := ⟨w.heap.size, 0, none⟩) zk _) (a := ⟨w.heap.size, 1, none⟩) zk _) (a := ⟨w.heap.size, 2, none⟩) zk _) (a := ⟨w.heap.size, 3, none⟩) zk _) (by omega)
    refine ⟨B, cb, A1, c1, Ap1, cp1, us, rfl, own4 _ _ _ _ _ HOL.out, ?_, RunPost.apart HOL.out HOM.out, HB3.out _ _ _ _⟩
    exact OwnMac.mono ((((HOM.out.set_ zk _).set_ zk _).set_ zk _).set_ zk _) (by omega)
  · rw [simR_no hC]
    obtain ⟨F, hF⟩ : ∃ F, F = simC t L picks := ⟨_, rfl⟩
    rw [← hF] at AS hC ⊢
    have g0 : (F != 0) = true := bne_iff_ne.2 hC
    have g1 : (F == 0) = false := beq_eq_false_iff_ne.2 hC
    clear hF hC
    dsimp only
    go_enter Try.func33, Try.ntmps33
    go_wp2_with fail
    rw [← HW.out]
    refine AS.out.mono ?_
    rintro e w1 ⟨rfl, b1⟩
    replace k1 := k1.kept b1
    have B1 := B0.trans (b1.mono B0.size)
    have z0 := (k1.cell 0).trans (rfl : _ = some (Value.int .i64 0))
    have z1 := (k1.cell 1).trans (rfl : _ = some (Value.slice none 0 0))
    have z2 := (k1.cell 2).trans (rfl : _ = some (Value.slice none 0 0))
    have z3 := (k1.cell 3).trans (rfl : _ = some (Value.slice none 0 0))
    have f0 := k1.frozen 0
    have f1 := k1.frozen 1
    have f2 := k1.frozen 2
    have f3 := k1.frozen 3
    have HBB := hide (HSET.out _ B1)
    clear AS b1 B0 k1 B1
    go_wp2
    refine bodyPost_ret (v := siV F none 0 0 none 0 0 none 0 0) (by simp [results, Try.results33, go_sem, z0, z1, z2, z3]) rfl ?_
    first
      | exact ⟨none, 0, none, 0, none, 0, [], rfl, World.ownsRow_nil _ _ _ _, OwnMac.nil_ _ _, fun b e => (by cases e), HBB.out _ _ _ _⟩
      | exact ⟨none, 0, none, 0, none, 0, rfl, World.ownsRow_nil _ _ _ _, [], OwnMac.nil_ _ _, HBB.out _ _ _ _⟩
      | exact ⟨none, 0, none, 0, none, 0, rfl, World.ownsRow_nil _ _ _ _, ⟨[], OwnMac.nil_ _ _⟩, HBB.out _ _ _ _⟩
      | exact ⟨none, 0, none, 0, none, 0, rfl, World.ownsRow_nil _ _ _ _, ⟨[], OwnMac.nil_ _ _, fun b e => (by cases e)⟩, HBB.out _ _ _ _⟩
end Go.Proofs.Ytifijhfeeammkaa
