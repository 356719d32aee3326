/- The walk of the exact law of PutVar. -/
import Derived.Test.YtechfdnfmapafaaPut
import Derived.Test.YtechfdnfmapafaaBytesR
namespace Go.Proofs.Ytechfdnfmapafaa
open Go.RowKit

set_option maxHeartbeats 400000 in
theorem FnExactPutVar_walk (n : Int) (w : World) (hn : n ≤ 9223372036854775807) :
    Calls Try.prog 3 #[.int .i64 n] w fun e w' => e = .returned (.bool true) ∧ Below w.heap.size w w' := by
  obtain ⟨l, hl⟩ : ∃ l, l = putB n := ⟨_, rfl⟩
  have hlen : l.length ≤ 9 := by rw [hl]; exact putB_len hn
  have hlm : l.length ≤ maxLen := by unfold maxLen; omega
  obtain ⟨a, ha⟩ : ∃ a, a = putC n := ⟨_, rfl⟩
  have S := hide (specPut_any n)
  have I := hide (implPut_any n)
  rw [← hl, ← ha] at S I
  clear hl ha
  go_enter Try.func3, Try.ntmps3
  go_wp2_with fail
  refine (S.out _ hn).mono ?_
  rintro e w1 ⟨A0, c0, rfl, o1, b1⟩
  have r0 := Rd.of_own o1
  clear o1
  go_wp2_with fail
  refine (I.out _ hn).mono ?_
  rintro e w2 ⟨A1, c1, rfl, o2, b2⟩
  have r0 := r0.below (b2.mono (by simp) |> below_alloc)
  have k3 := (Bk.new w1 #[.int .i64 a, .slice A0 l.length c0] 24).kept b2
  have o2 := own_alloc' o2
  have B2 : Below w.heap.size w w2 := b1.trans ((below_alloc b2).mono b1.size)
  have z2 : w1.heap.size < w2.heap.size := k3.lt
  have z1 := b1.size
  clear b1 b2
  have q3 := k3.cell
  go_wp2_with fail
  refine (eqBytesResult_same a l _ _ _ _ _ hlm ((Rd.of_own (own_mono o2 (Nat.zero_le _))).alloc (Nat.le_refl _) _).lt (r0.alloc (by omega) _).lt).mono ?_
  rintro e w3 ⟨rfl, b3⟩
  clear q3
  have k4 := (Bk.new w2 #[.int .i64 a, .slice A1 l.length c1] 24).kept b3
  have k3 := (k3.alloc (.cells #[.int .i64 a, .slice A1 l.length c1] 24)).kept b3
  have o3 := own_below (o2.alloc (.cells #[.int .i64 a, .slice A1 l.length c1] 24)) b3 (Nat.le_refl _)
  have r0 := r0.below ((below_alloc b3).mono (by omega))
  have B3 : Below w.heap.size w w3 := B2.trans ((below_alloc b3).mono B2.size)
  have z3 := k4.lt
  clear b3
  have q4 := k4.cell
  go_wp2_with fail
  have MK := markBytesResult_any (w1.heap.size + 1) a A1 l.length c1 1 _ w3 (by omega) o3
  refine MK.mono ?_
  clear MK
  rintro e w4 ⟨rfl, o4, g4⟩
  have b4 := grown_below o3 g4 (B := w1.heap.size + 1) (by omega) (Nat.le_refl _)
  have k3 := k3.grown g4 (own_apart o3 _ (.inl (by omega)))
  have k4 := k4.grown g4 (by
    have := o2.lt
    intro he
    have := (this _ he.symm).2
    omega)
  have r0 := r0.below (b4.mono (by omega))
  have B4 : Below w.heap.size w w4 := B3.trans (b4.mono (by omega))
  have z4 := b4.size
  have r1 := Rd.of_own o4
  clear b4 g4 o3 q4
  have q4 := k4.cell
  go_wp2_with fail
  have HD := heldBytesResult_marked _ a A1 l.length c1 1 w4 (by omega) (Nat.le_refl _) r1
  refine HD.mono ?_
  clear HD
  rintro e w5 ⟨rfl, b5⟩
  clear q4
  have k3 := k3.kept b5
  have k4 := k4.kept b5
  have r0 := r0.below (b5.mono (by omega))
  have r1 := (r1.below b5).lt
  have B5 : Below w.heap.size w w5 := B4.trans (b5.mono B4.size)
  have z5 := b5.size
  clear b5 o4
  go_wp2_with fail
  refine (I.out _ hn).mono ?_
  rintro e w6 ⟨A2, c2, rfl, o6, b6⟩
  have k3 := k3.kept b6
  have k4 := k4.kept b6
  have r0 := r0.below (b6.mono (by omega))
  have r1 := (r1.below b6).lt
  have r2 := Rd.of_own o6
  have B6 : Below w.heap.size w w6 := B5.trans (b6.mono B5.size)
  have z6 := b6.size
  have zz : w1.heap.size < w6.heap.size := k3.lt
  clear b6 o6
  have q3 := k3.cell
  go_wp2_with fail
  refine (eqBytesResult_same a l _ _ _ _ _ hlm (r2.alloc (Nat.le_refl _) _).lt (r0.alloc (by omega) _).lt).mono ?_
  rintro e w7 ⟨rfl, b7⟩
  clear q3
  have k4 := (k4.alloc (.cells #[.int .i64 a, .slice A2 l.length c2] 24)).kept b7
  have r1 := (r1.below (below_alloc b7)).lt
  have B7 : Below w.heap.size w w7 := B6.trans ((below_alloc b7).mono B6.size)
  have z7 := b7.size
  clear b7
  have q4 := k4.cell
  go_wp2_with fail
  have HD := heldBytesResult_marked _ a A1 l.length c1 1 w7 (by omega) (Nat.le_refl _) r1
  refine HD.mono ?_
  clear HD
  rintro e w8 ⟨rfl, b8⟩
  have B8 : Below w.heap.size w w8 := B7.trans (b8.mono B7.size)
  go_wp2
  go_ret
  exact ⟨rfl, B8⟩
end Go.Proofs.Ytechfdnfmapafaa
