/- The walk of the exact law of NewMachine. -/
import Derived.Test.YtifijhfeeammkaaGNew
namespace Go.Proofs.Ytifijhfeeammkaa
open Go.RowKit

theorem OwnMac.bound {w : World} {base : Nat} {v v' : Value} {m : Mac} {us : List Value} (h : OwnMac w base v v' m us) : ∀ u ∈ v' :: us, ∀ b, u.ownBlock = some b → base ≤ b ∧ b < w.heap.size := fun u hu b hb => by
  rcases List.mem_cons.1 hu with rfl | hu
  · exact h.mem.lt b hb
  · obtain ⟨i, hi⟩ := List.getElem?_of_mem hu
    obtain ⟨_, h1, _⟩ := h.cs.at_ hi
    exact h1.lt b hb
theorem sumT_rep (n : Nat) (l : List Ev) : sumT (List.replicate n l) = n * l.length := by
  induction n with
  | zero => simp [sumT]
  | succ n ih => simp only [List.replicate_succ, sumT, ih, Nat.succ_mul]; omega
theorem newR_few (a b : Int) : (newR a b).2.1.cs.length ≤ 4 ∧ (newR a b).2.1.mem.length ≤ 4 ∧ sumT (newR a b).2.1.cs ≤ 16 := by
  by_cases h : newOk a b
  · rw [newR_ok h]
    obtain ⟨h1, h2⟩ := h
    simp only [newM, List.length_replicate, sumT_rep, List.length_nil]
    refine ⟨by omega, by omega, ?_⟩
    exact Nat.le_trans (Nat.mul_le_mul (show a.toNat ≤ 4 by omega) (show b.toNat ≤ 4 by omega)) (by omega)
  · rw [newR_no h]
    simp [sumT]

set_option maxRecDepth 100000 in
set_option maxHeartbeats 1600000 in
theorem FnExactNewMachine_walk (x y : Int) (w : World) :
    Calls Try.prog 8 #[.int .i64 x, .int .i64 y] w fun e w' => e = .returned (.bool true) ∧ Below w.heap.size w w' := by
  have SP := hide (fun w => specNew_any x y w)
  have IM := hide (fun w => implNew_any x y w)
  unfold MrPost at SP IM
  have hf := newR_few x y
  obtain ⟨a, ha⟩ : ∃ a, a = (newR x y).1 := ⟨_, rfl⟩
  obtain ⟨m, hm⟩ : ∃ m, m = (newR x y).2.1 := ⟨_, rfl⟩
  obtain ⟨v, hv⟩ : ∃ v, v = (newR x y).2.2 := ⟨_, rfl⟩
  rw [← ha, ← hm, ← hv] at SP IM
  rw [← hm] at hf
  clear ha hm hv
  have h1 : m.cs.length ≤ maxLen := by unfold maxLen; omega
  have h2 : m.mem.length ≤ maxLen := by unfold maxLen; omega
  have ht : m.cs.length ≤ 1048576 := by omega
  have hend : endMac 1 m ≤ 1073741824 := by unfold endMac endT; omega
  clear hf
  go_enter Try.func8, Try.ntmps8
  have B := Below.refl w.heap.size w
  go_wp2_with fail
  refine (SP.out _).mono ?_
  rintro e w1 ⟨A0, c0, A0p, c0p, us0, rfl, o0, b0⟩
  have z_1 := Below.size b0
  replace B := B.trans (b0.mono B.size)
  clear b0
  have r0 := o0.rd
  clear o0
  have e_ := (Below.refl w1.heap.size w1).alloc (Nat.le_refl _) (Obj.cells #[Value.int .i64 a, Value.slice A0 m.cs.length c0, Value.slice A0p m.mem.length c0p, Value.int .i64 v] 33)
  have zz_1 : (w1.alloc (Obj.cells #[Value.int .i64 a, Value.slice A0 m.cs.length c0, Value.slice A0p m.mem.length c0p, Value.int .i64 v] 33)).heap.size = w1.heap.size + 1 := by simp
  have z_2 := Below.size e_
  replace B := B.trans (e_.mono B.size)
  replace r0 := r0.below (e_.mono (by omega))
  clear e_
  have k0 := Bk.new w1 #[Value.int .i64 a, Value.slice A0 m.cs.length c0, Value.slice A0p m.mem.length c0p, Value.int .i64 v] 33
  have qK := k0.cell
  go_wp2_with fail
  clear qK
  refine (IM.out _).mono ?_
  rintro e w2 ⟨A1, c1, A1p, c1p, us1, rfl, o1, b1⟩
  have z_3 := Below.size b1
  replace B := B.trans (b1.mono B.size)
  replace r0 := r0.below (b1.mono (by omega))
  replace k0 := k0.kept b1
  clear b1
  replace o1 := o1.mono (b' := w1.heap.size + 1) (by simp)
  have hb1 := o1.bound
  have e_ := (Below.refl w2.heap.size w2).alloc (Nat.le_refl _) (Obj.cells #[Value.int .i64 a, Value.slice A1 m.cs.length c1, Value.slice A1p m.mem.length c1p, Value.int .i64 v] 33)
  have zz_3 : (w2.alloc (Obj.cells #[Value.int .i64 a, Value.slice A1 m.cs.length c1, Value.slice A1p m.mem.length c1p, Value.int .i64 v] 33)).heap.size = w2.heap.size + 1 := by simp
  have z_4 := Below.size e_
  replace B := B.trans (e_.mono B.size)
  replace r0 := r0.below (e_.mono (by omega))
  replace k0 := k0.kept e_
  replace o1 := o1.below e_
  clear e_
  have k1 := Bk.new w2 #[Value.int .i64 a, Value.slice A1 m.cs.length c1, Value.slice A1p m.mem.length c1p, Value.int .i64 v] 33
  have q0_0 := (k1.cell 0).trans (rfl : _ = some (Value.int .i64 a))
  have q0_1 := (k1.cell 1).trans (rfl : _ = some (Value.slice A1 m.cs.length c1))
  have q0_2 := (k1.cell 2).trans (rfl : _ = some (Value.slice A1p m.mem.length c1p))
  have q0_3 := (k1.cell 3).trans (rfl : _ = some (Value.int .i64 v))
  have q1_0 := (k0.cell 0).trans (rfl : _ = some (Value.int .i64 a))
  have q1_1 := (k0.cell 1).trans (rfl : _ = some (Value.slice A0 m.cs.length c0))
  have q1_2 := (k0.cell 2).trans (rfl : _ = some (Value.slice A0p m.mem.length c0p))
  have q1_3 := (k0.cell 3).trans (rfl : _ = some (Value.int .i64 v))
  go_wp2_with fail
  refine (eqMachineResult_same a v m _ _ _ _ _ _ _ _ _ h1 h2 o1.rd (r0.more (by omega))).mono ?_
  rintro e w3 ⟨rfl, b3⟩
  clear q0_0 q0_1 q0_2 q0_3 q1_0 q1_1 q1_2 q1_3
  have z_5 := Below.size b3
  replace B := B.trans (b3.mono B.size)
  replace r0 := r0.below (b3.mono (by omega))
  replace k0 := k0.kept b3
  replace k1 := k1.kept b3
  replace o1 := o1.below b3
  clear b3
  have q0 := (k1.cell 0).trans (rfl : _ = some (Value.int .i64 a))
  have q1 := (k1.cell 1).trans (rfl : _ = some (Value.slice A1 m.cs.length c1))
  have q2 := (k1.cell 2).trans (rfl : _ = some (Value.slice A1p m.mem.length c1p))
  have q3 := (k1.cell 3).trans (rfl : _ = some (Value.int .i64 v))
  go_wp2_with fail
  have MK := markMachineResult_any _ 1 a v m us1 A1 A1p c1 c1p w3 hend ht o1
  refine MK.mono ?_
  clear MK q0 q1 q2 q3 o1
  rintro e w4 ⟨rfl, o4, s4⟩
  have b_ := s4.below (w1.heap.size + 1) (by omega) (fun u hu b e => (hb1 u hu b e).1)
  have z_g := Below.size b_
  replace r0 := r0.below (b_.mono (by omega))
  replace B := B.trans (b_.mono (by omega))
  replace k0 := k0.below b_ (by omega)
  replace k1 := s4.bk _ _ _ k1 (fun u hu e => by have := (hb1 u hu _ e).2; omega)
  have r1 := (show OwnMac w4 _ (.slice A1 (mkMac 1 m).cs.length c1) (.slice A1p (mkMac 1 m).mem.length c1p) (mkMac 1 m) us1 by simp only [mkMac, mkT_length, mkC_length]; simp only [mkMac] at o4; exact o4).rd
  clear s4 hb1 o4 b_
  have q0_0 := (k1.cell 0).trans (rfl : _ = some (Value.int .i64 a))
  have q0_1 := (k1.cell 1).trans (rfl : _ = some (Value.slice A1 m.cs.length c1))
  have q0_2 := (k1.cell 2).trans (rfl : _ = some (Value.slice A1p m.mem.length c1p))
  have q0_3 := (k1.cell 3).trans (rfl : _ = some (Value.int .i64 v))
  go_wp2_with fail
  refine (heldMachineResult_marked _ 1 a v m A1 A1p c1 c1p w4 hend ht (Nat.le_refl _) r1).mono ?_
  rintro e w5 ⟨rfl, b5⟩
  clear q0_0 q0_1 q0_2 q0_3
  have z_6 := Below.size b5
  replace B := B.trans (b5.mono B.size)
  replace r0 := r0.below (b5.mono (by omega))
  replace k0 := k0.kept b5
  replace k1 := k1.kept b5
  replace r1 := (r1.below b5).lt
  clear b5
  go_wp2_with fail
  refine (IM.out _).mono ?_
  rintro e w6 ⟨A2, c2, A2p, c2p, us2, rfl, o6, b6⟩
  have z_7 := Below.size b6
  replace B := B.trans (b6.mono B.size)
  replace r0 := r0.below (b6.mono (by omega))
  replace k0 := k0.kept b6
  replace k1 := k1.kept b6
  replace r1 := (r1.below b6).lt
  clear b6
  have r2 := o6.rd
  clear o6
  have e_ := (Below.refl w6.heap.size w6).alloc (Nat.le_refl _) (Obj.cells #[Value.int .i64 a, Value.slice A2 m.cs.length c2, Value.slice A2p m.mem.length c2p, Value.int .i64 v] 33)
  have zz_7 : (w6.alloc (Obj.cells #[Value.int .i64 a, Value.slice A2 m.cs.length c2, Value.slice A2p m.mem.length c2p, Value.int .i64 v] 33)).heap.size = w6.heap.size + 1 := by simp
  have z_8 := Below.size e_
  replace B := B.trans (e_.mono B.size)
  replace r0 := r0.below (e_.mono (by omega))
  replace k0 := k0.kept e_
  replace k1 := k1.kept e_
  replace r1 := (r1.below e_).lt
  replace r2 := (r2.below e_).lt
  clear e_
  have k2 := Bk.new w6 #[Value.int .i64 a, Value.slice A2 m.cs.length c2, Value.slice A2p m.mem.length c2p, Value.int .i64 v] 33
  have q0_0 := (k2.cell 0).trans (rfl : _ = some (Value.int .i64 a))
  have q0_1 := (k2.cell 1).trans (rfl : _ = some (Value.slice A2 m.cs.length c2))
  have q0_2 := (k2.cell 2).trans (rfl : _ = some (Value.slice A2p m.mem.length c2p))
  have q0_3 := (k2.cell 3).trans (rfl : _ = some (Value.int .i64 v))
  have q1_0 := (k0.cell 0).trans (rfl : _ = some (Value.int .i64 a))
  have q1_1 := (k0.cell 1).trans (rfl : _ = some (Value.slice A0 m.cs.length c0))
  have q1_2 := (k0.cell 2).trans (rfl : _ = some (Value.slice A0p m.mem.length c0p))
  have q1_3 := (k0.cell 3).trans (rfl : _ = some (Value.int .i64 v))
  go_wp2_with fail
  refine (eqMachineResult_same a v m _ _ _ _ _ _ _ _ _ h1 h2 r2 (r0.more (by omega))).mono ?_
  rintro e w7 ⟨rfl, b7⟩
  clear q0_0 q0_1 q0_2 q0_3 q1_0 q1_1 q1_2 q1_3
  have z_9 := Below.size b7
  replace B := B.trans (b7.mono B.size)
  replace r0 := r0.below (b7.mono (by omega))
  replace k0 := k0.kept b7
  replace k1 := k1.kept b7
  replace r1 := (r1.below b7).lt
  replace r2 := (r2.below b7).lt
  replace k2 := k2.kept b7
  clear b7
  have q0_0 := (k1.cell 0).trans (rfl : _ = some (Value.int .i64 a))
  have q0_1 := (k1.cell 1).trans (rfl : _ = some (Value.slice A1 m.cs.length c1))
  have q0_2 := (k1.cell 2).trans (rfl : _ = some (Value.slice A1p m.mem.length c1p))
  have q0_3 := (k1.cell 3).trans (rfl : _ = some (Value.int .i64 v))
  go_wp2_with fail
  refine (heldMachineResult_marked _ 1 a v m A1 A1p c1 c1p w7 hend ht (Nat.le_refl _) r1).mono ?_
  rintro e w8 ⟨rfl, b8⟩
  clear q0_0 q0_1 q0_2 q0_3
  have z_10 := Below.size b8
  replace B := B.trans (b8.mono B.size)
  replace r0 := r0.below (b8.mono (by omega))
  replace k0 := k0.kept b8
  replace k1 := k1.kept b8
  replace r1 := (r1.below b8).lt
  replace r2 := (r2.below b8).lt
  replace k2 := k2.kept b8
  clear b8
  go_wp2
  go_ret
  exact ⟨rfl, B⟩
end Go.Proofs.Ytifijhfeeammkaa
