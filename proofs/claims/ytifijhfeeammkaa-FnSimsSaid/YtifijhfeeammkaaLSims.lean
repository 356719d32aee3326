/- The walk of the law of simulations. -/
import Derived.Test.YtifijhfeeammkaaLSim
import Derived.Test.YtifijhfeeammkaaGDrawO
import Derived.Test.YtifijhfeeammkaaStpEq
import Derived.Test.YtifijhfeeammkaaGMac
import Derived.Test.YtifijhfeeammkaaLogI
import Derived.Test.YtifijhfeeammkaaLw
namespace Go.Proofs.Ytifijhfeeammkaa
open Go.RowKit

theorem simR_facts (t : List (List Ev)) (L : Int) (picks : List Int) : ((simR t L picks).1 ≠ 0 → (simR t L picks).2.1 = []) ∧ ((simR t L picks).1 = 0 → pgF t = 0 ∧ (1 ≤ L ∧ L ≤ 4) ∧ picks.length ≤ 100 ∧ macF (simR t L picks).2.2 = 0 ∧ logF (simR t L picks).2.1 (t.length : Int) = 0 ∧ ∀ L', 1 ≤ L' ∧ L' ≤ 4 → ∃ N : Mac, simR t L' picks = (0, (simR t L picks).2.1, N) ∧ True ∧ True) := by
  by_cases h : simC t L picks = 0
  · rw [simR_ok h]
    obtain ⟨hg, hL, hk⟩ := simC_zero h
    obtain ⟨h1, _, hF, hl⟩ := sim_ok (picks := picks) hg hL
    refine ⟨fun hh => absurd rfl hh, fun _ => ⟨hg, hL, hk, hF, hl, fun L' hL' => ?_⟩⟩
    obtain ⟨h2, _⟩ := sim_ok (picks := picks) hg hL'
    refine ⟨(simL t L' picks).2, ?_, trivial, trivial⟩
    rw [simR_ok (simC_ok hg hL' hk)]
    simp only [Prod.mk.injEq, true_and]
    rw [show simL t L' picks = ((simL t L' picks).1, (simL t L' picks).2) from rfl]
    simp only [Prod.mk.injEq, and_true]
    rw [h1, h2]
  · rw [simR_no h]
    exact ⟨fun _ => rfl, fun hh => absurd hh h⟩
theorem below_dn {B : Nat} {w w' : World} (h : Below B w w') (n : Nat) : Below B w (w'.drewN n) := ⟨h.os, h.tape, h.output, h.size, h.block⟩
theorem lwAt2_any (l : List Int) (A : Option Addr) (c : Nat) (w : World) (hl : l.length ≤ 1048576) (hr : Rd .u8 w w.heap.size A l) (b8 : B8 l) :
    Calls Try.prog 38 #[.slice A l.length c, .int .i64 2, .int .i64 4] w fun e w' => ∃ y : Int, e = .returned (.int .i64 y) ∧ (0 ≤ y ∧ y < 4) ∧ Below w.heap.size w w' := by
  refine (lwAt_any 2 4 l A c w (by omega) (by omega) (by omega) hl hr b8).mono ?_
  rintro e w' ⟨r, k, rfl, h0, h1, rfl⟩
  exact ⟨r, rfl, ⟨h0, by omega⟩, below_dn (Below.refl _ _) k⟩

set_option maxRecDepth 100000 in
set_option maxHeartbeats 4000000 in
theorem FnSims_walk (l : List Int) (A : Option Addr) (c : Nat) (w : World) (hl : l.length ≤ maxLen) (h : Rd .u8 w w.heap.size A l) (b8 : B8 l) :
    Calls Try.prog 4 #[.slice A l.length c] w fun e w' => e = .returned (.bool true) ∧ Below w.heap.size w w' := by
  by_cases hL : l.length ≤ 1048576
  · clear hl
    go_enter Try.func4, Try.ntmps4
    go_wp2_with fail
    refine (lwBig_no l A c w hL).mono ?_
    rintro e w0 ⟨rfl, rfl⟩
    go_wp2_with fail
    refine (DrawSimulate_any l A c w hL h b8).mono ?_
    rintro e w1 ⟨t, D1, d1, x, ps, Dp, dp, rfl, ht5, hps, hpI, r1, rp, B⟩
    have R := h.below B
    have zB := B.size
    clear h
    have lt : t.length ≤ maxLen := by unfold maxLen; omega
    have lps : ps.length ≤ maxLen := by unfold maxLen; omega
    have IM := hide (fun x W hT hP => implSim_any t x ps D1 Dp d1 dp W lt lps hpI hT hP)
    have SM := hide (fun W hT hP => specSim_any t x ps D1 Dp d1 dp W lt lps hT hP)
    have I1 := hide (IM.out x)
    unfold SimPost at I1 SM
    have hf := simR_few t x ps
    have hz := simR_facts t x ps
    obtain ⟨C, hC⟩ : ∃ y, y = (simR t x ps).1 := ⟨_, rfl⟩
    obtain ⟨S, hS⟩ : ∃ y, y = (simR t x ps).2.1 := ⟨_, rfl⟩
    obtain ⟨M, hM⟩ : ∃ y, y = (simR t x ps).2.2 := ⟨_, rfl⟩
    rw [← hC, ← hS, ← hM] at I1 SM
    rw [← hS, ← hM] at hf
    rw [← hC, ← hS, ← hM] at hz
    have HZ := hide hz
    have lS : S.length ≤ maxLen := by unfold maxLen; omega
    have lM1 : M.cs.length ≤ maxLen := by unfold maxLen; omega
    have lM2 : M.mem.length ≤ maxLen := by unfold maxLen; omega
    clear hC hS hM hps hpI hz hf
    have LQ := hide (fun A A' c c' W h h' => (by have := implSL_any S S A A' c c' W lS h h'; rw [sameP_refl] at this; exact this : Calls Try.prog 35 #[.slice A S.length c, .slice A' S.length c'] W fun e w' => e = .returned (.bool true) ∧ Below W.heap.size W w'))
    have MQ := hide (fun A A' Z Z' c c' d d' W h h' => (by have := implSM_any M M A A' Z Z' c c' d d' W lM1 lM2 h h'; rw [sameM_yes rfl rfl] at this; exact this : Calls Try.prog 23 #[macV A M.cs.length c A' M.mem.length c', macV Z M.cs.length d Z' M.mem.length d'] W fun e w' => e = .returned (.bool true) ∧ Below W.heap.size W w'))
    go_wp2_with fail
    refine (I1.out _ r1 rp).mono ?_
    rintro e w2 ⟨B6, cb6, A6, c6, Ap6, cp6, us6, rfl, oL, oM, ap, b2⟩
    have z_1 := Below.size b2
    replace r1 := (r1.below b2).lt
    replace rp := (rp.below b2).lt
    replace R := R.below (b2.mono (by omega))
    replace B := B.trans (b2.mono B.size)
    clear b2
    have rL6 := RdP.of_own oL
    have rM6 := oM.rd
    clear oL oM ap I1
    have e_ := (Below.refl w2.heap.size w2).alloc (Nat.le_refl _) (Obj.cells #[Value.int .i64 C, Value.slice B6 S.length cb6, Value.slice A6 M.cs.length c6, Value.slice Ap6 M.mem.length cp6] 55)
    have zz_1 : (w2.alloc (Obj.cells #[Value.int .i64 C, Value.slice B6 S.length cb6, Value.slice A6 M.cs.length c6, Value.slice Ap6 M.mem.length cp6] 55)).heap.size = w2.heap.size + 1 := by simp
    have z_2 := Below.size e_
    replace r1 := (r1.below e_).lt
    replace rp := (rp.below e_).lt
    replace R := R.below (e_.mono (by omega))
    replace B := B.trans (e_.mono B.size)
    replace rL6 := (rL6.below e_).lt
    replace rM6 := (rM6.below e_).lt
    clear e_
    have k6 := Bk.new w2 #[Value.int .i64 C, Value.slice B6 S.length cb6, Value.slice A6 M.cs.length c6, Value.slice Ap6 M.mem.length cp6] 55
    have q6 := k6.cell
    go_wp2_with fail
    clear q6
    refine (SM.out _ r1 rp).mono ?_
    rintro e w3 ⟨B7, cb7, A7, c7, Ap7, cp7, us7, rfl, oL, oM, ap, b3⟩
    have z_3 := Below.size b3
    replace r1 := (r1.below b3).lt
    replace rp := (rp.below b3).lt
    replace R := R.below (b3.mono (by omega))
    replace B := B.trans (b3.mono B.size)
    replace rL6 := (rL6.below b3).lt
    replace rM6 := (rM6.below b3).lt
    replace k6 := k6.kept b3
    clear b3
    have rL7 := RdP.of_own oL
    have rM7 := oM.rd
    clear oL oM ap SM
    have e_ := (Below.refl w3.heap.size w3).alloc (Nat.le_refl _) (Obj.cells #[Value.int .i64 C, Value.slice B7 S.length cb7, Value.slice A7 M.cs.length c7, Value.slice Ap7 M.mem.length cp7] 55)
    have zz_3 : (w3.alloc (Obj.cells #[Value.int .i64 C, Value.slice B7 S.length cb7, Value.slice A7 M.cs.length c7, Value.slice Ap7 M.mem.length cp7] 55)).heap.size = w3.heap.size + 1 := by simp
    have z_4 := Below.size e_
    replace r1 := (r1.below e_).lt
    replace rp := (rp.below e_).lt
    replace R := R.below (e_.mono (by omega))
    replace B := B.trans (e_.mono B.size)
    replace rL6 := (rL6.below e_).lt
    replace rM6 := (rM6.below e_).lt
    replace k6 := k6.kept e_
    replace rL7 := (rL7.below e_).lt
    replace rM7 := (rM7.below e_).lt
    clear e_
    have k7 := Bk.new w3 #[Value.int .i64 C, Value.slice B7 S.length cb7, Value.slice A7 M.cs.length c7, Value.slice Ap7 M.mem.length cp7] 55
    have q6 := k6.cell
    go_wp2_with fail
    clear q6
    refine (DrawProgramsFault_any l A c _ hL (R.more (by omega)) b8).mono ?_
    rintro e w4 ⟨u, D2, d2, rfl, hu5, rU, b4⟩
    have z_5 := Below.size b4
    replace r1 := (r1.below b4).lt
    replace rp := (rp.below b4).lt
    replace R := R.below (b4.mono (by omega))
    replace B := B.trans (b4.mono B.size)
    replace rL6 := (rL6.below b4).lt
    replace rM6 := (rM6.below b4).lt
    replace k6 := k6.kept b4
    replace rL7 := (rL7.below b4).lt
    replace rM7 := (rM7.below b4).lt
    replace k7 := k7.kept b4
    clear b4
    have lu : u.length ≤ maxLen := by unfold maxLen; omega
    have IP := hide (fun W h => implPgF_any u D2 d2 W lu h)
    have SP := hide (fun W h => specPgF_any u D2 d2 W lu h)
    obtain ⟨F, hF⟩ : ∃ F, F = pgF u := ⟨_, rfl⟩
    rw [← hF] at IP SP
    clear hF
    have hCC : (C != C) = false := bne_self_eq_false C
    have hFF : (F != F) = false := bne_self_eq_false F
    have q0_0 := (k6.cell 0).trans (rfl : _ = some (Value.int .i64 C))
    have q0_1 := (k6.cell 1).trans (rfl : _ = some (Value.slice B6 S.length cb6))
    have q0_2 := (k6.cell 2).trans (rfl : _ = some (Value.slice A6 M.cs.length c6))
    have q0_3 := (k6.cell 3).trans (rfl : _ = some (Value.slice Ap6 M.mem.length cp6))
    have q1_0 := (k7.cell 0).trans (rfl : _ = some (Value.int .i64 C))
    have q1_1 := (k7.cell 1).trans (rfl : _ = some (Value.slice B7 S.length cb7))
    have q1_2 := (k7.cell 2).trans (rfl : _ = some (Value.slice A7 M.cs.length c7))
    have q1_3 := (k7.cell 3).trans (rfl : _ = some (Value.slice Ap7 M.mem.length cp7))
    go_wp2_with fail
    refine (LQ.out _ _ _ _ _ rL6 rL7).mono ?_
    rintro e w5 ⟨rfl, b5⟩
    clear q0_0 q0_1 q0_2 q0_3 q1_0 q1_1 q1_2 q1_3
    have z_6 := Below.size b5
    replace r1 := (r1.below b5).lt
    replace rp := (rp.below b5).lt
    replace R := R.below (b5.mono (by omega))
    replace B := B.trans (b5.mono B.size)
    replace rL6 := (rL6.below b5).lt
    replace rM6 := (rM6.below b5).lt
    replace k6 := k6.kept b5
    replace rL7 := (rL7.below b5).lt
    replace rM7 := (rM7.below b5).lt
    replace k7 := k7.kept b5
    replace rU := (rU.below b5).lt
    clear b5
    have q0_0 := (k6.cell 0).trans (rfl : _ = some (Value.int .i64 C))
    have q0_1 := (k6.cell 1).trans (rfl : _ = some (Value.slice B6 S.length cb6))
    have q0_2 := (k6.cell 2).trans (rfl : _ = some (Value.slice A6 M.cs.length c6))
    have q0_3 := (k6.cell 3).trans (rfl : _ = some (Value.slice Ap6 M.mem.length cp6))
    have q1_0 := (k7.cell 0).trans (rfl : _ = some (Value.int .i64 C))
    have q1_1 := (k7.cell 1).trans (rfl : _ = some (Value.slice B7 S.length cb7))
    have q1_2 := (k7.cell 2).trans (rfl : _ = some (Value.slice A7 M.cs.length c7))
    have q1_3 := (k7.cell 3).trans (rfl : _ = some (Value.slice Ap7 M.mem.length cp7))
    go_wp2_with fail
    refine (MQ.out _ _ _ _ _ _ _ _ _ rM6 rM7).mono ?_
    rintro e w6 ⟨rfl, b6⟩
    clear q0_0 q0_1 q0_2 q0_3 q1_0 q1_1 q1_2 q1_3
    have z_7 := Below.size b6
    replace r1 := (r1.below b6).lt
    replace rp := (rp.below b6).lt
    replace R := R.below (b6.mono (by omega))
    replace B := B.trans (b6.mono B.size)
    replace rL6 := (rL6.below b6).lt
    replace rM6 := (rM6.below b6).lt
    replace k6 := k6.kept b6
    replace rL7 := (rL7.below b6).lt
    replace rM7 := (rM7.below b6).lt
    replace k7 := k7.kept b6
    replace rU := (rU.below b6).lt
    clear b6
    clear rL7 rM7 k7
    go_wp2_with fail
    refine (IP.out _ rU).mono ?_
    rintro e w7 ⟨rfl, b7⟩
    have z_8 := Below.size b7
    replace r1 := (r1.below b7).lt
    replace rp := (rp.below b7).lt
    replace R := R.below (b7.mono (by omega))
    replace B := B.trans (b7.mono B.size)
    replace rL6 := (rL6.below b7).lt
    replace rM6 := (rM6.below b7).lt
    replace k6 := k6.kept b7
    replace rU := (rU.below b7).lt
    clear b7
    go_wp2_with fail
    refine (SP.out _ rU).mono ?_
    rintro e w8 ⟨rfl, b8x⟩
    have z_9 := Below.size b8x
    replace r1 := (r1.below b8x).lt
    replace rp := (rp.below b8x).lt
    replace R := R.below (b8x.mono (by omega))
    replace B := B.trans (b8x.mono B.size)
    replace rL6 := (rL6.below b8x).lt
    replace rM6 := (rM6.below b8x).lt
    replace k6 := k6.kept b8x
    replace rU := (rU.below b8x).lt
    clear b8x
    clear rU
    have q0 := (k6.cell 0).trans (rfl : _ = some (Value.int .i64 C))
    have q1 := (k6.cell 1).trans (rfl : _ = some (Value.slice B6 S.length cb6))
    have q2 := (k6.cell 2).trans (rfl : _ = some (Value.slice A6 M.cs.length c6))
    have q3 := (k6.cell 3).trans (rfl : _ = some (Value.slice Ap6 M.mem.length cp6))
    clear hCC MQ IP SP
    by_cases hc : C = 0
    · obtain ⟨hp, hx, hps0, hMF, hLF, hOth⟩ := HZ.out.2 hc
      subst hc
      have HOTH := hide hOth
      have HMF := hide hMF
      have HLF := hide hLF
      clear hp hx hps0 hOth hMF hLF hFF
      go_wp2_with fail
      clear q0 q1 q2 q3
      refine (lwAt2_any l A c _ hL (R.more (by omega)) b8).mono ?_
      rintro e w9 ⟨y, rfl, hy, b9⟩
      have z_10 := Below.size b9
      replace r1 := (r1.below b9).lt
      replace rp := (rp.below b9).lt
      replace R := R.below (b9.mono (by omega))
      replace B := B.trans (b9.mono B.size)
      replace rL6 := (rL6.below b9).lt
      replace rM6 := (rM6.below b9).lt
      replace k6 := k6.kept b9
      clear b9
      obtain ⟨N, hN0, hN1, hN2⟩ := HOTH.out (1 + y) (by omega)
      have hL4 : ((1 + y : Int)) = 1 + y := rfl
      have IO := hide (IM.out (1 + y))
      unfold SimPost at IO
      rw [hN0] at IO
      dsimp only at IO
      clear hN0 IM HOTH hL4
      go_wp2_with fail
      refine (IO.out _ r1 rp).mono ?_
      rintro e w10 ⟨B9, cb9, A9, c9, Ap9, cp9, us9, rfl, oL, oM, ap, b10⟩
      have z_11 := Below.size b10
      replace r1 := (r1.below b10).lt
      replace rp := (rp.below b10).lt
      replace R := R.below (b10.mono (by omega))
      replace B := B.trans (b10.mono B.size)
      replace rL6 := (rL6.below b10).lt
      replace rM6 := (rM6.below b10).lt
      replace k6 := k6.kept b10
      clear b10
      have rL9 := RdP.of_own oL
      clear oL oM ap IO
      clear r1 rp R
      have e_ := (Below.refl w10.heap.size w10).alloc (Nat.le_refl _) (Obj.cells #[Value.int .i64 0, Value.slice B9 S.length cb9, Value.slice A9 N.cs.length c9, Value.slice Ap9 N.mem.length cp9] 55)
      have zz_11 : (w10.alloc (Obj.cells #[Value.int .i64 0, Value.slice B9 S.length cb9, Value.slice A9 N.cs.length c9, Value.slice Ap9 N.mem.length cp9] 55)).heap.size = w10.heap.size + 1 := by simp
      have z_12 := Below.size e_
      replace B := B.trans (e_.mono B.size)
      replace rL6 := (rL6.below e_).lt
      replace rM6 := (rM6.below e_).lt
      replace k6 := k6.kept e_
      replace rL9 := (rL9.below e_).lt
      clear e_
      have k9 := Bk.new w10 #[Value.int .i64 0, Value.slice B9 S.length cb9, Value.slice A9 N.cs.length c9, Value.slice Ap9 N.mem.length cp9] 55
      have MF := hide (fun A A' c c' W h => implMacF_any M A A' c c' W lM1 lM2 h)
      rw [HMF.out] at MF
      have LF := hide (fun A c W h => implLogF_any S (t.length : Int) A c W lS h)
      rw [HLF.out] at LF
      have q9 := k9.cell
      have q0 := (k6.cell 0).trans (rfl : _ = some (Value.int .i64 0))
      have q1 := (k6.cell 1).trans (rfl : _ = some (Value.slice B6 S.length cb6))
      have q2 := (k6.cell 2).trans (rfl : _ = some (Value.slice A6 M.cs.length c6))
      have q3 := (k6.cell 3).trans (rfl : _ = some (Value.slice Ap6 M.mem.length cp6))
      go_wp2_with fail
      clear q9 q0 q1 q2 q3
      refine (MF.out _ _ _ _ _ rM6).mono ?_
      rintro e w11 ⟨rfl, b11⟩
      have z_13 := Below.size b11
      replace B := B.trans (b11.mono B.size)
      replace rL6 := (rL6.below b11).lt
      replace rM6 := (rM6.below b11).lt
      replace k6 := k6.kept b11
      replace rL9 := (rL9.below b11).lt
      replace k9 := k9.kept b11
      clear b11
      clear rM6
      have q0_0 := (k6.cell 0).trans (rfl : _ = some (Value.int .i64 0))
      have q0_1 := (k6.cell 1).trans (rfl : _ = some (Value.slice B6 S.length cb6))
      have q0_2 := (k6.cell 2).trans (rfl : _ = some (Value.slice A6 M.cs.length c6))
      have q0_3 := (k6.cell 3).trans (rfl : _ = some (Value.slice Ap6 M.mem.length cp6))
      have q1_0 := (k9.cell 0).trans (rfl : _ = some (Value.int .i64 0))
      have q1_1 := (k9.cell 1).trans (rfl : _ = some (Value.slice B9 S.length cb9))
      have q1_2 := (k9.cell 2).trans (rfl : _ = some (Value.slice A9 N.cs.length c9))
      have q1_3 := (k9.cell 3).trans (rfl : _ = some (Value.slice Ap9 N.mem.length cp9))
      go_wp2_with fail
      refine (LQ.out _ _ _ _ _ rL9 rL6).mono ?_
      rintro e w12 ⟨rfl, b12⟩
      clear q0_0 q0_1 q0_2 q0_3 q1_0 q1_1 q1_2 q1_3
      have z_14 := Below.size b12
      replace B := B.trans (b12.mono B.size)
      replace rL6 := (rL6.below b12).lt
      replace k6 := k6.kept b12
      replace rL9 := (rL9.below b12).lt
      replace k9 := k9.kept b12
      clear b12
      have q0_0 := (k6.cell 0).trans (rfl : _ = some (Value.int .i64 0))
      have q0_1 := (k6.cell 1).trans (rfl : _ = some (Value.slice B6 S.length cb6))
      have q0_2 := (k6.cell 2).trans (rfl : _ = some (Value.slice A6 M.cs.length c6))
      have q0_3 := (k6.cell 3).trans (rfl : _ = some (Value.slice Ap6 M.mem.length cp6))
      have q1_0 := (k9.cell 0).trans (rfl : _ = some (Value.int .i64 0))
      have q1_1 := (k9.cell 1).trans (rfl : _ = some (Value.slice B9 S.length cb9))
      have q1_2 := (k9.cell 2).trans (rfl : _ = some (Value.slice A9 N.cs.length c9))
      have q1_3 := (k9.cell 3).trans (rfl : _ = some (Value.slice Ap9 N.mem.length cp9))
      go_wp2_with fail
      refine (LF.out _ _ _ rL6).mono ?_
      rintro e w13 ⟨rfl, b13⟩
      clear q0_0 q0_1 q0_2 q0_3 q1_0 q1_1 q1_2 q1_3
      have z_15 := Below.size b13
      replace B := B.trans (b13.mono B.size)
      replace rL6 := (rL6.below b13).lt
      replace k6 := k6.kept b13
      replace rL9 := (rL9.below b13).lt
      replace k9 := k9.kept b13
      clear b13
      go_wp2
      go_ret
      exact ⟨rfl, B⟩
    · have hS0 := HZ.out.1 hc
      have h1 : (C != 0) = true := bne_iff_ne.2 hc
      have hS1 : S.length = 0 := by rw [hS0]; rfl
      have h2 : ((S.length : Int) == 0) = true := by rw [hS1]; rfl
      clear hS0 hS1 hc HZ IM LQ hFF
      go_wp2
      go_ret
      exact ⟨ret_bool (by simp [*]), B⟩
  · go_enter Try.func4, Try.ntmps4
    go_wp2_with fail
    refine (lwBig_yes l A c w hL hl).mono ?_
    rintro e w0 ⟨rfl, rfl⟩
    go_wp2
    go_ret
    exact ⟨rfl, Below.refl _ _⟩
end Go.Proofs.Ytifijhfeeammkaa
