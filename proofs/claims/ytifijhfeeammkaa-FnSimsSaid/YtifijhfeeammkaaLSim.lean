/- The walk of the exact law of Simulate. -/
import Derived.Test.YtifijhfeeammkaaSimI
import Derived.Test.YtifijhfeeammkaaGRun
import Derived.Test.YtifijhfeeammkaaGOp
import Derived.Test.YtifijhfeeammkaaGMac
namespace Go.Proofs.Ytifijhfeeammkaa
open Go.RowKit

theorem simR_few (t : List (List Ev)) (L : Int) (picks : List Int) : (simR t L picks).2.1.length ≤ 32 ∧ (simR t L picks).2.2.cs.length ≤ 4 ∧ (simR t L picks).2.2.mem.length ≤ 40 ∧ sumT (simR t L picks).2.2.cs ≤ 16 := by
  by_cases h : simC t L picks = 0
  · rw [simR_ok h]
    obtain ⟨hg, hL, _⟩ := simC_zero h
    obtain ⟨_, G, hF, hl⟩ := sim_ok (picks := picks) hg hL
    have h1 := (logF_zero hl).2.1
    have h2 := (macF_zero hF).2
    have h3 := G.nL
    have h4 := G.shp.1
    exact ⟨h1, by simp only; omega, by simp only; omega, good_sum G⟩
  · rw [simR_no h]
    simp [sumT]

set_option maxRecDepth 100000 in
set_option maxHeartbeats 3200000 in
theorem FnExactSimulate_walk (t : List (List Ev)) (A : Option Addr) (c : Nat) (L : Int) (picks : List Int) (Ap : Option Addr) (cp : Nat) (w : World)
    (hl : t.length ≤ c) (hc : c ≤ maxLen) (h : RdT w w.heap.size A t) (hpn : picks.length ≤ maxLen) (hp : Rd .i64 w w.heap.size Ap picks) (hpI : ∀ p ∈ picks, I64 p) :
    Calls Try.prog 11 #[.slice A t.length c, .int .i64 L, .slice Ap picks.length cp] w fun e w' => e = .returned (.bool true) ∧ Below w.heap.size w w' := by
  have hn : t.length ≤ maxLen := by omega
  unfold maxLen at hc
  by_cases hp2 : picks.length ≤ 1048576
  · have q1 : ¬ (1048576 : Int) < (picks.length : Int) := by omega
    by_cases hS : t.length + sumT t ≤ 1048576
    · have hL := LenT.of_sum hS
      have hend0 : endT 1 t ≤ 536870912 := by unfold endT; omega
      have hendt : endT 1 t ≤ 1073741824 := by omega
      have hend2 : endT 1 t + picks.length ≤ 1073741824 := by omega
      clear hend0
      have ht : t.length ≤ 1048576 := by omega
      have hf := simR_few t L picks
      have SP := hide (fun A Ap c cp w => specSim_any t L picks A Ap c cp w hn hpn)
      have IM := hide (fun A Ap c cp w => implSim_any t L picks A Ap c cp w hn hpn hpI)
      unfold SimPost at SP IM
      obtain ⟨a, ha⟩ : ∃ a, a = (simR t L picks).1 := ⟨_, rfl⟩
      obtain ⟨l, hl2⟩ : ∃ l, l = (simR t L picks).2.1 := ⟨_, rfl⟩
      obtain ⟨m, hm2⟩ : ∃ m, m = (simR t L picks).2.2 := ⟨_, rfl⟩
      rw [← ha, ← hl2, ← hm2] at SP IM
      rw [← hl2, ← hm2] at hf
      clear ha hl2 hm2
      have hll : l.length ≤ maxLen := by unfold maxLen; omega
      have h1 : m.cs.length ≤ maxLen := by unfold maxLen; omega
      have h2 : m.mem.length ≤ maxLen := by unfold maxLen; omega
      have htm : m.cs.length ≤ 1048576 := by omega
      have hend : endMac (1 + l.length * 4) m ≤ 1073741824 := by unfold endMac endT; omega
      have HL := hide hL
      clear hL hf
      go_enter Try.func11, Try.ntmps11
      go_wp2_with fail
      refine (szOpSS_fit t A c 1048576 _ hS (Nat.le_refl _) h).mono ?_
      rintro e w' ⟨rfl, rfl⟩
      go_wp2_with fail
      refine (toOpSS_any t A c _ HL.out h).mono ?_
      rintro e w1 ⟨g1, rfl, x1, B⟩
      have R := h.below B
      have zB := B.size
      have RP := hp.below B
      go_wp2_with fail
      refine (toInt64S_any picks Ap cp _ hp2 (RP.more (by omega))).mono ?_
      rintro e w1b ⟨g1b, rfl, o1b, b1b⟩
      have z_1 := Below.size b1b
      replace R := R.below (b1b.mono (by omega))
      replace RP := RP.below (b1b.mono (by omega))
      replace B := B.trans (b1b.mono B.size)
      replace x1 := (x1.below b1b).lt
      clear b1b
      have y1 := Rd.of_own o1b
      clear o1b
      go_wp2_with fail
      refine (SP.out _ _ _ _ _ x1 y1).mono ?_
      rintro e w2 ⟨B0, cb0, A0, c0, Ap0, cp0, us0, rfl, oL0, oM0, ap0, b2⟩
      have z_2 := Below.size b2
      replace R := R.below (b2.mono (by omega))
      replace RP := RP.below (b2.mono (by omega))
      replace B := B.trans (b2.mono B.size)
      replace x1 := (x1.below b2).lt
      clear b2
      have rl0 := RdP.of_own oL0
      have rm0 := oM0.rd
      clear oL0 oM0 ap0 x1 y1
      have e_ := (Below.refl w2.heap.size w2).alloc (Nat.le_refl _) (Obj.cells #[Value.int .i64 a, Value.slice B0 l.length cb0, Value.slice A0 m.cs.length c0, Value.slice Ap0 m.mem.length cp0] 55)
      have zz_2 : (w2.alloc (Obj.cells #[Value.int .i64 a, Value.slice B0 l.length cb0, Value.slice A0 m.cs.length c0, Value.slice Ap0 m.mem.length cp0] 55)).heap.size = w2.heap.size + 1 := by simp
      have z_3 := Below.size e_
      replace R := R.below (e_.mono (by omega))
      replace RP := RP.below (e_.mono (by omega))
      replace B := B.trans (e_.mono B.size)
      replace rl0 := rl0.below (e_.mono (by omega))
      replace rm0 := rm0.below (e_.mono (by omega))
      clear e_
      have k0 := Bk.new w2 #[Value.int .i64 a, Value.slice B0 l.length cb0, Value.slice A0 m.cs.length c0, Value.slice Ap0 m.mem.length cp0] 55
      have qK := k0.cell
      go_wp2_with fail
      clear qK
      refine (toOpSS_own t A c _ HL.out (R.more (by omega))).mono ?_
      rintro e w3 ⟨g3, us3, rfl, o3, b3⟩
      have z_4 := Below.size b3
      replace R := R.below (b3.mono (by omega))
      replace RP := RP.below (b3.mono (by omega))
      replace B := B.trans (b3.mono B.size)
      replace rl0 := rl0.below (b3.mono (by omega))
      replace rm0 := rm0.below (b3.mono (by omega))
      replace k0 := k0.kept b3
      clear b3
      replace o3 := o3.mono (b' := w2.heap.size + 1) (by simp)
      have hus : ∀ u ∈ us3, ∀ b, u.ownBlock = some b → w2.heap.size + 1 ≤ b ∧ b < w3.heap.size := fun u hu b hb => by
        obtain ⟨i, hi⟩ := List.getElem?_of_mem hu
        obtain ⟨_, h1, _⟩ := o3.at_ hi
        exact h1.lt b hb
      have x3 := o3.rd
      have zk := k0.lt
      go_wp2_with fail
      refine (toInt64S_any picks Ap cp _ hp2 (RP.more (by omega))).mono ?_
      rintro e w3b ⟨g3b, rfl, o3b, b3b⟩
      have z_5 := Below.size b3b
      replace R := R.below (b3b.mono (by omega))
      replace RP := RP.below (b3b.mono (by omega))
      replace B := B.trans (b3b.mono B.size)
      replace rl0 := rl0.below (b3b.mono (by omega))
      replace rm0 := rm0.below (b3b.mono (by omega))
      replace k0 := k0.kept b3b
      replace x3 := (x3.below b3b).lt
      replace o3 := o3.below b3b
      clear b3b
      have y3 := Rd.of_own o3b
      replace o3b := own_mono (base' := w3.heap.size) o3b (Nat.le_refl _)
      have hg3b := o3b.lt g3b rfl
      go_wp2_with fail
      refine (IM.out _ _ _ _ _ x3 y3).mono ?_
      rintro e w4 ⟨B1, cb1, A1, c1, Ap1, cp1, us1, rfl, oL, oM, ap1, b4⟩
      have z_6 := Below.size b4
      replace R := R.below (b4.mono (by omega))
      replace RP := RP.below (b4.mono (by omega))
      replace B := B.trans (b4.mono B.size)
      replace rl0 := rl0.below (b4.mono (by omega))
      replace rm0 := rm0.below (b4.mono (by omega))
      replace k0 := k0.kept b4
      replace x3 := (x3.below b4).lt
      replace o3b := own_below o3b b4 (Nat.le_refl _)
      replace o3 := o3.below b4
      clear b4
      clear x3 y3
      have hbL := fun b e => oL.lt b e
      have hbM := oM.allB
      have e_ := (Below.refl w4.heap.size w4).alloc (Nat.le_refl _) (Obj.cells #[Value.int .i64 a, Value.slice B1 l.length cb1, Value.slice A1 m.cs.length c1, Value.slice Ap1 m.mem.length cp1] 55)
      have zz_6 : (w4.alloc (Obj.cells #[Value.int .i64 a, Value.slice B1 l.length cb1, Value.slice A1 m.cs.length c1, Value.slice Ap1 m.mem.length cp1] 55)).heap.size = w4.heap.size + 1 := by simp
      have z_7 := Below.size e_
      replace R := R.below (e_.mono (by omega))
      replace RP := RP.below (e_.mono (by omega))
      replace B := B.trans (e_.mono B.size)
      replace rl0 := rl0.below (e_.mono (by omega))
      replace rm0 := rm0.below (e_.mono (by omega))
      replace k0 := k0.kept e_
      replace o3b := own_below o3b e_ (Nat.le_refl _)
      replace oL := own_below oL e_ (Nat.le_refl _)
      replace o3 := o3.below e_
      replace oM := oM.below e_
      clear e_
      have k1 := Bk.new w4 #[Value.int .i64 a, Value.slice B1 l.length cb1, Value.slice A1 m.cs.length c1, Value.slice Ap1 m.mem.length cp1] 55
      have q0_0 := (k1.cell 0).trans (rfl : _ = some (Value.int .i64 a))
      have q0_1 := (k1.cell 1).trans (rfl : _ = some (Value.slice B1 l.length cb1))
      have q0_2 := (k1.cell 2).trans (rfl : _ = some (Value.slice A1 m.cs.length c1))
      have q0_3 := (k1.cell 3).trans (rfl : _ = some (Value.slice Ap1 m.mem.length cp1))
      have q1_0 := (k0.cell 0).trans (rfl : _ = some (Value.int .i64 a))
      have q1_1 := (k0.cell 1).trans (rfl : _ = some (Value.slice B0 l.length cb0))
      have q1_2 := (k0.cell 2).trans (rfl : _ = some (Value.slice A0 m.cs.length c0))
      have q1_3 := (k0.cell 3).trans (rfl : _ = some (Value.slice Ap0 m.mem.length cp0))
      go_wp2_with fail
      refine (eqSimResult_same a l m _ _ _ _ _ _ _ _ _ _ _ _ _ hll h1 h2 (RdP.of_own oL) (rl0.more (by omega)) oM.rd (rm0.more (by omega))).mono ?_
      rintro e w5 ⟨rfl, b5⟩
      clear q0_0 q0_1 q0_2 q0_3 q1_0 q1_1 q1_2 q1_3
      have z_8 := Below.size b5
      replace R := R.below (b5.mono (by omega))
      replace RP := RP.below (b5.mono (by omega))
      replace B := B.trans (b5.mono B.size)
      replace rl0 := rl0.below (b5.mono (by omega))
      replace rm0 := rm0.below (b5.mono (by omega))
      replace k0 := k0.kept b5
      replace o3b := own_below o3b b5 (Nat.le_refl _)
      replace oL := own_below oL b5 (Nat.le_refl _)
      replace k1 := k1.kept b5
      replace o3 := o3.below b5
      replace oM := oM.below b5
      clear b5
      go_wp2_with fail
      refine (toOpSS_any t A c _ HL.out (R.more (by omega))).mono ?_
      rintro e w6 ⟨g6, rfl, x6, b6⟩
      have z_9 := Below.size b6
      replace R := R.below (b6.mono (by omega))
      replace RP := RP.below (b6.mono (by omega))
      replace B := B.trans (b6.mono B.size)
      replace rl0 := rl0.below (b6.mono (by omega))
      replace rm0 := rm0.below (b6.mono (by omega))
      replace k0 := k0.kept b6
      replace o3b := own_below o3b b6 (Nat.le_refl _)
      replace oL := own_below oL b6 (Nat.le_refl _)
      replace k1 := k1.kept b6
      replace o3 := o3.below b6
      replace oM := oM.below b6
      clear b6
      go_wp2_with fail
      refine (eqOpSS_same t _ _ _ _ _ hn o3.rd x6).mono ?_
      rintro e w7 ⟨rfl, b7⟩
      have z_10 := Below.size b7
      replace R := R.below (b7.mono (by omega))
      replace RP := RP.below (b7.mono (by omega))
      replace B := B.trans (b7.mono B.size)
      replace rl0 := rl0.below (b7.mono (by omega))
      replace rm0 := rm0.below (b7.mono (by omega))
      replace k0 := k0.kept b7
      replace o3b := own_below o3b b7 (Nat.le_refl _)
      replace oL := own_below oL b7 (Nat.le_refl _)
      replace k1 := k1.kept b7
      replace o3 := o3.below b7
      replace oM := oM.below b7
      clear b7
      clear x6
      go_wp2_with fail
      refine (toInt64S_any picks Ap cp _ hp2 (RP.more (by omega))).mono ?_
      rintro e w7b ⟨g7b, rfl, o7b, b7b⟩
      have z_11 := Below.size b7b
      replace R := R.below (b7b.mono (by omega))
      replace RP := RP.below (b7b.mono (by omega))
      replace B := B.trans (b7b.mono B.size)
      replace rl0 := rl0.below (b7b.mono (by omega))
      replace rm0 := rm0.below (b7b.mono (by omega))
      replace k0 := k0.kept b7b
      replace o3b := own_below o3b b7b (Nat.le_refl _)
      replace oL := own_below oL b7b (Nat.le_refl _)
      replace k1 := k1.kept b7b
      replace o3 := o3.below b7b
      replace oM := oM.below b7b
      clear b7b
      have y7 := Rd.of_own o7b
      clear o7b
      go_wp2_with fail
      refine (eqInt64S_same picks _ _ _ _ _ hpn (Rd.of_own o3b) y7).mono ?_
      rintro e w7c ⟨rfl, b7c⟩
      have z_12 := Below.size b7c
      replace R := R.below (b7c.mono (by omega))
      replace RP := RP.below (b7c.mono (by omega))
      replace B := B.trans (b7c.mono B.size)
      replace rl0 := rl0.below (b7c.mono (by omega))
      replace rm0 := rm0.below (b7c.mono (by omega))
      replace k0 := k0.kept b7c
      replace o3b := own_below o3b b7c (Nat.le_refl _)
      replace oL := own_below oL b7c (Nat.le_refl _)
      replace k1 := k1.kept b7c
      replace o3 := o3.below b7c
      replace oM := oM.below b7c
      clear b7c
      clear y7
      go_wp2_with fail
      have MK := markOpSS_any (w2.heap.size + 1) 1 t us3 _ _ w7c hendt ht o3
      refine MK.mono ?_
      clear MK o3
      rintro e w8 ⟨rfl, o8, sp8⟩
      clear o8
      have s8 := sp8.spared (lo := w2.heap.size + 1) (hi := w3.heap.size) (by omega) hus
      have z_s := s8.size
      replace R := R.below (s8.below.mono (by omega))
      replace RP := RP.below (s8.below.mono (by omega))
      replace rl0 := rl0.below (s8.below.mono (by omega))
      replace rm0 := rm0.below (s8.below.mono (by omega))
      replace B := B.trans (s8.below.mono (by omega))
      replace k0 := k0.below s8.below (by omega)
      replace k1 := s8.bk _ _ _ k1 (by omega)
      replace oL := s8.own _ _ _ _ _ _ oL (fun b hb => by have := (hbL b hb).1; omega)
      replace o3b := s8.own _ _ _ _ _ _ o3b (fun b hb => (o3b.lt b hb).1)
      replace oM := oM.only sp8 (fun x hx b e => by have h3 := (hus x hx b e).2; exact ⟨fun e2 => by have := (hbM _ (by simp) b e2).1; omega, fun e2 => by have := (hbM _ (by simp) b e2).1; omega, fun u hu e2 => by have := (hbM u (by simp [hu]) b e2).1; omega⟩)
      clear s8 sp8 hus
      go_wp2_with fail
      have MK := markInt64S_any w3.heap.size _ picks.length _ (endT 1 t) _ w8 hend2 o3b
      refine MK.mono ?_
      clear MK
      rintro e w8b ⟨rfl, o8b, g8b⟩
      clear o8b
      have b_ := grown_below o3b g8b (B := w3.heap.size) (by omega) (Nat.le_refl _)
      have z_g := Below.size b_
      replace R := R.below (b_.mono (by omega))
      replace RP := RP.below (b_.mono (by omega))
      replace rl0 := rl0.below (b_.mono (by omega))
      replace rm0 := rm0.below (b_.mono (by omega))
      replace B := B.trans (b_.mono (by omega))
      replace k0 := k0.grown g8b (own_apart o3b _ (.inl (by omega)))
      replace k1 := k1.grown g8b (by simp only [Value.ownBlock, ne_eq, Option.some.injEq]; omega)
      replace oL := oL.kept g8b (own_sep fun b hb e => by have e2 : g3b = b := Option.some.inj e; have h1 := (hbL b hb).1; have h2 : g3b < w3b.heap.size := hg3b.2; omega)
      replace oM := oM.only (Only.of_grown (us := [.slice (some ⟨g3b, 0, none⟩) picks.length picks.length]) g8b (by simp)) (fun x hx b e => by
        obtain rfl : x = _ := List.mem_singleton.1 hx
        have e3 : g3b = b := Option.some.inj e
        have h3 : g3b < w3b.heap.size := hg3b.2
        exact ⟨fun e2 => by have := (hbM _ (by simp) _ e2).1; omega, fun e2 => by have := (hbM _ (by simp) _ e2).1; omega, fun u hu e2 => by have := (hbM u (by simp [hu]) _ e2).1; omega⟩)
      clear b_ g8b o3b
      have q0_0 := (k1.cell 0).trans (rfl : _ = some (Value.int .i64 a))
      have q0_1 := (k1.cell 1).trans (rfl : _ = some (Value.slice B1 l.length cb1))
      have q0_2 := (k1.cell 2).trans (rfl : _ = some (Value.slice A1 m.cs.length c1))
      have q0_3 := (k1.cell 3).trans (rfl : _ = some (Value.slice Ap1 m.mem.length cp1))
      have q1_0 := (k0.cell 0).trans (rfl : _ = some (Value.int .i64 a))
      have q1_1 := (k0.cell 1).trans (rfl : _ = some (Value.slice B0 l.length cb0))
      have q1_2 := (k0.cell 2).trans (rfl : _ = some (Value.slice A0 m.cs.length c0))
      have q1_3 := (k0.cell 3).trans (rfl : _ = some (Value.slice Ap0 m.mem.length cp0))
      go_wp2_with fail
      refine (eqSimResult_same a l m _ _ _ _ _ _ _ _ _ _ _ _ _ hll h1 h2 (RdP.of_own oL) (rl0.more (by omega)) oM.rd (rm0.more (by omega))).mono ?_
      rintro e w9 ⟨rfl, b9⟩
      clear q0_0 q0_1 q0_2 q0_3 q1_0 q1_1 q1_2 q1_3
      have z_13 := Below.size b9
      replace R := R.below (b9.mono (by omega))
      replace RP := RP.below (b9.mono (by omega))
      replace B := B.trans (b9.mono B.size)
      replace rl0 := rl0.below (b9.mono (by omega))
      replace rm0 := rm0.below (b9.mono (by omega))
      replace k0 := k0.kept b9
      replace oL := own_below oL b9 (Nat.le_refl _)
      replace k1 := k1.kept b9
      replace oM := oM.below b9
      clear b9
      have q0 := (k1.cell 0).trans (rfl : _ = some (Value.int .i64 a))
      have q1 := (k1.cell 1).trans (rfl : _ = some (Value.slice B1 l.length cb1))
      have q2 := (k1.cell 2).trans (rfl : _ = some (Value.slice A1 m.cs.length c1))
      have q3 := (k1.cell 3).trans (rfl : _ = some (Value.slice Ap1 m.mem.length cp1))
      go_wp2_with fail
      have MK := markSimResult_any w3b.heap.size 1 a l.length _ m us1 B1 A1 Ap1 cb1 c1 cp1 w9 hend htm oL oM ap1
      refine MK.mono ?_
      clear MK q0 q1 q2 q3 oL oM ap1
      rintro e w10 ⟨rfl, oL2, oM2, s10⟩
      have hs10 : ∀ u ∈ (.slice B1 l.length cb1 :: .slice Ap1 m.mem.length cp1 :: us1 : List Value), ∀ b, u.ownBlock = some b → w3b.heap.size ≤ b ∧ b < w4.heap.size := fun u hu b e => by
        rcases List.mem_cons.1 hu with rfl | hu
        · exact hbL b e
        · exact hbM u (List.mem_cons_of_mem _ hu) b e
      have b_ := s10.below w3b.heap.size (by omega) (fun u hu b e => (hs10 u hu b e).1)
      have z_t := Below.size b_
      replace R := R.below (b_.mono (by omega))
      replace RP := RP.below (b_.mono (by omega))
      replace rl0 := rl0.below (b_.mono (by omega))
      replace rm0 := rm0.below (b_.mono (by omega))
      replace B := B.trans (b_.mono (by omega))
      replace k0 := k0.below b_ (by omega)
      replace k1 := s10.bk _ _ _ k1 (fun u hu e => by have := (hs10 u hu _ e).2; omega)
      have r1l := RdP.of_own oL2
      have r1m := (show OwnMac w10 _ (.slice A1 (mkMac (1 + l.length * 4) m).cs.length c1) (.slice Ap1 (mkMac (1 + l.length * 4) m).mem.length cp1) (mkMac (1 + l.length * 4) m) us1 by simp only [mkMac, mkT_length, mkC_length]; simp only [mkMac] at oM2; exact oM2).rd
      clear s10 oL2 oM2 b_ hs10 hbL hbM
      have q0_0 := (k1.cell 0).trans (rfl : _ = some (Value.int .i64 a))
      have q0_1 := (k1.cell 1).trans (rfl : _ = some (Value.slice B1 l.length cb1))
      have q0_2 := (k1.cell 2).trans (rfl : _ = some (Value.slice A1 m.cs.length c1))
      have q0_3 := (k1.cell 3).trans (rfl : _ = some (Value.slice Ap1 m.mem.length cp1))
      go_wp2_with fail
      refine (heldSimResult_marked _ 1 a l.length m B1 A1 Ap1 cb1 c1 cp1 w10 hend htm (Nat.le_refl _) r1l r1m).mono ?_
      rintro e w11 ⟨rfl, b11⟩
      clear q0_0 q0_1 q0_2 q0_3
      have z_14 := Below.size b11
      replace R := R.below (b11.mono (by omega))
      replace RP := RP.below (b11.mono (by omega))
      replace B := B.trans (b11.mono B.size)
      replace rl0 := rl0.below (b11.mono (by omega))
      replace rm0 := rm0.below (b11.mono (by omega))
      replace k0 := k0.kept b11
      replace k1 := k1.kept b11
      replace r1l := (r1l.below b11).lt
      replace r1m := (r1m.below b11).lt
      clear b11
      go_wp2_with fail
      refine (toOpSS_any t A c _ HL.out (R.more (by omega))).mono ?_
      rintro e w12 ⟨g12, rfl, x12, b12⟩
      have z_15 := Below.size b12
      replace R := R.below (b12.mono (by omega))
      replace RP := RP.below (b12.mono (by omega))
      replace B := B.trans (b12.mono B.size)
      replace rl0 := rl0.below (b12.mono (by omega))
      replace rm0 := rm0.below (b12.mono (by omega))
      replace k0 := k0.kept b12
      replace k1 := k1.kept b12
      replace r1l := (r1l.below b12).lt
      replace r1m := (r1m.below b12).lt
      clear b12
      go_wp2_with fail
      refine (toInt64S_any picks Ap cp _ hp2 (RP.more (by omega))).mono ?_
      rintro e w12b ⟨g12b, rfl, o12b, b12b⟩
      have z_16 := Below.size b12b
      replace R := R.below (b12b.mono (by omega))
      replace RP := RP.below (b12b.mono (by omega))
      replace B := B.trans (b12b.mono B.size)
      replace rl0 := rl0.below (b12b.mono (by omega))
      replace rm0 := rm0.below (b12b.mono (by omega))
      replace k0 := k0.kept b12b
      replace k1 := k1.kept b12b
      replace r1l := (r1l.below b12b).lt
      replace r1m := (r1m.below b12b).lt
      replace x12 := (x12.below b12b).lt
      clear b12b
      have y12 := Rd.of_own o12b
      clear o12b
      go_wp2_with fail
      refine (IM.out _ _ _ _ _ x12 y12).mono ?_
      rintro e w13 ⟨B2, cb2, A2, c2, Ap2, cp2, us2, rfl, oL2, oM2, ap2, b13⟩
      have z_17 := Below.size b13
      replace R := R.below (b13.mono (by omega))
      replace RP := RP.below (b13.mono (by omega))
      replace B := B.trans (b13.mono B.size)
      replace rl0 := rl0.below (b13.mono (by omega))
      replace rm0 := rm0.below (b13.mono (by omega))
      replace k0 := k0.kept b13
      replace k1 := k1.kept b13
      replace r1l := (r1l.below b13).lt
      replace r1m := (r1m.below b13).lt
      replace x12 := (x12.below b13).lt
      clear b13
      have r2l := RdP.of_own oL2
      have r2m := oM2.rd
      clear oL2 oM2 ap2 x12 y12
      have e_ := (Below.refl w13.heap.size w13).alloc (Nat.le_refl _) (Obj.cells #[Value.int .i64 a, Value.slice B2 l.length cb2, Value.slice A2 m.cs.length c2, Value.slice Ap2 m.mem.length cp2] 55)
      have zz_17 : (w13.alloc (Obj.cells #[Value.int .i64 a, Value.slice B2 l.length cb2, Value.slice A2 m.cs.length c2, Value.slice Ap2 m.mem.length cp2] 55)).heap.size = w13.heap.size + 1 := by simp
      have z_18 := Below.size e_
      replace R := R.below (e_.mono (by omega))
      replace RP := RP.below (e_.mono (by omega))
      replace B := B.trans (e_.mono B.size)
      replace rl0 := rl0.below (e_.mono (by omega))
      replace rm0 := rm0.below (e_.mono (by omega))
      replace k0 := k0.kept e_
      replace k1 := k1.kept e_
      replace r1l := (r1l.below e_).lt
      replace r1m := (r1m.below e_).lt
      replace r2l := (r2l.below e_).lt
      replace r2m := (r2m.below e_).lt
      clear e_
      have k2 := Bk.new w13 #[Value.int .i64 a, Value.slice B2 l.length cb2, Value.slice A2 m.cs.length c2, Value.slice Ap2 m.mem.length cp2] 55
      have q0_0 := (k2.cell 0).trans (rfl : _ = some (Value.int .i64 a))
      have q0_1 := (k2.cell 1).trans (rfl : _ = some (Value.slice B2 l.length cb2))
      have q0_2 := (k2.cell 2).trans (rfl : _ = some (Value.slice A2 m.cs.length c2))
      have q0_3 := (k2.cell 3).trans (rfl : _ = some (Value.slice Ap2 m.mem.length cp2))
      have q1_0 := (k0.cell 0).trans (rfl : _ = some (Value.int .i64 a))
      have q1_1 := (k0.cell 1).trans (rfl : _ = some (Value.slice B0 l.length cb0))
      have q1_2 := (k0.cell 2).trans (rfl : _ = some (Value.slice A0 m.cs.length c0))
      have q1_3 := (k0.cell 3).trans (rfl : _ = some (Value.slice Ap0 m.mem.length cp0))
      go_wp2_with fail
      refine (eqSimResult_same a l m _ _ _ _ _ _ _ _ _ _ _ _ _ hll h1 h2 r2l (rl0.more (by omega)) r2m (rm0.more (by omega))).mono ?_
      rintro e w14 ⟨rfl, b14⟩
      clear q0_0 q0_1 q0_2 q0_3 q1_0 q1_1 q1_2 q1_3
      have z_19 := Below.size b14
      replace R := R.below (b14.mono (by omega))
      replace RP := RP.below (b14.mono (by omega))
      replace B := B.trans (b14.mono B.size)
      replace rl0 := rl0.below (b14.mono (by omega))
      replace rm0 := rm0.below (b14.mono (by omega))
      replace k0 := k0.kept b14
      replace k1 := k1.kept b14
      replace r1l := (r1l.below b14).lt
      replace r1m := (r1m.below b14).lt
      replace r2l := (r2l.below b14).lt
      replace r2m := (r2m.below b14).lt
      replace k2 := k2.kept b14
      clear b14
      have q0_0 := (k1.cell 0).trans (rfl : _ = some (Value.int .i64 a))
      have q0_1 := (k1.cell 1).trans (rfl : _ = some (Value.slice B1 l.length cb1))
      have q0_2 := (k1.cell 2).trans (rfl : _ = some (Value.slice A1 m.cs.length c1))
      have q0_3 := (k1.cell 3).trans (rfl : _ = some (Value.slice Ap1 m.mem.length cp1))
      go_wp2_with fail
      refine (heldSimResult_marked _ 1 a l.length m B1 A1 Ap1 cb1 c1 cp1 w14 hend htm (Nat.le_refl _) r1l r1m).mono ?_
      rintro e w15 ⟨rfl, b15⟩
      clear q0_0 q0_1 q0_2 q0_3
      have z_20 := Below.size b15
      replace R := R.below (b15.mono (by omega))
      replace RP := RP.below (b15.mono (by omega))
      replace B := B.trans (b15.mono B.size)
      replace rl0 := rl0.below (b15.mono (by omega))
      replace rm0 := rm0.below (b15.mono (by omega))
      replace k0 := k0.kept b15
      replace k1 := k1.kept b15
      replace r1l := (r1l.below b15).lt
      replace r1m := (r1m.below b15).lt
      replace r2l := (r2l.below b15).lt
      replace r2m := (r2m.below b15).lt
      replace k2 := k2.kept b15
      clear b15
      go_wp2
      go_ret
      exact ⟨rfl, B⟩
    · go_enter Try.func11, Try.ntmps11
      go_wp2_with fail
      refine (szOpSS_not t A c 1048576 _ (by omega) (Nat.le_refl _) hn h).mono ?_
      rintro e w' ⟨rfl, rfl⟩
      go_wp2
      go_ret
      exact ⟨rfl, Below.refl _ _⟩
  · have q1 : (1048576 : Int) < (picks.length : Int) := by omega
    go_enter Try.func11, Try.ntmps11
    go_wp2
    go_ret
    exact ⟨rfl, Below.refl _ _⟩
end Go.Proofs.Ytifijhfeeammkaa
