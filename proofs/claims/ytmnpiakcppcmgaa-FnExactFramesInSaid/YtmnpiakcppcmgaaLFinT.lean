/- The walk of the exact law of FramesIn, by the contract of the program's own (FinI). -/
import Derived.Test.YtmnpiakcppcmgaaFinI
import Derived.Test.YtmnpiakcppcmgaaTrM
namespace Go.Proofs.Ytmnpiakcppcmgaa
open Go.RowKit

set_option maxRecDepth 100000 in
set_option maxHeartbeats 1600000 in
theorem FnExactFramesIn_walk (t : List (List Ev)) (A : Option Addr) (c : Nat) (z : Int) (w : World)
    (hl : t.length ≤ c) (hc : c ≤ maxLen) (h : RdT w w.heap.size A t) :
    Calls Try.prog 3 #[.slice A t.length c, .int .i64 z] w fun e w' => e = .returned (.bool true) ∧ Below w.heap.size w w' := by
  have hn : t.length ≤ maxLen := by omega
  unfold maxLen at hc
  by_cases hS : t.length + sumT t ≤ 1048576
  · have hL := LenT.of_sum hS
    obtain ⟨a, ha⟩ : ∃ a, a = fcC t z := ⟨_, rfl⟩
    obtain ⟨b, hb⟩ : ∃ b, b = fcN t z := ⟨_, rfl⟩
    have SP := hide (fun A c w => specFin_any t z A c w hn)
    have IM := hide (fun A c w h => implFin_any t z A c w hn h)
    rw [← ha, ← hb] at SP IM
    have HL := hide hL
    clear ha hb hL
    go_enter Try.func3, Try.ntmps3
    go_wp2_with fail
    refine (szEventSS_fit t A c 1048576 _ hS (Nat.le_refl _) h).mono ?_
    rintro e w' ⟨rfl, rfl⟩
    go_wp2_with fail
    refine (toEventSS_any t A c _ HL.out h).mono ?_
    rintro e w1 ⟨g1, rfl, x1, B⟩
    have R := h.below B
    have zB := B.size
    go_wp2_with fail
    refine (SP.out _ _ _ x1).mono ?_
    rintro e w2 ⟨rfl, b2⟩
    have z_1 := Below.size b2
    replace R := R.below (b2.mono (by omega))
    replace B := B.trans (b2.mono B.size)
    clear b2
    clear x1
    have e_ := (Below.refl w2.heap.size w2).alloc (Nat.le_refl _) (Obj.cells #[Value.int .i64 a, .int .i64 b] 25)
    have zz_1 : (w2.alloc (Obj.cells #[Value.int .i64 a, .int .i64 b] 25)).heap.size = w2.heap.size + 1 := by simp
    have z_2 := Below.size e_
    replace R := R.below (e_.mono (by omega))
    replace B := B.trans (e_.mono B.size)
    clear e_
    have k0 := Bk.new w2 #[Value.int .i64 a, .int .i64 b] 25
    have qK := k0.cell
    go_wp2_with fail
    clear qK
    refine (toEventSS_any t A c _ HL.out (R.more (by omega))).mono ?_
    rintro e w3 ⟨g3, rfl, x3, b3⟩
    have z_3 := Below.size b3
    replace R := R.below (b3.mono (by omega))
    replace B := B.trans (b3.mono B.size)
    replace k0 := k0.kept b3
    clear b3
    go_wp2_with fail
    refine (IM.out _ _ _ x3).mono ?_
    rintro e w4 ⟨rfl, b4⟩
    have z_4 := Below.size b4
    replace R := R.below (b4.mono (by omega))
    replace B := B.trans (b4.mono B.size)
    replace k0 := k0.kept b4
    replace x3 := (x3.below b4).lt
    clear b4
    have e_ := (Below.refl w4.heap.size w4).alloc (Nat.le_refl _) (Obj.cells #[Value.int .i64 a, .int .i64 b] 25)
    have zz_4 : (w4.alloc (Obj.cells #[Value.int .i64 a, .int .i64 b] 25)).heap.size = w4.heap.size + 1 := by simp
    have z_5 := Below.size e_
    replace R := R.below (e_.mono (by omega))
    replace B := B.trans (e_.mono B.size)
    replace k0 := k0.kept e_
    replace x3 := (x3.below e_).lt
    clear e_
    have k1 := Bk.new w4 #[Value.int .i64 a, .int .i64 b] 25
    have q_k0 := k0.cell
    have q_k1 := k1.cell
    go_wp2_with fail
    refine (eqIntResult_same a b _).mono ?_
    rintro e w5 ⟨rfl, b5⟩
    clear q_k0 q_k1
    have z_6 := Below.size b5
    replace R := R.below (b5.mono (by omega))
    replace B := B.trans (b5.mono B.size)
    replace k0 := k0.kept b5
    replace x3 := (x3.below b5).lt
    replace k1 := k1.kept b5
    clear b5
    go_wp2_with fail
    refine (toEventSS_any t A c _ HL.out (R.more (by omega))).mono ?_
    rintro e w6 ⟨g6, rfl, x6, b6⟩
    have z_7 := Below.size b6
    replace R := R.below (b6.mono (by omega))
    replace B := B.trans (b6.mono B.size)
    replace k0 := k0.kept b6
    replace x3 := (x3.below b6).lt
    replace k1 := k1.kept b6
    clear b6
    go_wp2_with fail
    refine (eqEventSS_same t _ _ _ _ _ hn x3 x6).mono ?_
    rintro e w7 ⟨rfl, b7⟩
    have z_8 := Below.size b7
    replace R := R.below (b7.mono (by omega))
    replace B := B.trans (b7.mono B.size)
    replace k0 := k0.kept b7
    replace x3 := (x3.below b7).lt
    replace k1 := k1.kept b7
    clear b7
    go_wp2
    go_ret
    exact ⟨rfl, B⟩
  · go_enter Try.func3, Try.ntmps3
    go_wp2_with fail
    refine (szEventSS_not t A c 1048576 _ (by omega) (Nat.le_refl _) hn h).mono ?_
    rintro e w' ⟨rfl, rfl⟩
    go_wp2
    go_ret
    exact ⟨rfl, Below.refl _ _⟩
end Go.Proofs.Ytmnpiakcppcmgaa
