/- What the laws' walks rest upon, part 10. -/
import Derived.Test.YtnnfkmjhaljplaaGreatDoorM09
namespace Go.Proofs.YtnnfkmjhaljplaaGreatDoor
open Go.RowKit
set_option maxRecDepth 100000 in
set_option maxHeartbeats 1600000 in
theorem readEvent_codes (d : List Int) (g : Nat) (A : Option Addr) (c : Nat) (w : World) (p C1 V C2 U M C3 D : Int) (Z : Nat) (n2 : List Int) (h : Rd .u8 w w.heap.size A d) (hgv : Bk w g #[.int .i64 p] 2)
    (hV0 : 0 ≤ V) (hV1 : V ≤ 9223372036854775807) (hcR : Rd .u8 w w.heap.size (cutA A Z c) n2)
    (RC1 : Hid (∀ W, Rd .u8 W W.heap.size A d → Calls Tryz.prog 276 #[.slice A d.length c] W fun e w' => e = .returned (.agg #[.int .i64 C1, .int .i64 V, .int .i64 Z]) ∧ Below W.heap.size W w'))
    (RC2 : Hid (∀ W, Rd .u8 W W.heap.size (cutA A Z c) n2 → Calls Tryz.prog 276 #[.slice (cutA A Z c) (d.length - Z) (c - Z)] W fun e w' => e = .returned (.agg #[.int .i64 C2, .int .i64 U, .int .i64 M]) ∧ Below W.heap.size W w'))
    (ZC : Hid (∀ W, Calls Tryz.prog 303 #[.int .i64 (V / 2)] W fun e w' => e = .returned (.agg #[.int .i64 C3, .int .i64 D]) ∧ Below W.heap.size W w'))
    (CUT : Hid (∀ W, (Instr.slice 22 (.slice A d.length c) (some (.int .i64 (Z : Int))) none none).run Tryz.prog W = .ok (.slice (cutA A Z c) (d.length - Z) (c - Z)) W))
    (hbad : C1 ≠ 0 ∨ C2 ≠ 0 ∨ C3 ≠ 0) :
    Calls Tryz.prog 278 #[.slice A d.length c, .func (.func 302) #[] #[.pointer (some ⟨g, 0, none⟩)]] w fun e w' =>
      e = .returned (.tuple #[evV 0 0 0, .int .i64 0]) ∧ w.grownBy w' (some g) := by
  by_cases h1 : C1 = 0
  · subst h1
    by_cases h2 : C2 = 0
    · subst h2
      have h3 : C3 ≠ 0 := by omega
      have t3 : (C3 != 0) = true := bne_iff_ne.2 h3
      have t3' : (C3 == 0) = false := beq_eq_false_iff_ne.2 h3
      clear hbad h3
      obtain ⟨W, hW⟩ : ∃ W, W = w.alloc (Obj.cells #[Value.int .i64 0, .int .i64 0, .int .i64 0] 48) := ⟨_, rfl⟩
      have HW := hide hW
      have kr : Bk W w.heap.size #[.int .i64 0, .int .i64 0, .int .i64 0] 48 := by rw [hW]; exact Bk.new _ _ _
      have kg : Bk W g #[.int .i64 p] 2 := by rw [hW]; exact hgv.alloc _
      have hB : Below w.heap.size w W := by rw [hW]; exact (Below.refl _ _).alloc (Nat.le_refl _) _
      have hgl := hgv.lt
      clear hW
      go_enter Tryz.func278, Tryz.ntmps278
      go_wp2_with fail
      rw [← HW.out]
      refine (RC1.out _ (h.below hB).lt).mono ?_
      rintro e w1 ⟨rfl, b1⟩
      have k1 := Bk.new w1 #[.int .i64 0, .int .i64 V, .int .i64 Z] 378
      have hB1 := (hB.trans (b1.mono hB.size)).alloc (by have := hB.size; have := b1.size; omega) (.cells #[.int .i64 0, .int .i64 V, .int .i64 Z] 378)
      have kr := (kr.kept b1).alloc (.cells #[.int .i64 0, .int .i64 V, .int .i64 Z] 378)
      have kg := (kg.kept b1).alloc (.cells #[.int .i64 0, .int .i64 V, .int .i64 Z] 378)
      have c10 : (w1.alloc (.cells #[.int .i64 0, .int .i64 V, .int .i64 Z] 378)).cell? ⟨w1.heap.size, 2, none⟩ = some (.int .i64 Z) := (k1.cell 2).trans rfl
      have cut := CUT.out (w1.alloc (.cells #[.int .i64 0, .int .i64 V, .int .i64 Z] 378))
      go_wp2_with fail
      refine (RC2.out _ (hcR.below hB1).lt).mono ?_
      rintro e w2 ⟨rfl, b2⟩
      have hB2 : Below w.heap.size w w2 := hB1.trans (b2.mono hB1.size)
      have k1 := (k1.kept b2).alloc (.cells #[.int .i64 0, .int .i64 U, .int .i64 M] 378)
      have kr := (kr.kept b2).alloc (.cells #[.int .i64 0, .int .i64 U, .int .i64 M] 378)
      have kg := (kg.kept b2).alloc (.cells #[.int .i64 0, .int .i64 U, .int .i64 M] 378)
      have k2 := Bk.new w2 #[.int .i64 0, .int .i64 U, .int .i64 M] 378
      have hB2' := hB2.alloc hB2.size (.cells #[.int .i64 0, .int .i64 U, .int .i64 M] 378)
      have c11 : (w2.alloc (.cells #[.int .i64 0, .int .i64 U, .int .i64 M] 378)).cell? ⟨w1.heap.size, 1, none⟩ = some (.int .i64 V) := (k1.cell 1).trans rfl
      have z12 : w1.heap.size < w2.heap.size := by have := b2.size; simp at this; omega
      have z01 : w.heap.size < w1.heap.size := by have := b1.size; rw [W_size HW.out] at this; omega
      clear b1 b2 c10 cut hB hB1
      go_wp2_with fail
      refine (ZC.out _).mono ?_
      rintro e w3 ⟨rfl, b3⟩
      have hB3 : Below w.heap.size w w3 := hB2'.trans (b3.mono hB2'.size)
      have z23 : w2.heap.size < w3.heap.size := by have := b3.size; simp at this; omega
      have k1 := (k1.kept b3).alloc (.cells #[.int .i64 C3, .int .i64 D] 250)
      have kr := (kr.kept b3).alloc (.cells #[.int .i64 C3, .int .i64 D] 250)
      have kg := (kg.kept b3).alloc (.cells #[.int .i64 C3, .int .i64 D] 250)
      have k2 := (k2.kept b3).alloc (.cells #[.int .i64 C3, .int .i64 D] 250)
      have k3 := Bk.new w3 #[.int .i64 C3, .int .i64 D] 250
      have hB3' := hB3.alloc hB3.size (.cells #[.int .i64 C3, .int .i64 D] 250)
      have c10 : (w3.alloc (.cells #[.int .i64 C3, .int .i64 D] 250)).cell? ⟨w1.heap.size, 0, none⟩ = some (.int .i64 0) := (k1.cell 0).trans rfl
      have c20 : (w3.alloc (.cells #[.int .i64 C3, .int .i64 D] 250)).cell? ⟨w2.heap.size, 0, none⟩ = some (.int .i64 0) := (k2.cell 0).trans rfl
      clear b3 c11 hB2 hB2' hB3 k1 k2 k3
      have X3 := hide hB3'
      have r0 := (kr.cell 0).trans (rfl : _ = some (Value.int .i64 0))
      have r1 := (kr.cell 1).trans (rfl : _ = some (Value.int .i64 0))
      have r2 := (kr.cell 2).trans (rfl : _ = some (Value.int .i64 0))
      have f0 := kr.frozen 0
      have f1 := kr.frozen 1
      have f2 := kr.frozen 2
      clear kr kg hB3'
      go_wp2
      refine bodyPost_ret (v := .tuple #[evV 0 0 0, .int .i64 0]) (by simp [results, Tryz.results278, go_sem, r0, r1, r2]) rfl ?_
      exact ⟨rfl, grown_new (Nat.le_refl _) _ (grown_new (Nat.le_refl _) _ (grown_new (Nat.le_refl _) _ (grown_of_below (some g) X3.out)))⟩
    · have t2 : (C2 != 0) = true := bne_iff_ne.2 h2
      have t2' : (C2 == 0) = false := beq_eq_false_iff_ne.2 h2
      clear hbad h2
      obtain ⟨W, hW⟩ : ∃ W, W = w.alloc (Obj.cells #[Value.int .i64 0, .int .i64 0, .int .i64 0] 48) := ⟨_, rfl⟩
      have HW := hide hW
      have kr : Bk W w.heap.size #[.int .i64 0, .int .i64 0, .int .i64 0] 48 := by rw [hW]; exact Bk.new _ _ _
      have kg : Bk W g #[.int .i64 p] 2 := by rw [hW]; exact hgv.alloc _
      have hB : Below w.heap.size w W := by rw [hW]; exact (Below.refl _ _).alloc (Nat.le_refl _) _
      have hgl := hgv.lt
      clear hW
      go_enter Tryz.func278, Tryz.ntmps278
      go_wp2_with fail
      rw [← HW.out]
      refine (RC1.out _ (h.below hB).lt).mono ?_
      rintro e w1 ⟨rfl, b1⟩
      have k1 := Bk.new w1 #[.int .i64 0, .int .i64 V, .int .i64 Z] 378
      have hB1 := (hB.trans (b1.mono hB.size)).alloc (by have := hB.size; have := b1.size; omega) (.cells #[.int .i64 0, .int .i64 V, .int .i64 Z] 378)
      have kr := (kr.kept b1).alloc (.cells #[.int .i64 0, .int .i64 V, .int .i64 Z] 378)
      have kg := (kg.kept b1).alloc (.cells #[.int .i64 0, .int .i64 V, .int .i64 Z] 378)
      have c10 : (w1.alloc (.cells #[.int .i64 0, .int .i64 V, .int .i64 Z] 378)).cell? ⟨w1.heap.size, 2, none⟩ = some (.int .i64 Z) := (k1.cell 2).trans rfl
      have cut := CUT.out (w1.alloc (.cells #[.int .i64 0, .int .i64 V, .int .i64 Z] 378))
      go_wp2_with fail
      refine (RC2.out _ (hcR.below hB1).lt).mono ?_
      rintro e w2 ⟨rfl, b2⟩
      have hB2 : Below w.heap.size w w2 := hB1.trans (b2.mono hB1.size)
      have k1 := (k1.kept b2).alloc (.cells #[.int .i64 C2, .int .i64 U, .int .i64 M] 378)
      have kr := (kr.kept b2).alloc (.cells #[.int .i64 C2, .int .i64 U, .int .i64 M] 378)
      have kg := (kg.kept b2).alloc (.cells #[.int .i64 C2, .int .i64 U, .int .i64 M] 378)
      have k2 := Bk.new w2 #[.int .i64 C2, .int .i64 U, .int .i64 M] 378
      have hB2' := hB2.alloc hB2.size (.cells #[.int .i64 C2, .int .i64 U, .int .i64 M] 378)
      have c11 : (w2.alloc (.cells #[.int .i64 C2, .int .i64 U, .int .i64 M] 378)).cell? ⟨w1.heap.size, 1, none⟩ = some (.int .i64 V) := (k1.cell 1).trans rfl
      have z12 : w1.heap.size < w2.heap.size := by have := b2.size; simp at this; omega
      have z01 : w.heap.size < w1.heap.size := by have := b1.size; rw [W_size HW.out] at this; omega
      clear b1 b2 c10 cut hB hB1
      go_wp2_with fail
      refine (ZC.out _).mono ?_
      rintro e w3 ⟨rfl, b3⟩
      have hB3 : Below w.heap.size w w3 := hB2'.trans (b3.mono hB2'.size)
      have z23 : w2.heap.size < w3.heap.size := by have := b3.size; simp at this; omega
      have k1 := (k1.kept b3).alloc (.cells #[.int .i64 C3, .int .i64 D] 250)
      have kr := (kr.kept b3).alloc (.cells #[.int .i64 C3, .int .i64 D] 250)
      have kg := (kg.kept b3).alloc (.cells #[.int .i64 C3, .int .i64 D] 250)
      have k2 := (k2.kept b3).alloc (.cells #[.int .i64 C3, .int .i64 D] 250)
      have k3 := Bk.new w3 #[.int .i64 C3, .int .i64 D] 250
      have hB3' := hB3.alloc hB3.size (.cells #[.int .i64 C3, .int .i64 D] 250)
      have c10 : (w3.alloc (.cells #[.int .i64 C3, .int .i64 D] 250)).cell? ⟨w1.heap.size, 0, none⟩ = some (.int .i64 0) := (k1.cell 0).trans rfl
      have c20 : (w3.alloc (.cells #[.int .i64 C3, .int .i64 D] 250)).cell? ⟨w2.heap.size, 0, none⟩ = some (.int .i64 C2) := (k2.cell 0).trans rfl
      clear b3 c11 hB2 hB2' hB3 k1 k2 k3
      have X3 := hide hB3'
      have r0 := (kr.cell 0).trans (rfl : _ = some (Value.int .i64 0))
      have r1 := (kr.cell 1).trans (rfl : _ = some (Value.int .i64 0))
      have r2 := (kr.cell 2).trans (rfl : _ = some (Value.int .i64 0))
      have f0 := kr.frozen 0
      have f1 := kr.frozen 1
      have f2 := kr.frozen 2
      clear kr kg hB3'
      go_wp2
      refine bodyPost_ret (v := .tuple #[evV 0 0 0, .int .i64 0]) (by simp [results, Tryz.results278, go_sem, r0, r1, r2]) rfl ?_
      exact ⟨rfl, grown_new (Nat.le_refl _) _ (grown_new (Nat.le_refl _) _ (grown_new (Nat.le_refl _) _ (grown_of_below (some g) X3.out)))⟩
  · have t1 : (C1 != 0) = true := bne_iff_ne.2 h1
    have t1' : (C1 == 0) = false := beq_eq_false_iff_ne.2 h1
    clear hbad h1
    obtain ⟨W, hW⟩ : ∃ W, W = w.alloc (Obj.cells #[Value.int .i64 0, .int .i64 0, .int .i64 0] 48) := ⟨_, rfl⟩
    have HW := hide hW
    have kr : Bk W w.heap.size #[.int .i64 0, .int .i64 0, .int .i64 0] 48 := by rw [hW]; exact Bk.new _ _ _
    have kg : Bk W g #[.int .i64 p] 2 := by rw [hW]; exact hgv.alloc _
    have hB : Below w.heap.size w W := by rw [hW]; exact (Below.refl _ _).alloc (Nat.le_refl _) _
    have hgl := hgv.lt
    clear hW
    go_enter Tryz.func278, Tryz.ntmps278
    go_wp2_with fail
    rw [← HW.out]
    refine (RC1.out _ (h.below hB).lt).mono ?_
    rintro e w1 ⟨rfl, b1⟩
    have k1 := Bk.new w1 #[.int .i64 C1, .int .i64 V, .int .i64 Z] 378
    have hB1 := (hB.trans (b1.mono hB.size)).alloc (by have := hB.size; have := b1.size; omega) (.cells #[.int .i64 C1, .int .i64 V, .int .i64 Z] 378)
    have kr := (kr.kept b1).alloc (.cells #[.int .i64 C1, .int .i64 V, .int .i64 Z] 378)
    have kg := (kg.kept b1).alloc (.cells #[.int .i64 C1, .int .i64 V, .int .i64 Z] 378)
    have c10 : (w1.alloc (.cells #[.int .i64 C1, .int .i64 V, .int .i64 Z] 378)).cell? ⟨w1.heap.size, 2, none⟩ = some (.int .i64 Z) := (k1.cell 2).trans rfl
    have cut := CUT.out (w1.alloc (.cells #[.int .i64 C1, .int .i64 V, .int .i64 Z] 378))
    go_wp2_with fail
    refine (RC2.out _ (hcR.below hB1).lt).mono ?_
    rintro e w2 ⟨rfl, b2⟩
    have hB2 : Below w.heap.size w w2 := hB1.trans (b2.mono hB1.size)
    have k1 := (k1.kept b2).alloc (.cells #[.int .i64 C2, .int .i64 U, .int .i64 M] 378)
    have kr := (kr.kept b2).alloc (.cells #[.int .i64 C2, .int .i64 U, .int .i64 M] 378)
    have kg := (kg.kept b2).alloc (.cells #[.int .i64 C2, .int .i64 U, .int .i64 M] 378)
    have k2 := Bk.new w2 #[.int .i64 C2, .int .i64 U, .int .i64 M] 378
    have hB2' := hB2.alloc hB2.size (.cells #[.int .i64 C2, .int .i64 U, .int .i64 M] 378)
    have c11 : (w2.alloc (.cells #[.int .i64 C2, .int .i64 U, .int .i64 M] 378)).cell? ⟨w1.heap.size, 1, none⟩ = some (.int .i64 V) := (k1.cell 1).trans rfl
    have z12 : w1.heap.size < w2.heap.size := by have := b2.size; simp at this; omega
    have z01 : w.heap.size < w1.heap.size := by have := b1.size; rw [W_size HW.out] at this; omega
    clear b1 b2 c10 cut hB hB1
    go_wp2_with fail
    refine (ZC.out _).mono ?_
    rintro e w3 ⟨rfl, b3⟩
    have hB3 : Below w.heap.size w w3 := hB2'.trans (b3.mono hB2'.size)
    have z23 : w2.heap.size < w3.heap.size := by have := b3.size; simp at this; omega
    have k1 := (k1.kept b3).alloc (.cells #[.int .i64 C3, .int .i64 D] 250)
    have kr := (kr.kept b3).alloc (.cells #[.int .i64 C3, .int .i64 D] 250)
    have kg := (kg.kept b3).alloc (.cells #[.int .i64 C3, .int .i64 D] 250)
    have k2 := (k2.kept b3).alloc (.cells #[.int .i64 C3, .int .i64 D] 250)
    have k3 := Bk.new w3 #[.int .i64 C3, .int .i64 D] 250
    have hB3' := hB3.alloc hB3.size (.cells #[.int .i64 C3, .int .i64 D] 250)
    have c10 : (w3.alloc (.cells #[.int .i64 C3, .int .i64 D] 250)).cell? ⟨w1.heap.size, 0, none⟩ = some (.int .i64 C1) := (k1.cell 0).trans rfl
    have c20 : (w3.alloc (.cells #[.int .i64 C3, .int .i64 D] 250)).cell? ⟨w2.heap.size, 0, none⟩ = some (.int .i64 C2) := (k2.cell 0).trans rfl
    clear b3 c11 hB2 hB2' hB3 k1 k2 k3
    have X3 := hide hB3'
    have r0 := (kr.cell 0).trans (rfl : _ = some (Value.int .i64 0))
    have r1 := (kr.cell 1).trans (rfl : _ = some (Value.int .i64 0))
    have r2 := (kr.cell 2).trans (rfl : _ = some (Value.int .i64 0))
    have f0 := kr.frozen 0
    have f1 := kr.frozen 1
    have f2 := kr.frozen 2
    clear kr kg hB3'
    go_wp2
    refine bodyPost_ret (v := .tuple #[evV 0 0 0, .int .i64 0]) (by simp [results, Tryz.results278, go_sem, r0, r1, r2]) rfl ?_
    exact ⟨rfl, grown_new (Nat.le_refl _) _ (grown_new (Nat.le_refl _) _ (grown_new (Nat.le_refl _) _ (grown_of_below (some g) X3.out)))⟩
set_option maxRecDepth 100000 in
set_option maxHeartbeats 1600000 in
theorem readEvent_fault (d : List Int) (p : Int) (g : Nat) (A : Option Addr) (c : Nat) (w : World) (hm : d.length ≤ 1048576) (hc : d.length ≤ c) (h : Rd .u8 w w.heap.size A d) (b8 : B8 d) (hp : 0 ≤ p ∧ p ≤ 999999) (hgv : Bk w g #[.int .i64 p] 2) (hc1 : rdC d = 0) (hc2 : rdC (nextV d) = 0) (hc3 : zagC (rdV d / 2) = 0) (hf : ¬ evF (evAt d p) = 0) :
    Calls Tryz.prog 278 #[.slice A d.length c, .func (.func 302) #[] #[.pointer (some ⟨g, 0, none⟩)]] w fun e w' =>
      e = .returned (.tuple #[evV 0 0 0, .int .i64 0]) ∧ w.grownBy w' (some g) := by
  have rb1 := rd_back b8 hc1
  have rb2 := rd_back (l := nextV d) (b8.drop _) hc2
  have hnl := nextV_len b8 hc1
  obtain ⟨V, hV⟩ : ∃ V, V = rdV d := ⟨_, rfl⟩
  obtain ⟨Z, hZ⟩ : ∃ Z : Nat, rdZ d = Z := ⟨(rdZ d).toNat, by omega⟩
  have hn : nextV d = d.drop Z := by unfold nextV; rw [hZ, Int.toNat_natCast]
  obtain ⟨U, hU⟩ : ∃ U, U = rdV (nextV d) := ⟨_, rfl⟩
  obtain ⟨M, hM⟩ : ∃ M : Nat, rdZ (nextV d) = M := ⟨(rdZ (nextV d)).toNat, by omega⟩
  have hzn : 0 ≤ V / 2 ∧ V / 2 ≤ 2000000000000 := by
    by_cases hh : 0 ≤ V / 2 ∧ V / 2 ≤ 2000000000000
    · exact hh
    · rw [← hV, (zag_out hh).1] at hc3; omega
  obtain ⟨D, hD⟩ : ∃ D, D = zagI (V / 2) := ⟨_, rfl⟩
  have hDi := zagI_in hzn
  rw [← hD] at hDi
  have RC1 := hide (fun W hW => implRead_any d A c W hm hc hW b8)
  have RC2 := hide (fun W hW => implRead_any (nextV d) (cutA A Z c) (c - Z) W (by omega) (by rw [hZ] at hnl; omega) hW (b8.drop _))
  have ZC := hide (fun W => implZag_any (V / 2) W (by omega))
  have hlen : (nextV d).length = d.length - Z := by rw [hnl.1, hZ]; rfl
  rw [hc1, ← hV, hZ] at RC1
  rw [hc2, ← hU, hM, hlen] at RC2
  rw [(zag_in hzn).1, (zag_in hzn).2, ← hD] at ZC
  have hZ2 : Z ≤ d.length := by omega
  have CUT := hide (fun W => run_cut A d.length Z c (Z : Int) W rfl hZ2)
  have hcR : Rd .u8 w w.heap.size (cutA A Z c) (nextV d) := by rw [hn]; exact h.cut hZ2 hc
  have hat : evAt d p = ⟨V % 2, p + D, U⟩ := by unfold evAt; rw [← hV, ← hU, ← hD]
  have EF := hide (fun W => implEvF_any (V % 2) (p + D) U W)
  obtain ⟨F, hF⟩ : ∃ F, F = evF ⟨V % 2, p + D, U⟩ := ⟨_, rfl⟩
  rw [hat, ← hF] at hf
  rw [← hF] at EF
  have t1 : (F != 0) = true := bne_iff_ne.2 hf
  have t2 : (F == 0) = false := beq_eq_false_iff_ne.2 hf
  have hV0 : 0 ≤ V := by omega
  have hV1 : V ≤ 9223372036854775807 := by omega
  clear hV hZ hn hU hM hc1 hc2 hc3 hf hD hat hF rb1 rb2 hnl hlen
  obtain ⟨W, hW⟩ : ∃ W, W = w.alloc (Obj.cells #[Value.int .i64 0, .int .i64 0, .int .i64 0] 48) := ⟨_, rfl⟩
  have HW := hide hW
  have kr : Bk W w.heap.size #[.int .i64 0, .int .i64 0, .int .i64 0] 48 := by rw [hW]; exact Bk.new _ _ _
  have kg : Bk W g #[.int .i64 p] 2 := by rw [hW]; exact hgv.alloc _
  have hB : Below w.heap.size w W := by rw [hW]; exact (Below.refl _ _).alloc (Nat.le_refl _) _
  have hgl := hgv.lt
  clear hW
  go_enter Tryz.func278, Tryz.ntmps278
  go_wp2_with fail
  rw [← HW.out]
  refine (RC1.out _ (h.below hB).lt).mono ?_
  rintro e w1 ⟨rfl, b1⟩
  have k1 := Bk.new w1 #[.int .i64 0, .int .i64 V, .int .i64 Z] 378
  have hB1 := (hB.trans (b1.mono hB.size)).alloc (by have := hB.size; have := b1.size; omega) (.cells #[.int .i64 0, .int .i64 V, .int .i64 Z] 378)
  have kr := (kr.kept b1).alloc (.cells #[.int .i64 0, .int .i64 V, .int .i64 Z] 378)
  have kg := (kg.kept b1).alloc (.cells #[.int .i64 0, .int .i64 V, .int .i64 Z] 378)
  have c10 : (w1.alloc (.cells #[.int .i64 0, .int .i64 V, .int .i64 Z] 378)).cell? ⟨w1.heap.size, 2, none⟩ = some (.int .i64 Z) := (k1.cell 2).trans rfl
  have cut := CUT.out (w1.alloc (.cells #[.int .i64 0, .int .i64 V, .int .i64 Z] 378))
  go_wp2_with fail
  refine (RC2.out _ (hcR.below hB1).lt).mono ?_
  rintro e w2 ⟨rfl, b2⟩
  have hB2 : Below w.heap.size w w2 := hB1.trans (b2.mono hB1.size)
  have k1 := (k1.kept b2).alloc (.cells #[.int .i64 0, .int .i64 U, .int .i64 M] 378)
  have kr := (kr.kept b2).alloc (.cells #[.int .i64 0, .int .i64 U, .int .i64 M] 378)
  have kg := (kg.kept b2).alloc (.cells #[.int .i64 0, .int .i64 U, .int .i64 M] 378)
  have k2 := Bk.new w2 #[.int .i64 0, .int .i64 U, .int .i64 M] 378
  have hB2' := hB2.alloc hB2.size (.cells #[.int .i64 0, .int .i64 U, .int .i64 M] 378)
  have c11 : (w2.alloc (.cells #[.int .i64 0, .int .i64 U, .int .i64 M] 378)).cell? ⟨w1.heap.size, 1, none⟩ = some (.int .i64 V) := (k1.cell 1).trans rfl
  have z12 : w1.heap.size < w2.heap.size := by have := b2.size; simp at this; omega
  have z01 : w.heap.size < w1.heap.size := by have := b1.size; rw [W_size HW.out] at this; omega
  clear b1 b2 c10 cut hB hB1
  go_wp2_with fail
  refine (ZC.out _).mono ?_
  rintro e w3 ⟨rfl, b3⟩
  have hB3 : Below w.heap.size w w3 := hB2'.trans (b3.mono hB2'.size)
  have z23 : w2.heap.size < w3.heap.size := by have := b3.size; simp at this; omega
  have k1 := (k1.kept b3).alloc (.cells #[.int .i64 0, .int .i64 D] 250)
  have kr := (kr.kept b3).alloc (.cells #[.int .i64 0, .int .i64 D] 250)
  have kg := (kg.kept b3).alloc (.cells #[.int .i64 0, .int .i64 D] 250)
  have k2 := (k2.kept b3).alloc (.cells #[.int .i64 0, .int .i64 D] 250)
  have k3 := Bk.new w3 #[.int .i64 0, .int .i64 D] 250
  have hB3' := hB3.alloc hB3.size (.cells #[.int .i64 0, .int .i64 D] 250)
  have c10 : (w3.alloc (.cells #[.int .i64 0, .int .i64 D] 250)).cell? ⟨w1.heap.size, 0, none⟩ = some (.int .i64 0) := (k1.cell 0).trans rfl
  have c20 : (w3.alloc (.cells #[.int .i64 0, .int .i64 D] 250)).cell? ⟨w2.heap.size, 0, none⟩ = some (.int .i64 0) := (k2.cell 0).trans rfl
  clear b3 c11 hB2 hB2' hB3
  go_wp2_with fail
  obtain ⟨h1, hh1⟩ : ∃ n, n = w1.heap.size := ⟨_, rfl⟩
  obtain ⟨h2, hh2⟩ : ∃ n, n = w2.heap.size := ⟨_, rfl⟩
  obtain ⟨h3, hh3⟩ : ∃ n, n = w3.heap.size := ⟨_, rfl⟩
  rw [← hh1, ← hh2, ← hh3]
  rw [← hh1] at k1 z12 z01
  rw [← hh2] at k2 z12 z23
  rw [← hh3] at k3 z23
  generalize hX : w3.alloc (.cells #[.int .i64 0, .int .i64 D] 250) = X at *
  clear hX hh1 hh2 hh3 c10 c20
  have t0 : V.tmod 2 = V % 2 := Int.tmod_eq_emod_of_nonneg hV0
  have SC := hide (fun W hW => sum_any D p g W (by omega) (by omega) hW)
  go_cut [9] (fun s9 wx => ∃ q, s9 = .pointer (some ⟨q, 0, none⟩) ∧ EvAtCut w g h1 h2 q 0 V Z 0 U M (V % 2) (p + D) wx)
  case first =>
    have c0 : X.cell? ⟨h1, 1, none⟩ = some (.int .i64 V) := (k1.cell 1).trans rfl
    have c1 : X.cell? ⟨h3, 1, none⟩ = some (.int .i64 D) := (k3.cell 1).trans rfl
    have c2 : X.cell? ⟨h2, 1, none⟩ = some (.int .i64 U) := (k2.cell 1).trans rfl
    have hgx := kg.lt
    have hsz : (X.setCell ⟨g, 0, none⟩ (.int .i64 (p + D))).heap.size = X.heap.size := by simp
    have n0 : w.heap.size ≠ (⟨g, 0, none⟩ : Addr).block := by simp only; omega
    have hEv := Bk.new (X.setCell ⟨g, 0, none⟩ (.int .i64 (p + D))) #[.int .i64 (V % 2), .int .i64 (p + D), .int .i64 U] 48
    rw [hsz] at hEv
    have EV : EvAtCut w g h1 h2 X.heap.size 0 V Z 0 U M (V % 2) (p + D) ((X.setCell ⟨g, 0, none⟩ (.int .i64 (p + D))).alloc (.cells #[.int .i64 (V % 2), .int .i64 (p + D), .int .i64 U] 48)).drew :=
      ⟨hEv, grown_drewN (((grown_of_below (some g) hB3').trans (grown_set X g 0 _)).trans (World.grownBy_alloc _ _ _)) 1, (kg.set_ 0 _).alloc _, (kr.far (p := ⟨g, 0, none⟩) n0 _).alloc _, (k1.far (p := ⟨g, 0, none⟩) (by simp only; omega) _).alloc _, (k2.far (p := ⟨g, 0, none⟩) (by simp only; omega) _).alloc _⟩
    clear hEv hsz n0
    have hgx' : ¬ X.heap.size = g := by omega
    have hgx2 : ¬ g = X.heap.size := by omega
    have n1 : h1 ≠ (⟨g, 0, none⟩ : Addr).block := by simp only; omega
    have n2 : h2 ≠ (⟨g, 0, none⟩ : Addr).block := by simp only; omega
    have n3 : h3 ≠ (⟨g, 0, none⟩ : Addr).block := by simp only; omega
    go_region_held3 (fun w' => w'.cell? ⟨h1, 1, none⟩ = some (.int .i64 V) ∧ w'.cell? ⟨h3, 1, none⟩ = some (.int .i64 D) ∧ w'.cell? ⟨h2, 1, none⟩ = some (.int .i64 U))
      (first | assumption | exact ⟨c0, c1, c2⟩ | exact ⟨(Bk.cell (k1.far (p := ⟨g, 0, none⟩) n1 _) 1).trans rfl, (Bk.cell (k3.far (p := ⟨g, 0, none⟩) n3 _) 1).trans rfl, (Bk.cell (k2.far (p := ⟨g, 0, none⟩) n2 _) 1).trans rfl⟩ | exact ⟨(Bk.cell ((k1.far (p := ⟨g, 0, none⟩) n1 _).alloc _) 1).trans rfl, (Bk.cell ((k3.far (p := ⟨g, 0, none⟩) n3 _).alloc _) 1).trans rfl, (Bk.cell ((k2.far (p := ⟨g, 0, none⟩) n2 _).alloc _) 1).trans rfl⟩ | exact ⟨(Bk.cell (k1.alloc _) 1).trans rfl, (Bk.cell (k3.alloc _) 1).trans rfl, (Bk.cell (k2.alloc _) 1).trans rfl⟩ | exact ⟨(Bk.cell ((k1.alloc _).far (p := ⟨g, 0, none⟩) n1 _) 1).trans rfl, (Bk.cell ((k3.alloc _).far (p := ⟨g, 0, none⟩) n3 _) 1).trans rfl, (Bk.cell ((k2.alloc _).far (p := ⟨g, 0, none⟩) n2 _) 1).trans rfl⟩)
      (first
        | (go_at_call 302; refine (SC.out _ (by first | exact kg.drew_ | exact (kg.alloc _).drew_)).mono ?_; rintro e wa ⟨rfl, rfl⟩))
    all_goals
      go_wp2_with fail
      go_meet
      exact ⟨X.heap.size, rfl, EV⟩
  case rest =>
    obtain ⟨q, rfl, E⟩ := hcut
    clear k1 k2 k3 kr kg hB3' t0 SC RC1 RC2 ZC CUT
    have e0 := (E.ev.cell 0).trans (rfl : _ = some (Value.int .i64 (V % 2)))
    have e1 := (E.ev.cell 1).trans (rfl : _ = some (Value.int .i64 (p + D)))
    have e2 := (E.ev.cell 2).trans (rfl : _ = some (Value.int .i64 U))
    go_wp2_with fail
    refine (EF.out _).mono ?_
    rintro e w5 ⟨rfl, b5⟩
    have g5 := E.grown.trans (grown_of_below (some g) b5)
    have kr := E.res.kept b5
    have r0 : w5.cell? ⟨w.heap.size, 0, none⟩ = some (Value.int .i64 0) := (kr.cell 0).trans rfl
    have r1 : w5.cell? ⟨w.heap.size, 1, none⟩ = some (Value.int .i64 0) := (kr.cell 1).trans rfl
    have r2 : w5.cell? ⟨w.heap.size, 2, none⟩ = some (Value.int .i64 0) := (kr.cell 2).trans rfl
    have f0 := kr.frozen 0
    have f1 := kr.frozen 1
    have f2 := kr.frozen 2
    clear E e0 e1 e2 b5 EF kr
    go_wp2
    refine bodyPost_ret (v := .tuple #[evV 0 0 0, .int .i64 0]) (by simp [results, Tryz.results278, go_sem, r0, r1, r2]) rfl ?_
    exact ⟨rfl, grown_new (Nat.le_refl _) _ (grown_new (Nat.le_refl _) _ (grown_new (Nat.le_refl _) _ g5))⟩
/-- Where there is no event. -/
theorem readEvent_bad (d : List Int) (p : Int) (g : Nat) (A : Option Addr) (c : Nat) (w : World) (hm : d.length ≤ 1048576) (hc : d.length ≤ c) (h : Rd .u8 w w.heap.size A d) (b8 : B8 d) (hp : 0 ≤ p ∧ p ≤ 999999) (hgv : Bk w g #[.int .i64 p] 2) (hg : ¬ evGood d p) :
    Calls Tryz.prog 278 #[.slice A d.length c, .func (.func 302) #[] #[.pointer (some ⟨g, 0, none⟩)]] w fun e w' =>
      e = .returned (.tuple #[evV 0 0 0, .int .i64 0]) ∧ w.grownBy w' (some g) := by
  by_cases hall : rdC d = 0 ∧ rdC (nextV d) = 0 ∧ zagC (rdV d / 2) = 0
  · obtain ⟨h1, h2, h3⟩ := hall
    exact readEvent_fault d p g A c w hm hc h b8 hp hgv h1 h2 h3 (fun hf => hg ⟨h1, h2, h3, hf⟩)
  · have hb : rdZ d = 0 ∧ rdV d = 0 ∨ (1 ≤ rdZ d ∧ rdZ d ≤ d.length ∧ 0 ≤ rdV d ∧ rdV d ≤ 9223372036854775807) := by
      rcases rd_code d with ⟨h1, _⟩ | ⟨_, h2, h3⟩
      · have := rd_back b8 h1
        exact .inr ⟨this.1, this.2.1, this.2.2.1, this.2.2.2.1⟩
      · exact .inl ⟨h3, h2⟩
    obtain ⟨Z, hZ⟩ : ∃ Z : Nat, rdZ d = Z := ⟨(rdZ d).toNat, by omega⟩
    have hn : nextV d = d.drop Z := by unfold nextV; rw [hZ, Int.toNat_natCast]
    have hlen : (nextV d).length = d.length - Z := by rw [hn, List.length_drop]
    have hZ2 : Z ≤ d.length := by omega
    have RC1 := hide (fun W hW => implRead_any d A c W hm hc hW b8)
    have RC2 := hide (fun W hW => implRead_any (nextV d) (cutA A Z c) (c - Z) W (by omega) (by omega) hW (b8.drop _))
    have ZC := hide (fun W => implZag_any (rdV d / 2) W (by omega))
    rw [hZ] at RC1
    rw [hlen] at RC2
    have hcR : Rd .u8 w w.heap.size (cutA A Z c) (nextV d) := by rw [hn]; exact h.cut hZ2 hc
    exact readEvent_codes d g A c w p (rdC d) (rdV d) (rdC (nextV d)) (rdV (nextV d)) (rdZ (nextV d)) (zagC (rdV d / 2)) (zagV (rdV d / 2)) Z (nextV d) h hgv (by omega) (by omega) hcR RC1 RC2 ZC (hide (fun W => run_cut A d.length Z c (Z : Int) W rfl hZ2)) (by omega)
end Go.Proofs.YtnnfkmjhaljplaaGreatDoor
namespace Go.Proofs.YtnnfkmjhaljplaaGreatDoor
open Go.RowKit
/-- A row of events of the call's own; the captured variable in block g; and all that was there in W is as it was. -/
structure OwnU (W : World) (base g : Nat) (p : Int) (xs : List Ev) (v : Value) (w : World) : Prop where
  row : w.ownsRow base 48 3 v xs.length (evs xs)
  old : Below W.heap.size W w
  var : Bk w g #[.int .i64 p] 2
  lo : W.heap.size ≤ g
  hi : g < base
  top : base ≤ w.heap.size
section
variable {W w w' : World} {base g : Nat} {p : Int} {xs l : List Ev} {v v' : Value}
theorem OwnU.more (h : OwnU W base g p xs v w) (ho : w'.ownsRow base 48 3 v' (xs.length + l.length) (evs xs ++ evs l)) (hg : w.grownBy w' v.ownBlock) : OwnU W base g p (xs ++ l) v' w' :=
  ⟨by rw [List.length_append, evs_append]; exact ho, h.old.trans (grown_below h.row hg h.old.size (by have := h.lo; have := h.hi; omega)), h.var.grown hg (own_apart h.row _ (.inl h.hi)), h.lo, h.hi, by have := h.top; have := hg.size; omega⟩
theorem OwnU.below (h : OwnU W base g p xs v w) (hb : Below w.heap.size w w') : OwnU W base g p xs v w' :=
  ⟨own_below h.row hb (Nat.le_refl _), h.old.trans (hb.mono h.old.size), h.var.kept hb, h.lo, h.hi, by have := h.top; have := hb.size; omega⟩
theorem OwnU.alloc (h : OwnU W base g p xs v w) (o : Obj) : OwnU W base g p xs v (w.alloc o) := h.below ((Below.refl _ _).alloc (Nat.le_refl _) _)
theorem OwnU.turned (h : OwnU W base g p xs v w) {n : Int} (hg : w.grownBy w' (some g)) (hv : Bk w' g #[.int .i64 n] 2) : OwnU W base g n xs v w' :=
  ⟨h.row.kept hg (.inr fun he => by have := h.row.lt g he; have := h.hi; omega), h.old.grown hg h.old.size (fun k hk => by have := h.lo; simp at hk; omega), hv, h.lo, h.hi, by have := h.top; have := hg.size; omega⟩
end
/-- At the head of the loop's rounds. -/
def UnRelI (d0 : List Int) (W : World) (base g : Nat) (v0 v4 : Value) (wr : World) : Prop :=
  ∃ (d : List Int) (A : Option Addr) (c : Nat) (acc : List Ev) (p : Int), v0 = .slice A d.length c ∧ d.length ≤ c ∧ Rd .u8 W W.heap.size A d ∧ B8 d ∧ d.length ≤ 4000 ∧ (0 ≤ p ∧ p ≤ 999999) ∧ acc.length ≤ 8 ∧ UnAt d0 acc d p ∧ OwnU W base g p acc v4 wr
set_option maxRecDepth 100000 in
set_option maxHeartbeats 2000000 in
theorem implUn_any (d0 : List Int) (A : Option Addr) (c : Nat) (w : World) (hm : d0.length ≤ 1048576) (hc : d0.length ≤ c) (h : Rd .u8 w w.heap.size A d0) (b8 : B8 d0) :
    Calls Tryz.prog 241 #[.slice A d0.length c] w fun e w' => ∃ A c, e = .returned (.agg #[.int .i64 (unC d0), .slice A (unE d0).length c]) ∧ w'.ownsRow w.heap.size 48 3 (.slice A (unE d0).length c) (unE d0).length (evs (unE d0)) ∧ Below w.heap.size w w' := by
  obtain ⟨W, hW⟩ : ∃ W, W = w.alloc (Obj.cells #[Value.int .i64 0, .slice none 0 0] 335) := ⟨_, rfl⟩
  have HW := hide hW
  have hR : Rd .u8 W W.heap.size A d0 := by subst hW; exact (h.alloc (Nat.le_refl _) _).lt
  clear hW
  by_cases hl : d0.length ≤ 4000
  · obtain ⟨i0, hi, hz0, hz1, hz2⟩ := info_parts info_event
    obtain ⟨C, hC⟩ : ∃ C, C = unC d0 := ⟨_, rfl⟩
    obtain ⟨E, hE⟩ : ∃ E, E = unE d0 := ⟨_, rfl⟩
    have NO := hide (fun hu => un_none hl hu)
    have YES := hide (fun es hu => un_some (es := es) hl hu)
    rw [← hC, ← hE] at NO YES
    rw [← hC, ← hE]
    clear hC hE
    go_enter Tryz.func241, Tryz.ntmps241
    go_wp2_with fail
    rw [← HW.out]
    refine (sums_any W).mono ?_
    rintro e w2 ⟨rfl, rfl⟩
    have hO : OwnU W (W.heap.size + 1) W.heap.size 0 [] (.slice none 0 0) (W.alloc (.cells #[.int .i64 0] 2)) := ⟨World.ownsRow_nil _ _ _ _, (Below.refl _ _).alloc (Nat.le_refl _) _, Bk.new _ _ _, Nat.le_refl _, Nat.lt_succ_self _, by simp⟩
    obtain ⟨base, hbase⟩ : ∃ b, b = W.heap.size + 1 := ⟨_, rfl⟩
    obtain ⟨g, hg⟩ : ∃ b, b = W.heap.size := ⟨_, rfl⟩
    rw [← hbase, ← hg] at hO
    rw [← hg]
    generalize hV : W.alloc (.cells #[.int .i64 0] 2) = V at hO
    clear hV hbase hg
    go_wp2
    go_loopw [0, 4] (fun v0 v4 wr => UnRelI d0 W base g v0 v4 wr) (fun v0 _ _ => sliceLen v0)
    case atStart => exact ⟨d0, A, c, [], 0, rfl, hc, hR, b8, hl, by omega, by simp, UnAt.start d0, hO⟩
    case round =>
      obtain ⟨d, A, c, acc, p, rfl, hc, h, b8, hm, hp, h8, HU, ho⟩ := hrel
      have HU := hide HU
      obtain ⟨A4, c4, rfl⟩ := own_shape ho.row
      by_cases h0 : 0 < d.length
      · have hne : d ≠ [] := by intro e; rw [e] at h0; simp at h0
        have HN := hide hne
        clear hne
        by_cases hg : evGood d p
        · have RC := hide (readEvent_good d p g A c wr (by omega) hc (h.below ho.old).lt b8 hp ho.var hg)
          have hz := evZ_le b8 hg
          obtain ⟨Z, hZ⟩ : ∃ Z, Z = evZ d := ⟨_, rfl⟩
          obtain ⟨x, hx⟩ : ∃ x, x = evAt d p := ⟨_, rfl⟩
          have hfz : evF x = 0 := by rw [hx]; exact hg.2.2.2
          have hrg := (evF_zero hfz).2
          rw [← hZ, ← hx] at RC
          have hZ1 : 2 ≤ Z := by omega
          have hZ2 : Z ≤ d.length := by omega
          have z0 : ((Z : Int) == 0) = false := beq_eq_false_iff_ne.2 (by omega)
          by_cases hfull : acc.length < 8
          · have HS := HU.out.step HN.out hg hfull
            rw [← hZ, ← hx] at HS
            have HS := hide HS
            have HL := hide (List.length_drop (l := d) (i := Z))
            have HC := hide (h.cut hZ2 hc)
            have a8 : ((acc.length : Int) == 8) = false := beq_eq_false_iff_ne.2 (by omega)
            have a9 : (acc.length == 8) = false := beq_eq_false_iff_ne.2 (by omega)
            have CUT := hide (fun W => run_cut A d.length Z c (Z : Int) W rfl hZ2)
            clear hz hZ hx hg hfz
            obtain ⟨hr1, hr2, hr3, hr4⟩ := hrg
            go_wp2_with fail
            refine RC.out.mono ?_
            rintro e w2 ⟨rfl, g2, v2⟩
            have ho2 := (ho.turned g2 v2).alloc (.cells #[.int .i64 x.k, .int .i64 x.a, .int .i64 x.v] 48)
            clear g2 v2 ho RC
            have hnews := cell_three_new (w2.alloc (.cells #[.int .i64 x.k, .int .i64 x.a, .int .i64 x.v] 48)) (.int .i64 x.k) (.int .i64 x.a) (.int .i64 x.v) 48
            rw [show (w2.alloc (.cells #[.int .i64 x.k, .int .i64 x.a, .int .i64 x.v] 48)).heap.size = w2.heap.size + 1 by simp] at hnews
            have HW2 := hide hnews
            clear hnews
            go_wp2_with (at_builtin; refine wpList_append_own_at _ rfl _ _ 45 rfl base 48 i0 (.agg #[.int .i64 0, .int .i64 0, .int .i64 0]) 3 24 Tryz.underlying45 hi hz0 hz1 hz2 rfl (by decide) _ _ _ rfl (ho2.row.alloc _) ⟨w2.heap.size + 1, 0, none⟩ 1 1 [.int .i64 x.k, .int .i64 x.a, .int .i64 x.v] rfl rfl HW2.out (one_cells3 _ _ _ _) (by unfold maxLen; omega) (by omega) (by have := ho2.top; simp at this ⊢; omega) ?_; intro v' w7 hown' hgrow _ hat; have hO7 : OwnU W base g x.a (acc ++ [x]) v' w7 := (ho2.alloc _).more (l := [x]) hown' hgrow; clear hgrow hat hown'; have cut := CUT.out w7)
            go_roundw
            case rel => exact ⟨d.drop Z, cutA A Z c, c - Z, acc ++ [x], x.a, by rw [HL.out], by rw [HL.out]; omega, HC.out, b8.drop _, by rw [HL.out]; omega, ⟨hr1, hr2⟩, by rw [List.length_append]; simp; omega, HS.out, hO7⟩
            case measure => simp [sliceLen]; omega
          · have HR := hide (HU.out.full HN.out hfull)
            have a8 : ((acc.length : Int) == 8) = true := beq_iff_eq.2 (by omega)
            have a9 : (acc.length == 8) = true := beq_iff_eq.2 (by omega)
            clear hz hZ hx hg hfz
            go_wp2_with fail
            refine RC.out.mono ?_
            rintro e w2 ⟨rfl, g2, v2⟩
            have hb := ((ho.turned g2 v2).alloc (.cells #[.int .i64 x.k, .int .i64 x.a, .int .i64 x.v] 48)).old
            clear g2 v2 ho RC
            have q0 := W_cell HW.out hb 0
            have q1 := W_cell HW.out hb 1
            have f0 := W_frozen HW.out hb 0
            have f1 := W_frozen HW.out hb 1
            simp only [List.getElem?_toArray] at q0 q1
            have X := hide hb
            clear hb
            go_wp2
            refine bodyPost_ret (v := .agg #[.int .i64 5, .slice none 0 0]) (by simp [results, Tryz.results241, go_sem, q0, q1]) rfl ?_
            rw [(NO.out HR.out).1, (NO.out HR.out).2]
            exact ⟨none, 0, rfl, World.ownsRow_nil _ _ _ _, ((W_below HW.out X.out).setCell (Nat.le_refl _) _).setCell (Nat.le_refl _) _⟩
        · have HR := hide (HU.out.bad HN.out hg)
          have RC := hide (readEvent_bad d p g A c wr (by omega) hc (h.below ho.old).lt b8 hp ho.var hg)
          clear hg
          go_wp2_with fail
          refine RC.out.mono ?_
          rintro e w2 ⟨rfl, g2⟩
          have hb : Below W.heap.size W (w2.alloc (.cells #[.int .i64 0, .int .i64 0, .int .i64 0] 48)) := (ho.old.grown g2 ho.old.size (fun k hk => by have := ho.lo; simp at hk; omega)).alloc (by have := ho.old.size; have := g2.size; omega) _
          have q0 := W_cell HW.out hb 0
          have q1 := W_cell HW.out hb 1
          have f0 := W_frozen HW.out hb 0
          have f1 := W_frozen HW.out hb 1
          simp only [List.getElem?_toArray] at q0 q1
          have X := hide hb
          clear hb g2 RC
          go_wp2
          refine bodyPost_ret (v := .agg #[.int .i64 5, .slice none 0 0]) (by simp [results, Tryz.results241, go_sem, q0, q1]) rfl ?_
          rw [(NO.out HR.out).1, (NO.out HR.out).2]
          exact ⟨none, 0, rfl, World.ownsRow_nil _ _ _ _, ((W_below HW.out X.out).setCell (Nat.le_refl _) _).setCell (Nat.le_refl _) _⟩
      · have hd : d = [] := List.eq_nil_of_length_eq_zero (by omega)
        subst hd
        have HR := hide HU.out.done
        have hb := ho.old
        have q0 := W_cell HW.out hb 0
        have q1 := W_cell HW.out hb 1
        have f0 := W_frozen HW.out hb 0
        have f1 := W_frozen HW.out hb 1
        simp at q0 q1
        have o3 := own_mono ho.row (Nat.le_of_lt (Nat.lt_of_le_of_lt ho.lo ho.hi))
        clear ho
        go_wp2
        refine bodyPost_ret (v := .agg #[.int .i64 0, .slice A4 acc.length c4]) (by simp [results, Tryz.results241, go_sem, q0, q1]) rfl ?_
        rw [(YES.out _ HR.out).1, (YES.out _ HR.out).2]
        exact ⟨A4, c4, rfl, W_own HW.out (W_set HW.out (W_set HW.out o3 _ _) _ _), ((W_below HW.out hb).setCell (Nat.le_refl _) _).setCell (Nat.le_refl _) _⟩
  · rw [(un_long hl).1, (un_long hl).2]
    go_enter Tryz.func241, Tryz.ntmps241
    go_wp2
    go_returns
    exact ⟨none, 0, rfl, World.ownsRow_nil _ _ _ _, by go_grown⟩
end Go.Proofs.YtnnfkmjhaljplaaGreatDoor
