/- What the laws' walks rest upon, part 9. -/
import Derived.Test.YtnnfkmjhaljplaaGreatDoorM07
import Derived.Test.YtnnfkmjhaljplaaGreatDoorM04
import Derived.Test.YtnnfkmjhaljplaaGreatDoorM08
import Derived.Test.YtnnfkmjhaljplaaGreatDoorM02
import Derived.OneCell
import Derived.Deep.RegionHeld3
import Derived.Deep.DeepCutAuto
import Derived.Deep.RegionWith
namespace Go.Proofs.YtnnfkmjhaljplaaGreatDoor
open Go.RowKit
theorem getD_at (d : List Int) (i : Nat) (h : i < d.length) : d.getD i 0 = d[i] := by simp [h]
/-- What stepsPlace tells. -/
def PlPost (d : List Int) (aN : Addr) (w : World) (e : Ending) (w' : World) : Prop :=
  ((frHd d ∧ e = .returned (.tuple #[.int .i64 (frFrom d : Nat), .int .i64 (frTo d : Nat), .nilIface])) ∨ (¬ frHd d ∧ e = .returned (.tuple #[.int .i64 0, .int .i64 0, errV aN]))) ∧ Below w.heap.size w w'
set_option maxRecDepth 100000 in
set_option maxHeartbeats 1000000 in
theorem stepsPlace_any (d : List Int) (A : Option Addr) (c : Nat) (aN : Addr) (w : World) (hm : d.length ≤ 1048576) (hc : d.length ≤ c) (hR : Rd .u8 w w.heap.size A d) (b8 : B8 d)
    (hN : w.cell? ⟨2, 0, none⟩ = some (errV aN)) :
    Calls Tryz.prog 240 #[.slice A d.length c] w (PlPost d aN w) := by
  have n0 := block_lt_of_cell hN
  have n0p : 0 < w.heap.size := Nat.lt_of_le_of_lt (Nat.zero_le _) n0
  by_cases h2 : 2 ≤ d.length
  · obtain ⟨b, off, hA, hb, hx⟩ := hR.all (by omega)
    have c0 := hx 0 (by omega)
    have c1 := hx 1 (by omega)
    rw [Nat.add_zero] at c0
    obtain ⟨x0, hx0⟩ : ∃ x, x = d[0] := ⟨_, rfl⟩
    obtain ⟨x1, hx1⟩ : ∃ x, x = d[1] := ⟨_, rfl⟩
    have d0 : d.getD 0 0 = x0 := by rw [getD_at d 0 (by omega), hx0]
    have d1 : d.getD 1 0 = x1 := by rw [getD_at d 1 (by omega), hx1]
    have bd0 := b8.get 0 (by omega)
    have bd1 := b8.get 1 (by omega)
    rw [← hx0] at c0 bd0
    rw [← hx1] at c1 bd1
    clear hx hx0 hx1
    by_cases e0 : x0 = 66
    · by_cases e1 : x1 < 4
      · have RC := hide (fun W hW => implRead_any (d.drop 2) (cutA A 2 c) (c - 2) W (by rw [List.length_drop]; omega) (by rw [List.length_drop]; omega) hW (b8.drop 2))
        have hcR := hR.cut h2 hc
        have CUT := fun W => run_cut A d.length 2 c 2 W rfl h2
        rw [List.length_drop] at RC
        have hcode := rd_code (d.drop 2)
        have hback := rd_back (l := d.drop 2) (b8.drop 2)
        rw [List.length_drop] at hback
        have hxV : 0 ≤ rdV (d.drop 2) := by
          rcases hcode with ⟨hz, _⟩ | ⟨_, h1, _⟩
          · exact (hback hz).2.2.1
          · omega
        obtain ⟨C, hC⟩ : ∃ C, C = rdC (d.drop 2) := ⟨_, rfl⟩
        obtain ⟨V, hV⟩ : ∃ V, V = rdV (d.drop 2) := ⟨_, rfl⟩
        obtain ⟨Z, hZ⟩ : ∃ Z : Nat, rdZ (d.drop 2) = Z := ⟨(rdZ (d.drop 2)).toNat, by
          rcases hcode with ⟨hz, _⟩ | ⟨_, _, h1⟩
          · have := (hback hz).1; omega
          · omega⟩
        have HH : Hid (frHd d ↔ (C = 0 ∧ 1 ≤ V ∧ V ≤ 200 ∧ 2 + Z + V.toNat + 4 ≤ d.length)) := hide (by
          unfold frHd frTo frFrom
          rw [d0, d1, ← hC, ← hV, hZ, Int.toNat_natCast]
          constructor
          · rintro ⟨_, _, _, a, b, c, e⟩; exact ⟨a, b, c, e⟩
          · rintro ⟨a, b, c, e⟩; exact ⟨h2, e0, e1, a, b, c, e⟩)
        have HFr : Hid (frFrom d = 2 + Z) := hide (by unfold frFrom; rw [hZ, Int.toNat_natCast])
        have HTo : Hid (frTo d = 2 + Z + V.toNat) := hide (by unfold frTo frFrom; rw [← hV, hZ, Int.toNat_natCast])
        rw [← hC, ← hV, hZ] at RC hcode hback
        rw [← hV] at hxV
        have HC : C = 0 ∧ 1 ≤ Z ∧ Z ≤ d.length - 2 ∨ C = 5 ∧ V = 0 ∧ Z = 0 := by
          rcases hcode with ⟨hz, _⟩ | ⟨a, h1, h3⟩
          · have := hback hz; omega
          · omega
        subst hA
        subst e0
        clear hC hV hZ hcode hback d0 d1
        rcases HC with ⟨rfl, z1, z2⟩ | ⟨rfl, rfl, rfl⟩
        · by_cases hv : 1 ≤ V ∧ V ≤ 200
          · by_cases ht : 2 + Z + V.toNat + 4 ≤ d.length
            · have HF : frHd d := HH.out.2 ⟨rfl, hv.1, hv.2, ht⟩
              obtain ⟨v, rfl⟩ := Int.eq_ofNat_of_zero_le hxV
              have hv1 := hv.1
              have hv2 := hv.2
              have ht2 : ¬ ((d.length : Int) < 2 + (Z : Int) + (v : Int) + 4) := by omega
              clear hxV
              go_enter Tryz.func240, Tryz.ntmps240
              go_wp2_with fail
              refine (RC.out _ hcR).mono ?_
              rintro e w2 ⟨rfl, b2⟩
              go_wp2_with fail
              refine (allWithin_one _ _ _ _ _ _ (by simp [go_sem]) hv).mono ?_
              rintro e w3 ⟨rfl, rfl⟩
              go_wp2
              refine bodyPost_ret (v := .tuple #[.int .i64 (2 + (Z : Int)), .int .i64 (2 + (Z : Int) + (v : Int)), .nilIface]) (by simp [results, Tryz.results240, go_sem]) rfl ?_
              exact ⟨.inl ⟨HF, by rw [HFr.out, HTo.out]; simp [Int.toNat_natCast, Int.add_assoc]⟩, (b2.alloc b2.size _).alloc (by simp; have := b2.size; omega) _⟩
            · have HF : ¬ frHd d := fun h => ht (HH.out.1 h).2.2.2
              obtain ⟨v, rfl⟩ := Int.eq_ofNat_of_zero_le hxV
              have hv1 := hv.1
              have hv2 := hv.2
              have ht2 : (d.length : Int) < 2 + (Z : Int) + (v : Int) + 4 := by omega
              clear hxV
              go_enter Tryz.func240, Tryz.ntmps240
              go_wp2_with fail
              refine (RC.out _ hcR).mono ?_
              rintro e w2 ⟨rfl, b2⟩
              have hN2 := cell_kept b2 hN
              have n2 := block_lt_of_cell hN2
              have n2p : 0 < w2.heap.size := Nat.lt_of_le_of_lt (Nat.zero_le _) n2
              go_wp2_with fail
              refine (allWithin_one _ _ _ _ _ _ (by simp [go_sem]) hv).mono ?_
              rintro e w3 ⟨rfl, rfl⟩
              go_wp2
              go_quiet (fail)
              go_wp2
              refine bodyPost_ret (v := .tuple #[.int .i64 0, .int .i64 0, errV aN]) (by simp [results, Tryz.results240, go_sem]) rfl ?_
              exact ⟨.inr ⟨HF, rfl⟩, below_drewN ((b2.alloc b2.size _).alloc (by simp; have := b2.size; omega) _) _⟩
          · have HF : ¬ frHd d := fun h => hv ⟨(HH.out.1 h).2.1, (HH.out.1 h).2.2.1⟩
            have hv' : V < 1 ∨ 200 < V := by omega
            clear hv
            go_enter Tryz.func240, Tryz.ntmps240
            go_wp2_with fail
            refine (RC.out _ hcR).mono ?_
            rintro e w2 ⟨rfl, b2⟩
            have hN2 := cell_kept b2 hN
            have n2 := block_lt_of_cell hN2
            have n2p : 0 < w2.heap.size := Nat.lt_of_le_of_lt (Nat.zero_le _) n2
            go_wp2_with fail
            refine (allWithin_not _ _ _ _ _ _ (by simp [go_sem]) hv').mono ?_
            rintro e w3 ⟨rfl, rfl⟩
            go_wp2
            go_quiet (fail)
            go_wp2
            refine bodyPost_ret (v := .tuple #[.int .i64 0, .int .i64 0, errV aN]) (by simp [results, Tryz.results240, go_sem]) rfl ?_
            exact ⟨.inr ⟨HF, rfl⟩, below_drewN ((b2.alloc b2.size _).alloc (by simp; have := b2.size; omega) _) _⟩
        · have HF : ¬ frHd d := fun h => by have := (HH.out.1 h).1; omega
          go_enter Tryz.func240, Tryz.ntmps240
          go_wp2_with fail
          refine (RC.out _ hcR).mono ?_
          rintro e w2 ⟨rfl, b2⟩
          have hN2 := cell_kept b2 hN
          have n2 := block_lt_of_cell hN2
          have n2p : 0 < w2.heap.size := Nat.lt_of_le_of_lt (Nat.zero_le _) n2
          go_wp2
          go_quiet (fail)
          go_wp2
          refine bodyPost_ret (v := .tuple #[.int .i64 0, .int .i64 0, errV aN]) (by simp [results, Tryz.results240, go_sem]) rfl ?_
          exact ⟨.inr ⟨HF, rfl⟩, below_drewN (b2.alloc b2.size _) _⟩
      · have HF : ¬ frHd d := fun h => e1 (by rw [← d1]; exact h.2.2.1)
        subst hA
        subst e0
        clear d0 d1
        go_enter Tryz.func240, Tryz.ntmps240
        go_wp2
        go_quiet (fail)
        go_wp2
        refine bodyPost_ret (v := .tuple #[.int .i64 0, .int .i64 0, errV aN]) (by simp [results, Tryz.results240, go_sem]) rfl ?_
        exact ⟨.inr ⟨HF, rfl⟩, below_drewN (Below.refl _ _) _⟩
    · have HF : ¬ frHd d := fun h => e0 (by rw [← d0]; exact h.2.1)
      have f0 : (x0 != 66) = true := bne_iff_ne.2 e0
      have f1 : (x0 == 66) = false := beq_eq_false_iff_ne.2 e0
      subst hA
      clear e0 d0 d1 c1 bd1
      go_enter Tryz.func240, Tryz.ntmps240
      go_wp2
      go_quiet (fail)
      go_wp2
      refine bodyPost_ret (v := .tuple #[.int .i64 0, .int .i64 0, errV aN]) (by simp [results, Tryz.results240, go_sem]) rfl ?_
      exact ⟨.inr ⟨HF, rfl⟩, below_drewN (Below.refl _ _) _⟩
  · have HF : ¬ frHd d := fun h => h2 h.1
    go_enter Tryz.func240, Tryz.ntmps240
    go_wp2
    go_quiet (fail)
    go_wp2
    refine bodyPost_ret (v := .tuple #[.int .i64 0, .int .i64 0, errV aN]) (by simp [results, Tryz.results240, go_sem]) rfl ?_
    exact ⟨.inr ⟨HF, rfl⟩, below_drewN (Below.refl _ _) _⟩
end Go.Proofs.YtnnfkmjhaljplaaGreatDoor
namespace Go.Proofs.YtnnfkmjhaljplaaGreatDoor
open Go.RowKit
theorem sums_any (w : World) :
    Calls Tryz.prog 277 #[] w fun e w' => e = .returned (.func (.func 302) #[] #[.pointer (some ⟨w.heap.size, 0, none⟩)]) ∧ w' = w.alloc (.cells #[.int .i64 0] 2) := by
  go_enter Tryz.func277, Tryz.ntmps277
  go_wp2
  go_ret
  exact ⟨rfl, rfl⟩
/-- The closure: the address that is as far from the one ahead of it. -/
theorem sum_any (n p : Int) (g : Nat) (w : World) (hn : -1000000000000 ≤ n ∧ n ≤ 1000000000000) (hp : -1000000000 ≤ p ∧ p ≤ 1000000000) (hg : Bk w g #[.int .i64 p] 2) :
    Calls Tryz.prog 302 #[.int .i64 n, .pointer (some ⟨g, 0, none⟩)] w fun e w' => e = .returned (.int .i64 (p + n)) ∧ w' = w.setCell ⟨g, 0, none⟩ (.int .i64 (p + n)) := by
  have hc : w.cell? ⟨g, 0, none⟩ = some (.int .i64 p) := by rw [hg.cell 0]; rfl
  have hf := hg.frozen 0
  go_enter Tryz.func302, Tryz.ntmps302
  go_wp2
  go_ret
  exact ⟨rfl, rfl⟩
end Go.Proofs.YtnnfkmjhaljplaaGreatDoor
namespace Go.Proofs.YtnnfkmjhaljplaaGreatDoor
open Go.RowKit
theorem Bk.drew_ {w : World} {g : Nat} {cs : Array Value} {t : TypeId} (h : Bk w g cs t) : Bk w.drew g cs t := h
theorem grown_of_below {w w' : World} (row : Option Nat) (hb : Below w.heap.size w w') : w.grownBy w' row := ⟨hb.os, hb.tape, hb.output, hb.size, fun k hk _ => hb.block k hk⟩
theorem grown_new {w w1 : World} {row : Option Nat} {p : Addr} (hp : w.heap.size ≤ p.block) (v : Value) (h : w.grownBy w1 row) : w.grownBy (w1.setCell p v) row :=
  ⟨h.os, h.tape, h.output, by simpa using h.size, fun k hk hne => (Below.heap_setCell w1 p v k (by omega)).trans (h.block k hk hne)⟩
/-- What is known where the program has made an event: q: its cell. -/
structure EvAtCut (w : World) (g h1 h2 q : Nat) (C1 V Z C2 U M K a : Int) (wx : World) : Prop where
  ev : Bk wx q #[.int .i64 K, .int .i64 a, .int .i64 U] 48
  grown : w.grownBy wx (some g)
  var : Bk wx g #[.int .i64 a] 2
  res : Bk wx w.heap.size #[.int .i64 0, .int .i64 0, .int .i64 0] 48
  rd1 : Bk wx h1 #[.int .i64 C1, .int .i64 V, .int .i64 Z] 378
  rd2 : Bk wx h2 #[.int .i64 C2, .int .i64 U, .int .i64 M] 378
set_option maxRecDepth 100000 in
set_option maxHeartbeats 1600000 in
theorem readEvent_good (d : List Int) (p : Int) (g : Nat) (A : Option Addr) (c : Nat) (w : World) (hm : d.length ≤ 1048576) (hc : d.length ≤ c) (h : Rd .u8 w w.heap.size A d) (b8 : B8 d) (hp : 0 ≤ p ∧ p ≤ 999999) (hgv : Bk w g #[.int .i64 p] 2) (hg : evGood d p) :
    Calls Tryz.prog 278 #[.slice A d.length c, .func (.func 302) #[] #[.pointer (some ⟨g, 0, none⟩)]] w fun e w' =>
      e = .returned (.tuple #[evV (evAt d p).k (evAt d p).a (evAt d p).v, .int .i64 (evZ d)]) ∧ w.grownBy w' (some g) ∧ Bk w' g #[.int .i64 (evAt d p).a] 2 := by
  have hz := evZ_le b8 hg
  obtain ⟨hc1, hc2, hc3, hf⟩ := hg
  have rb1 := rd_back b8 hc1
  have rb2 := rd_back (l := nextV d) (b8.drop _) hc2
  have hnl := nextV_len b8 hc1
  obtain ⟨V, hV⟩ : ∃ V, V = rdV d := ⟨_, rfl⟩
  obtain ⟨Z, hZ⟩ : ∃ Z : Nat, rdZ d = Z := ⟨(rdZ d).toNat, by omega⟩
  have hn : nextV d = d.drop Z := by unfold nextV; rw [hZ, Int.toNat_natCast]
  obtain ⟨U, hU⟩ : ∃ U, U = rdV (nextV d) := ⟨_, rfl⟩
  obtain ⟨M, hM⟩ : ∃ M : Nat, rdZ (nextV d) = M := ⟨(rdZ (nextV d)).toNat, by omega⟩
  have hzn : 0 ≤ V / 2 ∧ V / 2 ≤ 2000000000000 := by
    by_cases hh : 0 ≤ V / 2 ∧ V / 2 ≤ 2000000000000
    · exact hh
    · rw [← hV, (zag_out hh).1] at hc3; omega
  obtain ⟨D, hD⟩ : ∃ D, D = zagI (V / 2) := ⟨_, rfl⟩
  have hDi := zagI_in hzn
  rw [← hD] at hDi
  have RC1 := hide (fun W hW => implRead_any d A c W hm hc hW b8)
  have RC2 := hide (fun W hW => implRead_any (nextV d) (cutA A Z c) (c - Z) W (by omega) (by rw [hZ] at hnl; omega) hW (b8.drop _))
  have ZC := hide (fun W => implZag_any (V / 2) W (by omega))
  have hlen : (nextV d).length = d.length - Z := by rw [hnl.1, hZ]; rfl
  rw [hc1, ← hV, hZ] at RC1
  rw [hc2, ← hU, hM, hlen] at RC2
  rw [(zag_in hzn).1, (zag_in hzn).2, ← hD] at ZC
  have hZ2 : Z ≤ d.length := by omega
  have CUT := hide (fun W => run_cut A d.length Z c (Z : Int) W rfl hZ2)
  have hcR : Rd .u8 w w.heap.size (cutA A Z c) (nextV d) := by rw [hn]; exact h.cut hZ2 hc
  have hat : evAt d p = ⟨V % 2, p + D, U⟩ := by unfold evAt; rw [← hV, ← hU, ← hD]
  have EF := hide (fun W => implEvF_any (V % 2) (p + D) U W)
  rw [hat] at hf
  rw [show evF ⟨V % 2, p + D, U⟩ = 0 from hf] at EF
  have hsz : (evZ d : Int) = (Z : Int) + (M : Int) := by rw [hz.2.2.1, hZ, hM]
  rw [hat, hsz]
  have hM1 : 0 ≤ (M : Int) ∧ (M : Int) ≤ 1048576 := by rw [hM] at rb2; omega
  have hrg := (evF_zero hf).2
  simp only at hrg
  have hV0 : 0 ≤ V := by omega
  have hV1 : V ≤ 9223372036854775807 := by omega
  clear hV hZ hn hU hM hc1 hc2 hc3 hf hD hat hsz hz rb1 rb2 hnl hlen
  obtain ⟨W, hW⟩ : ∃ W, W = w.alloc (Obj.cells #[Value.int .i64 0, .int .i64 0, .int .i64 0] 48) := ⟨_, rfl⟩
  have HW := hide hW
  have kr : Bk W w.heap.size #[.int .i64 0, .int .i64 0, .int .i64 0] 48 := by rw [hW]; exact Bk.new _ _ _
  have kg : Bk W g #[.int .i64 p] 2 := by rw [hW]; exact hgv.alloc _
  have hB : Below w.heap.size w W := by rw [hW]; exact (Below.refl _ _).alloc (Nat.le_refl _) _
  have hgl := hgv.lt
  clear hW
  go_enter Tryz.func278, Tryz.ntmps278
  go_wp2_with fail
  rw [← HW.out]
  refine (RC1.out _ (h.below hB).lt).mono ?_
  rintro e w1 ⟨rfl, b1⟩
  have k1 := Bk.new w1 #[.int .i64 0, .int .i64 V, .int .i64 Z] 378
  have hB1 := (hB.trans (b1.mono hB.size)).alloc (by have := hB.size; have := b1.size; omega) (.cells #[.int .i64 0, .int .i64 V, .int .i64 Z] 378)
  have kr := (kr.kept b1).alloc (.cells #[.int .i64 0, .int .i64 V, .int .i64 Z] 378)
  have kg := (kg.kept b1).alloc (.cells #[.int .i64 0, .int .i64 V, .int .i64 Z] 378)
  have c10 : (w1.alloc (.cells #[.int .i64 0, .int .i64 V, .int .i64 Z] 378)).cell? ⟨w1.heap.size, 2, none⟩ = some (.int .i64 Z) := (k1.cell 2).trans rfl
  have cut := CUT.out (w1.alloc (.cells #[.int .i64 0, .int .i64 V, .int .i64 Z] 378))
  go_wp2_with fail
  refine (RC2.out _ (hcR.below hB1).lt).mono ?_
  rintro e w2 ⟨rfl, b2⟩
  have hB2 : Below w.heap.size w w2 := hB1.trans (b2.mono hB1.size)
  have k1 := (k1.kept b2).alloc (.cells #[.int .i64 0, .int .i64 U, .int .i64 M] 378)
  have kr := (kr.kept b2).alloc (.cells #[.int .i64 0, .int .i64 U, .int .i64 M] 378)
  have kg := (kg.kept b2).alloc (.cells #[.int .i64 0, .int .i64 U, .int .i64 M] 378)
  have k2 := Bk.new w2 #[.int .i64 0, .int .i64 U, .int .i64 M] 378
  have hB2' := hB2.alloc hB2.size (.cells #[.int .i64 0, .int .i64 U, .int .i64 M] 378)
  have c11 : (w2.alloc (.cells #[.int .i64 0, .int .i64 U, .int .i64 M] 378)).cell? ⟨w1.heap.size, 1, none⟩ = some (.int .i64 V) := (k1.cell 1).trans rfl
  have z12 : w1.heap.size < w2.heap.size := by have := b2.size; simp at this; omega
  have z01 : w.heap.size < w1.heap.size := by have := b1.size; rw [W_size HW.out] at this; omega
  clear b1 b2 c10 cut hB hB1
  go_wp2_with fail
  refine (ZC.out _).mono ?_
  rintro e w3 ⟨rfl, b3⟩
  have hB3 : Below w.heap.size w w3 := hB2'.trans (b3.mono hB2'.size)
  have z23 : w2.heap.size < w3.heap.size := by have := b3.size; simp at this; omega
  have k1 := (k1.kept b3).alloc (.cells #[.int .i64 0, .int .i64 D] 250)
  have kr := (kr.kept b3).alloc (.cells #[.int .i64 0, .int .i64 D] 250)
  have kg := (kg.kept b3).alloc (.cells #[.int .i64 0, .int .i64 D] 250)
  have k2 := (k2.kept b3).alloc (.cells #[.int .i64 0, .int .i64 D] 250)
  have k3 := Bk.new w3 #[.int .i64 0, .int .i64 D] 250
  have hB3' := hB3.alloc hB3.size (.cells #[.int .i64 0, .int .i64 D] 250)
  have c10 : (w3.alloc (.cells #[.int .i64 0, .int .i64 D] 250)).cell? ⟨w1.heap.size, 0, none⟩ = some (.int .i64 0) := (k1.cell 0).trans rfl
  have c20 : (w3.alloc (.cells #[.int .i64 0, .int .i64 D] 250)).cell? ⟨w2.heap.size, 0, none⟩ = some (.int .i64 0) := (k2.cell 0).trans rfl
  clear b3 c11 hB2 hB2' hB3
  go_wp2_with fail
  obtain ⟨h1, hh1⟩ : ∃ n, n = w1.heap.size := ⟨_, rfl⟩
  obtain ⟨h2, hh2⟩ : ∃ n, n = w2.heap.size := ⟨_, rfl⟩
  obtain ⟨h3, hh3⟩ : ∃ n, n = w3.heap.size := ⟨_, rfl⟩
  rw [← hh1, ← hh2, ← hh3]
  rw [← hh1] at k1 z12 z01
  rw [← hh2] at k2 z12 z23
  rw [← hh3] at k3 z23
  generalize hX : w3.alloc (.cells #[.int .i64 0, .int .i64 D] 250) = X at *
  clear hX hh1 hh2 hh3 c10 c20
  have t0 : V.tmod 2 = V % 2 := Int.tmod_eq_emod_of_nonneg hV0
  have SC := hide (fun W hW => sum_any D p g W (by omega) (by omega) hW)
  go_cut [9] (fun s9 wx => ∃ q, s9 = .pointer (some ⟨q, 0, none⟩) ∧ EvAtCut w g h1 h2 q 0 V Z 0 U M (V % 2) (p + D) wx)
  case first =>
    have c0 : X.cell? ⟨h1, 1, none⟩ = some (.int .i64 V) := (k1.cell 1).trans rfl
    have c1 : X.cell? ⟨h3, 1, none⟩ = some (.int .i64 D) := (k3.cell 1).trans rfl
    have c2 : X.cell? ⟨h2, 1, none⟩ = some (.int .i64 U) := (k2.cell 1).trans rfl
    have hgx := kg.lt
    have hsz : (X.setCell ⟨g, 0, none⟩ (.int .i64 (p + D))).heap.size = X.heap.size := by simp
    have n0 : w.heap.size ≠ (⟨g, 0, none⟩ : Addr).block := by simp only; omega
    have hEv := Bk.new (X.setCell ⟨g, 0, none⟩ (.int .i64 (p + D))) #[.int .i64 (V % 2), .int .i64 (p + D), .int .i64 U] 48
    rw [hsz] at hEv
    have EV : EvAtCut w g h1 h2 X.heap.size 0 V Z 0 U M (V % 2) (p + D) ((X.setCell ⟨g, 0, none⟩ (.int .i64 (p + D))).alloc (.cells #[.int .i64 (V % 2), .int .i64 (p + D), .int .i64 U] 48)).drew :=
      ⟨hEv, grown_drewN (((grown_of_below (some g) hB3').trans (grown_set X g 0 _)).trans (World.grownBy_alloc _ _ _)) 1, (kg.set_ 0 _).alloc _, (kr.far (p := ⟨g, 0, none⟩) n0 _).alloc _, (k1.far (p := ⟨g, 0, none⟩) (by simp only; omega) _).alloc _, (k2.far (p := ⟨g, 0, none⟩) (by simp only; omega) _).alloc _⟩
    clear hEv hsz n0
    have hgx' : ¬ X.heap.size = g := by omega
    have hgx2 : ¬ g = X.heap.size := by omega
    have n1 : h1 ≠ (⟨g, 0, none⟩ : Addr).block := by simp only; omega
    have n2 : h2 ≠ (⟨g, 0, none⟩ : Addr).block := by simp only; omega
    have n3 : h3 ≠ (⟨g, 0, none⟩ : Addr).block := by simp only; omega
    go_region_held3 (fun w' => w'.cell? ⟨h1, 1, none⟩ = some (.int .i64 V) ∧ w'.cell? ⟨h3, 1, none⟩ = some (.int .i64 D) ∧ w'.cell? ⟨h2, 1, none⟩ = some (.int .i64 U))
      (first | assumption | exact ⟨c0, c1, c2⟩ | exact ⟨(Bk.cell (k1.far (p := ⟨g, 0, none⟩) n1 _) 1).trans rfl, (Bk.cell (k3.far (p := ⟨g, 0, none⟩) n3 _) 1).trans rfl, (Bk.cell (k2.far (p := ⟨g, 0, none⟩) n2 _) 1).trans rfl⟩ | exact ⟨(Bk.cell ((k1.far (p := ⟨g, 0, none⟩) n1 _).alloc _) 1).trans rfl, (Bk.cell ((k3.far (p := ⟨g, 0, none⟩) n3 _).alloc _) 1).trans rfl, (Bk.cell ((k2.far (p := ⟨g, 0, none⟩) n2 _).alloc _) 1).trans rfl⟩ | exact ⟨(Bk.cell (k1.alloc _) 1).trans rfl, (Bk.cell (k3.alloc _) 1).trans rfl, (Bk.cell (k2.alloc _) 1).trans rfl⟩ | exact ⟨(Bk.cell ((k1.alloc _).far (p := ⟨g, 0, none⟩) n1 _) 1).trans rfl, (Bk.cell ((k3.alloc _).far (p := ⟨g, 0, none⟩) n3 _) 1).trans rfl, (Bk.cell ((k2.alloc _).far (p := ⟨g, 0, none⟩) n2 _) 1).trans rfl⟩)
      (first
        | (go_at_call 302; refine (SC.out _ (by first | exact kg.drew_ | exact (kg.alloc _).drew_)).mono ?_; rintro e wa ⟨rfl, rfl⟩))
    all_goals
      go_wp2_with fail
      go_meet
      exact ⟨X.heap.size, rfl, EV⟩
  case rest =>
    obtain ⟨q, rfl, E⟩ := hcut
    clear k1 k2 k3 kr kg hB3' t0 SC RC1 RC2 ZC CUT
    have e0 := (E.ev.cell 0).trans (rfl : _ = some (Value.int .i64 (V % 2)))
    have e1 := (E.ev.cell 1).trans (rfl : _ = some (Value.int .i64 (p + D)))
    have e2 := (E.ev.cell 2).trans (rfl : _ = some (Value.int .i64 U))
    go_wp2_with fail
    refine (EF.out _).mono ?_
    rintro e w5 ⟨rfl, b5⟩
    have g5 := E.grown.trans (grown_of_below (some g) b5)
    have kg := E.var.kept b5
    have kq := E.ev.kept b5
    have kr := E.res.kept b5
    have k1 := E.rd1.kept b5
    have k2 := E.rd2.kept b5
    clear E e0 e1 e2 b5 EF
    go_wp2_with fail
    have e0 : w5.cell? ⟨q, 0, none⟩ = some (Value.int .i64 (V % 2)) := (kq.cell 0).trans rfl
    have e1 : w5.cell? ⟨q, 1, none⟩ = some (Value.int .i64 (p + D)) := (kq.cell 1).trans rfl
    have e2 : w5.cell? ⟨q, 2, none⟩ = some (Value.int .i64 U) := (kq.cell 2).trans rfl
    have r0 : w5.cell? ⟨w.heap.size, 0, none⟩ = some (Value.int .i64 0) := (kr.cell 0).trans rfl
    have r1 : w5.cell? ⟨w.heap.size, 1, none⟩ = some (Value.int .i64 0) := (kr.cell 1).trans rfl
    have r2 : w5.cell? ⟨w.heap.size, 2, none⟩ = some (Value.int .i64 0) := (kr.cell 2).trans rfl
    have f0 := kr.frozen 0
    have f1 := kr.frozen 1
    have f2 := kr.frozen 2
    have s1 : w5.cell? ⟨h1, 2, none⟩ = some (Value.int .i64 Z) := (k1.cell 2).trans rfl
    have s2 : w5.cell? ⟨h2, 2, none⟩ = some (Value.int .i64 M) := (k2.cell 2).trans rfl
    have s3 : IntKind.i64.wrap ((Z : Int) + (M : Int)) = (Z : Int) + (M : Int) := IntWalk.i64_in _ (by omega)
    go_region
    go_wp2
    refine bodyPost_ret (v := .tuple #[evV (V % 2) (p + D) U, .int .i64 ((Z : Int) + (M : Int))]) (by simp [results, Tryz.results278, go_sem, r0, r1, r2]) rfl ?_
    have n0 : ∀ i : Nat, g ≠ (⟨w.heap.size, i, none⟩ : Addr).block := fun i => by simp only; omega
    exact ⟨rfl, grown_drewN (grown_new (Nat.le_refl _) _ (grown_new (Nat.le_refl _) _ (grown_new (Nat.le_refl _) _ g5))) 1, ((kg.far (n0 0) _).far (n0 1) _).far (n0 2) _⟩
end Go.Proofs.YtnnfkmjhaljplaaGreatDoor
