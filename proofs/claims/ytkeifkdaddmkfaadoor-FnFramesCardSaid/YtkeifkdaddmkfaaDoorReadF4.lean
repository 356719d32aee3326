/- Contracts of ReadFrame, in the program and in its model. -/
import Derived.Test.YtkeifkdaddmkfaaDoorReadF3
import Derived.Test.YtkeifkdaddmkfaaDoorFrM
namespace Go.Proofs.YtkeifkdaddmkfaaDoor
open Go.RowKit

/-- What l3Head tells. -/
def HdPost (d : List Int) (w : World) (e : Ending) (w' : World) : Prop :=
  ((frHd d ∧ e = .returned (.tuple #[.int .i64 (frFrom d : Nat), .int .i64 (frTo d : Nat)])) ∨ (¬ frHd d ∧ e = .returned (.tuple #[.int .i64 0, .int .i64 0]))) ∧ Below w.heap.size w w'

set_option maxRecDepth 100000 in
set_option maxHeartbeats 1000000 in
theorem l3Head_any (d : List Int) (A : Option Addr) (c : Nat) (w : World) (hm : d.length ≤ 1048576) (hc : d.length ≤ c) (hR : Rd .u8 w w.heap.size A d) (b8 : B8 d) :
    Calls Tryd.prog 46 #[.slice A d.length c] w (HdPost d w) := by
  by_cases h2 : 2 ≤ d.length
  · obtain ⟨b, off, hA, hb, hx⟩ := hR.all (by omega)
    have c0 := hx 0 (by omega)
    have c1 := hx 1 (by omega)
    rw [Nat.add_zero] at c0
    obtain ⟨x0, hx0⟩ : ∃ x, x = d[0] := ⟨_, rfl⟩
    obtain ⟨x1, hx1⟩ : ∃ x, x = d[1] := ⟨_, rfl⟩
    have d0 : d.getD 0 0 = x0 := by rw [getD_at d 0 (by omega), hx0]
    have d1 : d.getD 1 0 = x1 := by rw [getD_at d 1 (by omega), hx1]
    have bd0 := b8.get 0 (by omega)
    have bd1 := b8.get 1 (by omega)
    rw [← hx0] at c0 bd0
    rw [← hx1] at c1 bd1
    clear hx hx0 hx1
    by_cases e0 : x0 = 66
    · by_cases e1 : x1 < 4
      · have RC := hide (fun W hW => l1Read_any (d.drop 2) (cutA A 2 c) (c - 2) W (by rw [List.length_drop]; omega) (by rw [List.length_drop]; omega) hW (b8.drop 2))
        have hcR := hR.cut h2 hc
        have CUT := fun W => run_cut A d.length 2 c 2 W rfl h2
        rw [List.length_drop] at RC
        have hcode := rd_code (d.drop 2)
        have hback := rd_back (l := d.drop 2) (b8.drop 2)
        rw [List.length_drop] at hback
        have hxV : 0 ≤ rdV (d.drop 2) := by
          rcases hcode with ⟨hz, _⟩ | ⟨_, h1, _⟩
          · exact (hback hz).2.2.1
          · omega
        obtain ⟨C, hC⟩ : ∃ C, C = rdC (d.drop 2) := ⟨_, rfl⟩
        obtain ⟨V, hV⟩ : ∃ V, V = rdV (d.drop 2) := ⟨_, rfl⟩
        obtain ⟨Z, hZ⟩ : ∃ Z : Nat, rdZ (d.drop 2) = Z := ⟨(rdZ (d.drop 2)).toNat, by
          rcases hcode with ⟨hz, _⟩ | ⟨_, _, h1⟩
          · have := (hback hz).1; omega
          · omega⟩
        have HH : Hid (frHd d ↔ (C = 0 ∧ 1 ≤ V ∧ V ≤ 200 ∧ 2 + Z + V.toNat + 4 ≤ d.length)) := hide (by
          unfold frHd frTo frFrom
          rw [d0, d1, ← hC, ← hV, hZ, Int.toNat_natCast]
          constructor
          · rintro ⟨_, _, _, a, b, c, e⟩; exact ⟨a, b, c, e⟩
          · rintro ⟨a, b, c, e⟩; exact ⟨h2, e0, e1, a, b, c, e⟩)
        have HFr : Hid (frFrom d = 2 + Z) := hide (by unfold frFrom; rw [hZ, Int.toNat_natCast])
        have HTo : Hid (frTo d = 2 + Z + V.toNat) := hide (by unfold frTo frFrom; rw [← hV, hZ, Int.toNat_natCast])
        rw [← hC] at hcode hback
        rw [← hV, hZ] at RC hcode hback
        rw [← hV] at hxV
        have HC : C = 0 ∧ 1 ≤ Z ∧ Z ≤ d.length - 2 ∧ V ≤ 9223372036854775807 ∨ C = 5 ∧ V = 0 ∧ Z = 0 := by
          rcases hcode with ⟨hz, _⟩ | ⟨a, h1, h3⟩
          · have := hback hz; omega
          · omega
        subst hA
        subst e0
        clear hC hV hZ hcode hback d0 d1
        rcases HC with ⟨rfl, z1, z2, z3⟩ | ⟨rfl, rfl, rfl⟩
        · have zb : ((Z : Int) == 0) = false := beq_eq_false_iff_ne.2 (by omega)
          by_cases hv : 1 ≤ V ∧ V ≤ 200
          · have hv1 : ¬ V < 1 := by omega
            have hv2 : ¬ 200 < V := by omega
            by_cases ht : 2 + Z + V.toNat + 4 ≤ d.length
            · have HF : frHd d := HH.out.2 ⟨rfl, hv.1, hv.2, ht⟩
              obtain ⟨v, rfl⟩ := Int.eq_ofNat_of_zero_le hxV
              have ht2 : ¬ ((d.length : Int) - 2 - (Z : Int) < (v : Int) + 4) := by omega
              clear hxV
              go_enter Tryd.func46, Tryd.ntmps46
              go_wp2_with fail
              refine (RC.out _ hcR).mono ?_
              rintro e w2 ⟨rfl, b2⟩
              go_wp2
              refine bodyPost_ret (v := .tuple #[.int .i64 (2 + (Z : Int)), .int .i64 (2 + (Z : Int) + (v : Int))]) (by simp [results, Tryd.results46, go_sem]) rfl ?_
              exact ⟨.inl ⟨HF, by rw [HFr.out, HTo.out]; simp [Int.toNat_natCast, Int.add_assoc]⟩, b2⟩
            · have HF : ¬ frHd d := fun h => ht (HH.out.1 h).2.2.2
              obtain ⟨v, rfl⟩ := Int.eq_ofNat_of_zero_le hxV
              have ht2 : (d.length : Int) - 2 - (Z : Int) < (v : Int) + 4 := by omega
              clear hxV
              go_enter Tryd.func46, Tryd.ntmps46
              go_wp2_with fail
              refine (RC.out _ hcR).mono ?_
              rintro e w2 ⟨rfl, b2⟩
              go_wp2
              go_ret2
              exact ⟨.inr ⟨HF, rfl⟩, b2⟩
          · have HF : ¬ frHd d := fun h => hv ⟨(HH.out.1 h).2.1, (HH.out.1 h).2.2.1⟩
            by_cases hv1 : V < 1
            · clear hv
              go_enter Tryd.func46, Tryd.ntmps46
              go_wp2_with fail
              refine (RC.out _ hcR).mono ?_
              rintro e w2 ⟨rfl, b2⟩
              go_wp2
              go_ret2
              exact ⟨.inr ⟨HF, rfl⟩, b2⟩
            · have hv2 : 200 < V := by omega
              clear hv
              go_enter Tryd.func46, Tryd.ntmps46
              go_wp2_with fail
              refine (RC.out _ hcR).mono ?_
              rintro e w2 ⟨rfl, b2⟩
              go_wp2
              go_ret2
              exact ⟨.inr ⟨HF, rfl⟩, b2⟩
        · have HF : ¬ frHd d := fun h => by have := (HH.out.1 h).1; omega
          go_enter Tryd.func46, Tryd.ntmps46
          go_wp2_with fail
          refine (RC.out _ hcR).mono ?_
          rintro e w2 ⟨rfl, b2⟩
          go_wp2
          go_ret2
          exact ⟨.inr ⟨HF, rfl⟩, b2⟩
      · have HF : ¬ frHd d := fun h => e1 (by rw [← d1]; exact h.2.2.1)
        subst hA
        subst e0
        clear d0 d1
        go_enter Tryd.func46, Tryd.ntmps46
        go_wp2
        go_ret2
        exact ⟨.inr ⟨HF, rfl⟩, Below.refl _ _⟩
    · have HF : ¬ frHd d := fun h => e0 (by rw [← d0]; exact h.2.1)
      have f0 : (x0 != 66) = true := bne_iff_ne.2 e0
      have f1 : (x0 == 66) = false := beq_eq_false_iff_ne.2 e0
      subst hA
      clear e0 d0 d1 c1 bd1
      go_enter Tryd.func46, Tryd.ntmps46
      go_wp2
      go_ret2
      exact ⟨.inr ⟨HF, rfl⟩, Below.refl _ _⟩
  · have HF : ¬ frHd d := fun h => h2 h.1
    go_enter Tryd.func46, Tryd.ntmps46
    go_wp2
    go_ret2
    exact ⟨.inr ⟨HF, rfl⟩, Below.refl _ _⟩

/-- What ReadFrame tells. -/
def RfPost (d : List Int) (w : World) (e : Ending) (w' : World) : Prop :=
  ∃ A c, e = .returned (frR (frC d) (frK d) A (frE d).length c (frZ d)) ∧ w'.ownsRow w.heap.size 81 3 (.slice A (frE d).length c) (frE d).length (evs (frE d)) ∧ Below w.heap.size w w'
theorem RfPost.bad {d : List Int} {w w' : World} (h : ¬ frC d = 0) (hb : Below w.heap.size w w') : RfPost d w (.returned (frR (frC d) 0 none 0 0 0)) w' := by
  obtain ⟨h1, h2, h3⟩ := frC_not h
  unfold RfPost
  rw [h1, h2, h3]
  exact ⟨none, 0, rfl, World.ownsRow_nil _ _ _ _, hb⟩
theorem frC_cases (d : List Int) : frC d = 0 ∨ frC d = 5 ∨ frC d = 6 ∨ frC d = 1 := by
  by_cases h0 : frHd d
  · by_cases h1 : frSum d
    · by_cases h2 : unC (frPay d) = 0
      · exact .inl (frC_ok h0 h1 h2)
      · exact .inr (.inr (.inr (frC_form h0 h1 h2)))
    · exact .inr (.inr (.inl (frC_sum h0 h1)))
  · exact .inr (.inl (frC_text h0))

set_option maxRecDepth 100000 in
set_option maxHeartbeats 1000000 in
theorem implRf_any (d : List Int) (A : Option Addr) (c : Nat) (aN aS aE : Addr) (w : World) (hm : d.length ≤ 1048576) (hc : d.length ≤ c) (hR : Rd .u8 w w.heap.size A d) (b8 : B8 d) (hT : Tab w) (hS : Sent aN aS aE w) :
    Calls Tryd.prog 10 #[.slice A d.length c] w (RfPost d w) := by
  obtain ⟨W, hW⟩ : ∃ W, W = w.alloc (Obj.cells #[Value.int .i64 0, .int .i64 0, .slice none 0 0, .int .i64 0] 33) := ⟨_, rfl⟩
  have HW := hide hW
  have B0 : Below w.heap.size w W := by subst hW; exact (Below.refl _ _).alloc (Nat.le_refl _) _
  have hR' : Rd .u8 W W.heap.size A d := (hR.below B0).lt
  have hT' : Tab W := hT.below B0
  have hS' : Sent aN aS aE W := hS.below B0
  clear hW hT hS hR
  have FA := frameAhead_any d A c aN aS aE W hm hc hR' b8 hT' hS'
  by_cases hC : frC d = 0
  · have FY := hide (FA.mono fun e w' hp => by
      rcases hp with ⟨_, h⟩ | ⟨h, _⟩
      · exact h
      · exact absurd hC h)
    obtain ⟨K, hK⟩ : ∃ K, K = frK d := ⟨_, rfl⟩
    obtain ⟨E, hE⟩ : ∃ E, E = frE d := ⟨_, rfl⟩
    obtain ⟨Z, hZ⟩ : ∃ Z, Z = frZ d := ⟨_, rfl⟩
    unfold RfPost
    rw [← hK, ← hE, ← hZ] at FY ⊢
    rw [hC]
    clear FA hC hK hE hZ
    go_enter Tryd.func10, Tryd.ntmps10
    go_wp2_with fail
    rw [← HW.out]
    refine FY.out.mono ?_
    rintro e w1 ⟨A1, c1, rfl, o1, b1⟩
    have x3 := Bk.new w1 #[Value.int .i64 K, .slice A1 E.length c1] 26
    have e3 := b1.alloc b1.size (Obj.cells #[Value.int .i64 K, .slice A1 E.length c1] 26)
    have o3 := own_below o1 ((Below.refl _ _).alloc (Nat.le_refl _) (Obj.cells #[Value.int .i64 K, .slice A1 E.length c1] 26)) (Nat.le_refl _)
    have q0 := W_cell HW.out e3 0
    have q1 := W_cell HW.out e3 1
    have q2 := W_cell HW.out e3 2
    have q3 := W_cell HW.out e3 3
    have f0 := W_frozen HW.out e3 0
    have f1 := W_frozen HW.out e3 1
    have f2 := W_frozen HW.out e3 2
    have f3 := W_frozen HW.out e3 3
    have y0 := (x3.cell 0).trans (rfl : _ = some (Value.int .i64 K))
    have y1 := (x3.cell 1).trans (rfl : _ = some (Value.slice A1 E.length c1))
    simp at q0 q1 q2 q3
    have hO := hide o3
    have HB := hide e3
    have zW := W_size HW.out
    clear x3 e3 o1 o3 b1
    go_wp2
    refine bodyPost_ret (v := frR 0 K A1 E.length c1 Z) (by simp [results, Tryd.results10, go_sem, q0, q1, q2, q3]) rfl ?_
    refine ⟨A1, c1, rfl, ?_, (((((W_below HW.out HB.out).setCell (Nat.le_refl _) _).setCell (Nat.le_refl _) _).setCell (Nat.le_refl _) _).setCell (Nat.le_refl _) _)⟩
    have o4 := ownsRow_setCell_below hO.out (a := ⟨w.heap.size, 0, none⟩) (by simp; omega) (.int .i64 0)
    have o5 := ownsRow_setCell_below o4 (a := ⟨w.heap.size, 1, none⟩) (by simp; omega) (.int .i64 K)
    have o6 := ownsRow_setCell_below o5 (a := ⟨w.heap.size, 2, none⟩) (by simp; omega) (.slice A1 E.length c1)
    have o7 := ownsRow_setCell_below o6 (a := ⟨w.heap.size, 3, none⟩) (by simp; omega) (.int .i64 Z)
    exact own_mono o7 (by omega)
  · have FN := hide (FA.mono fun e w' hp => by
      rcases hp with ⟨h, _⟩ | ⟨_, h⟩
      · exact absurd h hC
      · exact h)
    have hcs : frC d = 5 ∨ frC d = 6 ∨ frC d = 1 := (frC_cases d).resolve_left hC
    have FP := hide (fun (w' : World) (h : Below w.heap.size w w') => RfPost.bad hC h)
    have FC := hide (fun W h => frameCode_any aN aS aE (frC d) W h hcs)
    obtain ⟨C, hCC⟩ : ∃ C, C = frC d := ⟨_, rfl⟩
    rw [← hCC] at FN FC FP
    clear FA hC hCC hcs
    go_enter Tryd.func10, Tryd.ntmps10
    go_wp2_with fail
    rw [← HW.out]
    refine FN.out.mono ?_
    rintro e w1 ⟨rfl, b1⟩
    have e3 := b1.alloc b1.size (Obj.cells #[Value.int .i64 0, .slice none 0 0] 26)
    have q0 := W_cell HW.out e3 0
    have q1 := W_cell HW.out e3 1
    have q2 := W_cell HW.out e3 2
    have q3 := W_cell HW.out e3 3
    have f0 := W_frozen HW.out e3 0
    have f1 := W_frozen HW.out e3 1
    have f2 := W_frozen HW.out e3 2
    have f3 := W_frozen HW.out e3 3
    simp at q0 q1 q2 q3
    have hS3 := hS'.below e3
    have HB := hide e3
    clear e3 b1
    go_wp2_with fail
    refine (FC.out _ hS3).mono ?_
    rintro e w2 ⟨rfl, rfl⟩
    go_wp2
    refine bodyPost_ret (v := frR C 0 none 0 0 0) (by simp [results, Tryd.results10, go_sem, q0, q1, q2, q3]) rfl ?_
    exact FP.out _ (((((W_below HW.out HB.out).setCell (Nat.le_refl _) _).setCell (Nat.le_refl _) _).setCell (Nat.le_refl _) _).setCell (Nat.le_refl _) _)
end Go.Proofs.YtkeifkdaddmkfaaDoor
