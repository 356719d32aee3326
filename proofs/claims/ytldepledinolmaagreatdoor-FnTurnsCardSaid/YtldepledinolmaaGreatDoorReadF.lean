/- Contracts of where a frame's events lie, in the program and in its model. -/
import Derived.Test.YtldepledinolmaaGreatDoorGSent
import Derived.Test.YtldepledinolmaaGreatDoorFrMath
import Derived.Test.YtldepledinolmaaGreatDoorUnpS
import Derived.Test.YtldepledinolmaaGreatDoorGRead
namespace Go.Proofs.YtldepledinolmaaGreatDoor
open Go.RowKit

theorem getD_at (d : List Int) (i : Nat) (h : i < d.length) : d.getD i 0 = d[i] := by simp [h]

/-- What stepsPlace tells. -/
def PlPost (d : List Int) (aN : Addr) (w : World) (e : Ending) (w' : World) : Prop :=
  ((frHd d ∧ e = .returned (.tuple #[.int .i64 (frFrom d : Nat), .int .i64 (frTo d : Nat), .nilIface])) ∨ (¬ frHd d ∧ e = .returned (.tuple #[.int .i64 0, .int .i64 0, errV aN]))) ∧ Below w.heap.size w w'

set_option maxRecDepth 100000 in
set_option maxHeartbeats 1000000 in
theorem stepsPlace_any (d : List Int) (A : Option Addr) (c : Nat) (aN : Addr) (w : World) (hm : d.length ≤ 1048576) (hc : d.length ≤ c) (hR : Rd .u8 w w.heap.size A d) (b8 : B8 d)
    (hN : w.cell? ⟨0, 0, none⟩ = some (errV aN)) :
    Calls Tryz.prog 56 #[.slice A d.length c] w (PlPost d aN w) := by
  have n0 := block_lt_of_cell hN
  have n0p : 0 < w.heap.size := Nat.lt_of_le_of_lt (Nat.zero_le _) n0
  by_cases h2 : 2 ≤ d.length
  · obtain ⟨b, off, hA, hb, hx⟩ := hR.all (by omega)
    have c0 := hx 0 (by omega)
    have c1 := hx 1 (by omega)
    rw [Nat.add_zero] at c0
    obtain ⟨x0, hx0⟩ : ∃ x, x = d[0] := ⟨_, rfl⟩
    obtain ⟨x1, hx1⟩ : ∃ x, x = d[1] := ⟨_, rfl⟩
    have d0 : d.getD 0 0 = x0 := by rw [getD_at d 0 (by omega), hx0]
    have d1 : d.getD 1 0 = x1 := by rw [getD_at d 1 (by omega), hx1]
    have bd0 := b8.get 0 (by omega)
    have bd1 := b8.get 1 (by omega)
    rw [← hx0] at c0 bd0
    rw [← hx1] at c1 bd1
    clear hx hx0 hx1
    by_cases e0 : x0 = 66
    · by_cases e1 : x1 < 4
      · have RC := hide (fun W hW => implRead_any (d.drop 2) (cutA A 2 c) (c - 2) W (by rw [List.length_drop]; omega) (by rw [List.length_drop]; omega) hW (b8.drop 2))
        have hcR := hR.cut h2 hc
        have CUT := fun W => run_cut A d.length 2 c 2 W rfl h2
        rw [List.length_drop] at RC
        have hcode := rd_code (d.drop 2)
        have hback := rd_back (l := d.drop 2) (b8.drop 2)
        rw [List.length_drop] at hback
        have hxV : 0 ≤ rdV (d.drop 2) := by
          rcases hcode with ⟨hz, _⟩ | ⟨_, h1, _⟩
          · exact (hback hz).2.2.1
          · omega
        obtain ⟨C, hC⟩ : ∃ C, C = rdC (d.drop 2) := ⟨_, rfl⟩
        obtain ⟨V, hV⟩ : ∃ V, V = rdV (d.drop 2) := ⟨_, rfl⟩
        obtain ⟨Z, hZ⟩ : ∃ Z : Nat, rdZ (d.drop 2) = Z := ⟨(rdZ (d.drop 2)).toNat, by
          rcases hcode with ⟨hz, _⟩ | ⟨_, _, h1⟩
          · have := (hback hz).1; omega
          · omega⟩
        have HH : Hid (frHd d ↔ (C = 0 ∧ 1 ≤ V ∧ V ≤ 200 ∧ 2 + Z + V.toNat + 4 ≤ d.length)) := hide (by
          unfold frHd frTo frFrom
          rw [d0, d1, ← hC, ← hV, hZ, Int.toNat_natCast]
          constructor
          · rintro ⟨_, _, _, a, b, c, e⟩; exact ⟨a, b, c, e⟩
          · rintro ⟨a, b, c, e⟩; exact ⟨h2, e0, e1, a, b, c, e⟩)
        have HFr : Hid (frFrom d = 2 + Z) := hide (by unfold frFrom; rw [hZ, Int.toNat_natCast])
        have HTo : Hid (frTo d = 2 + Z + V.toNat) := hide (by unfold frTo frFrom; rw [← hV, hZ, Int.toNat_natCast])
        rw [← hC, ← hV, hZ] at RC hcode hback
        rw [← hV] at hxV
        have HC : C = 0 ∧ 1 ≤ Z ∧ Z ≤ d.length - 2 ∨ C = 5 ∧ V = 0 ∧ Z = 0 := by
          rcases hcode with ⟨hz, _⟩ | ⟨a, h1, h3⟩
          · have := hback hz; omega
          · omega
        subst hA
        subst e0
        clear hC hV hZ hcode hback d0 d1
        rcases HC with ⟨rfl, z1, z2⟩ | ⟨rfl, rfl, rfl⟩
        · by_cases hv : 1 ≤ V ∧ V ≤ 200
          · by_cases ht : 2 + Z + V.toNat + 4 ≤ d.length
            · have HF : frHd d := HH.out.2 ⟨rfl, hv.1, hv.2, ht⟩
              obtain ⟨v, rfl⟩ := Int.eq_ofNat_of_zero_le hxV
              have hv1 := hv.1
              have hv2 := hv.2
              have ht2 : ¬ ((d.length : Int) < 2 + (Z : Int) + (v : Int) + 4) := by omega
              clear hxV
              go_enter Tryz.func56, Tryz.ntmps56
              go_wp2_with fail
              refine (RC.out _ hcR).mono ?_
              rintro e w2 ⟨rfl, b2⟩
              go_wp2_with fail
              refine (allWithin_one _ _ _ _ _ _ (by simp [go_sem]) hv).mono ?_
              rintro e w3 ⟨rfl, rfl⟩
              go_wp2
              refine bodyPost_ret (v := .tuple #[.int .i64 (2 + (Z : Int)), .int .i64 (2 + (Z : Int) + (v : Int)), .nilIface]) (by simp [results, Tryz.results56, go_sem]) rfl ?_
              exact ⟨.inl ⟨HF, by rw [HFr.out, HTo.out]; simp [Int.toNat_natCast, Int.add_assoc]⟩, (b2.alloc b2.size _).alloc (by simp; have := b2.size; omega) _⟩
            · have HF : ¬ frHd d := fun h => ht (HH.out.1 h).2.2.2
              obtain ⟨v, rfl⟩ := Int.eq_ofNat_of_zero_le hxV
              have hv1 := hv.1
              have hv2 := hv.2
              have ht2 : (d.length : Int) < 2 + (Z : Int) + (v : Int) + 4 := by omega
              clear hxV
              go_enter Tryz.func56, Tryz.ntmps56
              go_wp2_with fail
              refine (RC.out _ hcR).mono ?_
              rintro e w2 ⟨rfl, b2⟩
              have hN2 := cell_kept b2 hN
              have n2 := block_lt_of_cell hN2
              have n2p : 0 < w2.heap.size := Nat.lt_of_le_of_lt (Nat.zero_le _) n2
              go_wp2_with fail
              refine (allWithin_one _ _ _ _ _ _ (by simp [go_sem]) hv).mono ?_
              rintro e w3 ⟨rfl, rfl⟩
              go_wp2
              go_quiet (fail)
              go_wp2
              refine bodyPost_ret (v := .tuple #[.int .i64 0, .int .i64 0, errV aN]) (by simp [results, Tryz.results56, go_sem]) rfl ?_
              exact ⟨.inr ⟨HF, rfl⟩, below_drewN ((b2.alloc b2.size _).alloc (by simp; have := b2.size; omega) _) _⟩
          · have HF : ¬ frHd d := fun h => hv ⟨(HH.out.1 h).2.1, (HH.out.1 h).2.2.1⟩
            have hv' : V < 1 ∨ 200 < V := by omega
            clear hv
            go_enter Tryz.func56, Tryz.ntmps56
            go_wp2_with fail
            refine (RC.out _ hcR).mono ?_
            rintro e w2 ⟨rfl, b2⟩
            have hN2 := cell_kept b2 hN
            have n2 := block_lt_of_cell hN2
            have n2p : 0 < w2.heap.size := Nat.lt_of_le_of_lt (Nat.zero_le _) n2
            go_wp2_with fail
            refine (allWithin_not _ _ _ _ _ _ (by simp [go_sem]) hv').mono ?_
            rintro e w3 ⟨rfl, rfl⟩
            go_wp2
            go_quiet (fail)
            go_wp2
            refine bodyPost_ret (v := .tuple #[.int .i64 0, .int .i64 0, errV aN]) (by simp [results, Tryz.results56, go_sem]) rfl ?_
            exact ⟨.inr ⟨HF, rfl⟩, below_drewN ((b2.alloc b2.size _).alloc (by simp; have := b2.size; omega) _) _⟩
        · have HF : ¬ frHd d := fun h => by have := (HH.out.1 h).1; omega
          go_enter Tryz.func56, Tryz.ntmps56
          go_wp2_with fail
          refine (RC.out _ hcR).mono ?_
          rintro e w2 ⟨rfl, b2⟩
          have hN2 := cell_kept b2 hN
          have n2 := block_lt_of_cell hN2
          have n2p : 0 < w2.heap.size := Nat.lt_of_le_of_lt (Nat.zero_le _) n2
          go_wp2
          go_quiet (fail)
          go_wp2
          refine bodyPost_ret (v := .tuple #[.int .i64 0, .int .i64 0, errV aN]) (by simp [results, Tryz.results56, go_sem]) rfl ?_
          exact ⟨.inr ⟨HF, rfl⟩, below_drewN (b2.alloc b2.size _) _⟩
      · have HF : ¬ frHd d := fun h => e1 (by rw [← d1]; exact h.2.2.1)
        subst hA
        subst e0
        clear d0 d1
        go_enter Tryz.func56, Tryz.ntmps56
        go_wp2
        go_quiet (fail)
        go_wp2
        refine bodyPost_ret (v := .tuple #[.int .i64 0, .int .i64 0, errV aN]) (by simp [results, Tryz.results56, go_sem]) rfl ?_
        exact ⟨.inr ⟨HF, rfl⟩, below_drewN (Below.refl _ _) _⟩
    · have HF : ¬ frHd d := fun h => e0 (by rw [← d0]; exact h.2.1)
      have f0 : (x0 != 66) = true := bne_iff_ne.2 e0
      have f1 : (x0 == 66) = false := beq_eq_false_iff_ne.2 e0
      subst hA
      clear e0 d0 d1 c1 bd1
      go_enter Tryz.func56, Tryz.ntmps56
      go_wp2
      go_quiet (fail)
      go_wp2
      refine bodyPost_ret (v := .tuple #[.int .i64 0, .int .i64 0, errV aN]) (by simp [results, Tryz.results56, go_sem]) rfl ?_
      exact ⟨.inr ⟨HF, rfl⟩, below_drewN (Below.refl _ _) _⟩
  · have HF : ¬ frHd d := fun h => h2 h.1
    go_enter Tryz.func56, Tryz.ntmps56
    go_wp2
    go_quiet (fail)
    go_wp2
    refine bodyPost_ret (v := .tuple #[.int .i64 0, .int .i64 0, errV aN]) (by simp [results, Tryz.results56, go_sem]) rfl ?_
    exact ⟨.inr ⟨HF, rfl⟩, below_drewN (Below.refl _ _) _⟩
end Go.Proofs.YtldepledinolmaaGreatDoor
