/- The program's reading of what a frame holds. -/
import Derived.Test.YtkeifkdaddmkfaaDoorReadF
import Derived.Test.YtkeifkdaddmkfaaDoorUnpI2
import Derived.Test.YtkeifkdaddmkfaaDoorSame
import Derived.Deep.RegionHeld3
import Derived.Deep.DeepCutAuto
namespace Go.Proofs.YtkeifkdaddmkfaaDoor
open Go.RowKit

theorem run_head (A : Option Addr) (n k c : Nat) (l : Int) (w : World) (hl : l = k) (h : k ≤ c) : (Instr.slice 22 (.slice A n c) none (some (.int .i64 l)) none).run Tryd.prog w = .ok (.slice A k c) w := by
  subst hl
  simp [go_sem, h]
theorem run_mid (A : Option Addr) (n k m c : Nat) (l r : Int) (w : World) (hl : l = k) (hr : r = ((k + m : Nat) : Int)) (hm : k + m ≤ c) : (Instr.slice 22 (.slice A n c) (some (.int .i64 l)) (some (.int .i64 r)) none).run Tryd.prog w = .ok (.slice (cutA A k c) m (c - k)) w := by
  subst hl
  subst hr
  have h2 : (0 : Int) ≤ (k : Int) + (m : Int) ∧ (k : Int) + (m : Int) ≤ (c : Int) := by omega
  have h3 : ((k : Int) + (m : Int)).toNat = k + m := by omega
  simp [go_sem, h2, h3, cutA]

/-- What frameAhead tells. -/
def FaPost (d : List Int) (aN aS aE : Addr) (w : World) (e : Ending) (w' : World) : Prop :=
  (frC d = 0 ∧ ∃ A c, e = .returned (.tuple #[frV (frK d) A (frE d).length c, .int .i64 (frZ d), .nilIface]) ∧ w'.ownsRow w.heap.size 81 3 (.slice A (frE d).length c) (frE d).length (evs (frE d)) ∧ Below w.heap.size w w') ∨
  (¬ frC d = 0 ∧ e = .returned (.tuple #[frV 0 none 0 0, .int .i64 0, errV (errOf aN aS aE (frC d))]) ∧ Below w.heap.size w w')
theorem frTo_small {d : List Int} (b8 : B8 d) (h : frHd d) : frTo d ≤ 204 := by
  obtain ⟨h0, h1, h2, h3, h4, h5, h6⟩ := h
  obtain ⟨z1, z2, z3, z4, z5⟩ := rd_back (b8.drop 2) h3
  have := congrArg List.length z5
  have hp : (putL (rdV (d.drop 2))).length ≤ 2 := by
    by_cases h7 : rdV (d.drop 2) < 128
    · rw [putL_small h7]; simp
    · rw [putL_big (by omega), putL_small (by omega)]; simp
  rw [List.length_take] at this
  unfold frTo frFrom
  omega

set_option maxRecDepth 100000 in
set_option maxHeartbeats 2000000 in
theorem frameAhead_any (d : List Int) (A : Option Addr) (c : Nat) (aN aS aE : Addr) (w : World) (hm : d.length ≤ 1048576) (hc : d.length ≤ c) (hR : Rd .u8 w w.heap.size A d) (b8 : B8 d) (hT : Tab w) (hS : Sent aN aS aE w) :
    Calls Tryd.prog 44 #[.slice A d.length c] w (FaPost d aN aS aE w) := by
  obtain ⟨W, hW⟩ : ∃ W, W = w.alloc (Obj.cells #[Value.int .i64 0, .slice none 0 0] 26) := ⟨_, rfl⟩
  have HW := hide hW
  have B0 : Below w.heap.size w W := by subst hW; exact (Below.refl _ _).alloc (Nat.le_refl _) _
  have hR' : Rd .u8 W W.heap.size A d := (hR.below B0).lt
  have hT' : Tab W := hT.below B0
  have hS' : Sent aN aS aE W := hS.below B0
  have hlt := hS.lts
  have g1 : 0 ≠ w.heap.size := by omega
  have g2 : 1 ≠ w.heap.size := by omega
  clear hW hT hS hR
  have PL := hide (stepsPlace_any d A c aN W hm hc hR' b8 hS'.vN)
  by_cases hh : frHd d
  · have ht := frTo_small b8 hh
    have hpl := frPay_len d hh
    have hp8 : B8 (frPay d) := (b8.take _).drop _
    have hq : frTo d + 4 ≤ d.length := hh.2.2.2.2.2.2
    have hft : frTo d = frFrom d + (rdV (d.drop 2)).toNat := rfl
    have hf2 : 2 ≤ frFrom d := by unfold frFrom; omega
    obtain ⟨b, off, hA, hb, hx⟩ := hR'.all (by omega)
    have c1 := hx 1 (by omega)
    have hK : d.getD 1 0 = d[1] := getD_at d 1 (by omega)
    have bd1 := b8.get 1 (by omega)
    obtain ⟨x1, hx1⟩ : ∃ x, x = d[1] := ⟨_, rfl⟩
    rw [← hx1] at c1 hK bd1
    have RT := hR'.take (frTo d)
    have RS := (hR'.cut (n := frTo d) (by omega) hc).take 4
    have RP := (hR'.take (frTo d)).cut (n := frFrom d) (c := c) (by rw [List.length_take]; omega) (by rw [List.length_take]; omega)
    have b8S : B8 ((d.drop (frTo d)).take 4) := (b8.drop _).take _
    have lT : (d.take (frTo d)).length = frTo d := by rw [List.length_take]; omega
    have lS : ((d.drop (frTo d)).take 4).length = 4 := by rw [List.length_take, List.length_drop]; omega
    have lP : (frPay d).length = frTo d - frFrom d := by rw [hpl]; omega
    have hbd := crcV_bd (b8.take (frTo d))
    have b8V := fourL_B8 hbd
    have SM : Hid (frSum d ↔ fourL (crcV (d.take (frTo d))) = (d.drop (frTo d)).take 4) := hide Iff.rfl
    have SB0 := fun W hW hT => sumBytes_any (d.take (frTo d)) A c W (by rw [List.length_take]; omega) hW (b8.take _) hT
    have SA0 := fun g W h h' => implSame_any (fourL (crcV (d.take (frTo d)))) ((d.drop (frTo d)).take 4) (some ⟨g, 0, none⟩) (cutA A (frTo d) c) 4 (c - frTo d) W h h' b8V b8S
    have UN0 := fun W h => implUn_any (frPay d) (cutA A (frFrom d) c) (c - frFrom d) W (by rw [hpl]; omega) (by rw [hpl]; omega) h hp8
    have RP' : Rd .u8 W W.heap.size (cutA A (frFrom d) c) (frPay d) := RP
    rw [lT] at SB0
    rw [lS, fourL_length] at SA0
    rw [lP] at UN0
    have SB := hide SB0
    have SA := hide SA0
    have UN := hide UN0
    clear SB0 SA0 UN0
    have PY := hide (PL.out.mono fun e w' hp => by
      rcases hp with ⟨⟨_, h1⟩ | ⟨h2, _⟩, h3⟩
      · exact And.intro h1 h3
      · exact absurd hh h2)
    have CN := hide (fun h1 : ¬ frSum d => frC_sum hh h1)
    have CF := hide (fun (h1 : frSum d) (h2 : ¬ unC (frPay d) = 0) => frC_form hh h1 h2)
    have CO := hide (fun (h1 : frSum d) (h2 : unC (frPay d) = 0) => And.intro (frC_ok hh h1 h2) (frC_yes (frC_ok hh h1 h2)))
    rw [hK] at CO
    obtain ⟨T, hT0⟩ : ∃ T, T = frTo d := ⟨_, rfl⟩
    obtain ⟨F, hF0⟩ : ∃ F, F = frFrom d := ⟨_, rfl⟩
    obtain ⟨V, hV⟩ : ∃ V, V = fourL (crcV (d.take (frTo d))) := ⟨_, rfl⟩
    obtain ⟨Y, hY⟩ : ∃ Y, Y = (d.drop (frTo d)).take 4 := ⟨_, rfl⟩
    obtain ⟨P, hP⟩ : ∃ P, P = frPay d := ⟨_, rfl⟩
    obtain ⟨X, hX⟩ : ∃ X, X = d.take (frTo d) := ⟨_, rfl⟩
    rw [← hV, ← hY] at SA SM
    rw [← hX] at RT
    rw [← hV, ← hX] at SB
    rw [← hY] at RS
    rw [← hP] at UN RP' CF CO
    rw [← hT0] at PY SB SA UN CO RS lS hq ht hft
    rw [← hF0] at PY UN RP' hf2 hft
    have WT : IntKind.i64.wrap ((T : Int) + 4) = (T : Int) + 4 := by exact wraps_i64_62 _ (by omega) (by omega)
    have S1 := fun W => run_head A d.length T c T W rfl (by omega)
    have S2 := fun W => run_mid A d.length T 4 c T ((T : Int) + 4) W rfl (by omega) (by omega)
    have S3 := fun W => run_mid A d.length F (T - F) c F T W rfl (by omega) (by omega)
    have B1 : ∀ {e : World}, Below W.heap.size W e → Hid (Below w.heap.size w e) := fun h => hide (W_below HW.out h)
    clear hx hx1 hT0 hF0 hV hY hX hK b8V b8S hbd lT lP hp8 RP hpl PL lS ht hft hf2 b8
    subst hA
    by_cases hs : V = Y
    · have hsum := SM.out.2 hs
      have hf : sameB V Y = true := by unfold sameB; exact beq_iff_eq.2 hs
      rw [hf] at SA
      clear hs hf SM CN
      obtain ⟨C, hCu⟩ : ∃ C, C = unC P := ⟨_, rfl⟩
      obtain ⟨E, hE⟩ : ∃ E, E = unE P := ⟨_, rfl⟩
      rw [← hCu, ← hE] at UN
      rw [← hCu, ← hE] at CO
      rw [← hCu] at CF
      clear hCu hE hP
      go_enter Tryd.func44, Tryd.ntmps44
      go_wp2_with fail
      rw [← HW.out]
      refine PY.out.mono ?_
      rintro e w1 ⟨rfl, b1⟩
      have t1 := hT'.below b1
      have r1 := (RT.below b1).lt
      have s1 := (RS.below b1).lt
      have p1 := (RP'.below b1).lt
      have k1 := cell_kept b1 c1
      have hN1 := cell_kept b1 hS'.vE
      go_wp2_with fail
      go_cut [29] (fun s wx => s = .bool false ∧ Below w1.heap.size w1 wx)
      case first =>
        go_region_held3 (fun w' => Below w1.heap.size w1 w')
          (first | assumption | exact (Below.refl _ _).drew | exact Below.trans (by assumption) (ba.mono (Below.size (by assumption))))
          (first
            | (go_at_call 35; refine (SB.out _ ?_ ?_).mono ?_; exact (r1.below (by assumption)).lt; exact t1.below (by assumption); rintro e wa ⟨ga, rfl, oa, ba⟩)
            | (go_at_call 69; refine (SA.out _ _ ?_ ?_).mono ?_; exact Rd.of_own (by assumption); exact (s1.below (by assumption)).lt; rintro e wa ⟨rfl, rfl⟩))
        go_wp2_with fail
        go_meet
        exact ⟨rfl, by assumption⟩
      case rest =>
        obtain ⟨rfl, C1⟩ := hcut
        have hb1 := b1.trans (C1.mono b1.size)
        have k2 := cell_kept C1 k1
        have hN2 := cell_kept C1 hN1
        have p2 := (p1.below C1).lt
        clear r1 s1 p1 k1 hN1 t1 b1 C1
        go_wp2_with fail
        refine (UN.out _ p2).mono ?_
        rintro e w2 ⟨A2, c2, rfl, o2, b2⟩
        have x3 := Bk.new w2 #[Value.int .i64 C, .slice A2 E.length c2] 97
        have e3 := b2.alloc b2.size (Obj.cells #[Value.int .i64 C, .slice A2 E.length c2] 97)
        have hb := hb1.trans (e3.mono hb1.size)
        have k3 := cell_kept e3 k2
        have hN3 := cell_kept e3 hN2
        have o3 := own_below o2 ((Below.refl _ _).alloc (Nat.le_refl _) (Obj.cells #[Value.int .i64 C, .slice A2 E.length c2] 97)) (Nat.le_refl _)
        have n3 := block_lt_of_cell hN3
        have z2 := b2.size
        have z1 := hb1.size
        have zW := W_size HW.out
        have hO := hide o3
        have q0 := W_cell HW.out hb 0
        have q1 := W_cell HW.out hb 1
        have f0 := W_frozen HW.out hb 0
        have f1 := W_frozen HW.out hb 1
        have y0 := (x3.cell 0).trans (rfl : _ = some (Value.int .i64 C))
        have y1 := (x3.cell 1).trans (rfl : _ = some (Value.slice A2 E.length c2))
        simp at q0 q1
        have HB := hide hb
        clear x3 e3 hb k2 hN2 o2 o3 b2 hb1
        by_cases hC : C = 0
        · obtain ⟨hC0, hE0, hK0, hZ0⟩ := CO.out hsum hC
          subst hC
          have hi1 : ¬ d.length ≤ 1 := by omega
          have hi2 : (1 : Int) < (d.length : Int) := by omega
          go_wp2
          go_region
          all_goals
            go_wp2
            refine bodyPost_ret (v := .tuple #[frV x1 A2 E.length c2, .int .i64 ((T : Int) + 4), .nilIface]) (by simp [results, Tryd.results44, go_sem, q0, q1]) rfl ?_
            refine .inl ⟨hC0, A2, c2, by rw [hE0, hK0, hZ0], ?_, below_drewN (((W_below HW.out HB.out).setCell (Nat.le_refl _) _).setCell (Nat.le_refl _) _) _⟩
            rw [hE0]
            have o4 := ownsRow_setCell_below hO.out (a := ⟨w.heap.size, 0, none⟩) (by simp; omega) (.int .i64 x1)
            have o5 := ownsRow_setCell_below o4 (a := ⟨w.heap.size, 1, none⟩) (by simp; omega) (.slice A2 E.length c2)
            exact own_mono o5 (by omega)
        · have hC1 := CF.out hsum hC
          have C0 : (C != 0) = true := bne_iff_ne.2 hC
          have C1 : (C == 0) = false := beq_eq_false_iff_ne.2 hC
          go_wp2
          go_region
          all_goals
            go_wp2
            refine bodyPost_ret (v := .tuple #[frV 0 none 0 0, .int .i64 0, errV aE]) (by simp [results, Tryd.results44, go_sem, q0, q1]) rfl ?_
            exact .inr ⟨by rw [hC1]; omega, by rw [hC1]; rfl, below_drewN (((W_below HW.out HB.out).setCell (Nat.le_refl _) _).setCell (Nat.le_refl _) _) _⟩
    · have hf : sameB V Y = false := by unfold sameB; exact beq_eq_false_iff_ne.2 hs
      have hC := CN.out (fun h => hs (SM.out.1 h))
      rw [hf] at SA
      go_enter Tryd.func44, Tryd.ntmps44
      go_wp2_with fail
      rw [← HW.out]
      refine PY.out.mono ?_
      rintro e w1 ⟨rfl, b1⟩
      have t1 := hT'.below b1
      have r1 := (RT.below b1).lt
      have s1 := (RS.below b1).lt
      have hN1 := cell_kept b1 hS'.vS
      go_wp2_with fail
      go_cut [29] (fun s wx => s = .bool true ∧ Below w1.heap.size w1 wx)
      case first =>
        go_region_held3 (fun w' => Below w1.heap.size w1 w')
          (first | assumption | exact (Below.refl _ _).drew | exact Below.trans (by assumption) (ba.mono (Below.size (by assumption))))
          (first
            | (go_at_call 35; refine (SB.out _ ?_ ?_).mono ?_; exact (r1.below (by assumption)).lt; exact t1.below (by assumption); rintro e wa ⟨ga, rfl, oa, ba⟩)
            | (go_at_call 69; refine (SA.out _ _ ?_ ?_).mono ?_; exact Rd.of_own (by assumption); exact (s1.below (by assumption)).lt; rintro e wa ⟨rfl, rfl⟩))
        go_wp2_with fail
        go_meet
        exact ⟨rfl, by assumption⟩
      case rest =>
        obtain ⟨rfl, C1⟩ := hcut
        have hb := b1.trans (C1.mono b1.size)
        have q0 := W_cell HW.out hb 0
        have q1 := W_cell HW.out hb 1
        have f0 := W_frozen HW.out hb 0
        have f1 := W_frozen HW.out hb 1
        simp at q0 q1
        have hNc := cell_kept C1 hN1
        have nc := block_lt_of_cell hNc
        go_wp2
        go_region
        all_goals
          go_wp2
          refine bodyPost_ret (v := .tuple #[frV 0 none 0 0, .int .i64 0, errV aS]) (by simp [results, Tryd.results44, go_sem, q0, q1]) rfl ?_
          exact .inr ⟨by rw [hC]; omega, by rw [hC]; rfl, below_drewN (((W_below HW.out hb).setCell (Nat.le_refl _) _).setCell (Nat.le_refl _) _) _⟩
  · have hC := frC_text hh
    have PN := hide (PL.out.mono fun e w' hp => by
      rcases hp with ⟨⟨h1, _⟩ | ⟨_, h2⟩, h3⟩
      · exact absurd h1 hh
      · exact And.intro h2 h3)
    clear PL
    go_enter Tryd.func44, Tryd.ntmps44
    go_wp2_with fail
    rw [← HW.out]
    refine PN.out.mono ?_
    rintro e w1 ⟨rfl, hb⟩
    have q0 := W_cell HW.out hb 0
    have q1 := W_cell HW.out hb 1
    have f0 := W_frozen HW.out hb 0
    have f1 := W_frozen HW.out hb 1
    simp at q0 q1
    go_wp2
    refine bodyPost_ret (v := .tuple #[frV 0 none 0 0, .int .i64 0, errV aN]) (by simp [results, Tryd.results44, go_sem, q0, q1]) rfl ?_
    exact .inr ⟨by rw [hC]; omega, by rw [hC]; rfl, ((W_below HW.out hb).setCell (Nat.le_refl _) _).setCell (Nat.le_refl _) _⟩
end Go.Proofs.YtkeifkdaddmkfaaDoor
