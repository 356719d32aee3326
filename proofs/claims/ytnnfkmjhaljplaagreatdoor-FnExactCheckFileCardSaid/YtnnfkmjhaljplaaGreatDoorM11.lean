/- What the laws' walks rest upon, part 11. -/
import Derived.Test.YtnnfkmjhaljplaaGreatDoorM09
import Derived.Test.YtnnfkmjhaljplaaGreatDoorM10
import Derived.Test.YtnnfkmjhaljplaaGreatDoorM02
import Derived.Deep.RegionHeld3
import Derived.Deep.DeepCutAuto
import Derived.Test.YtnnfkmjhaljplaaGreatDoorM03
namespace Go.Proofs.YtnnfkmjhaljplaaGreatDoor
open Go.RowKit
theorem run_head (A : Option Addr) (n k c : Nat) (l : Int) (w : World) (hl : l = k) (h : k ≤ c) : (Instr.slice 22 (.slice A n c) none (some (.int .i64 l)) none).run Tryz.prog w = .ok (.slice A k c) w := by
  subst hl
  simp [go_sem, h]
theorem run_mid (A : Option Addr) (n k m c : Nat) (l r : Int) (w : World) (hl : l = k) (hr : r = ((k + m : Nat) : Int)) (hm : k + m ≤ c) : (Instr.slice 22 (.slice A n c) (some (.int .i64 l)) (some (.int .i64 r)) none).run Tryz.prog w = .ok (.slice (cutA A k c) m (c - k)) w := by
  subst hl
  subst hr
  have h2 : (0 : Int) ≤ (k : Int) + (m : Int) ∧ (k : Int) + (m : Int) ≤ (c : Int) := by omega
  have h3 : ((k : Int) + (m : Int)).toNat = k + m := by omega
  simp [go_sem, h2, h3, cutA]
/-- What frameAhead tells. -/
def FaPost (d : List Int) (aN aS aE : Addr) (w : World) (e : Ending) (w' : World) : Prop :=
  (frC d = 0 ∧ ∃ A c, e = .returned (.tuple #[frV (frK d) A (frE d).length c, .int .i64 (frZ d), .nilIface]) ∧ w'.ownsRow w.heap.size 48 3 (.slice A (frE d).length c) (frE d).length (evs (frE d)) ∧ Below w.heap.size w w') ∨
  (¬ frC d = 0 ∧ e = .returned (.tuple #[frV 0 none 0 0, .int .i64 0, errV (errOf aN aS aE (frC d))]) ∧ Below w.heap.size w w')
theorem frTo_small {d : List Int} (b8 : B8 d) (h : frHd d) : frTo d ≤ 204 := by
  obtain ⟨h0, h1, h2, h3, h4, h5, h6⟩ := h
  obtain ⟨z1, z2, z3, z4, z5⟩ := rd_back (b8.drop 2) h3
  have := congrArg List.length z5
  have hp : (putL (rdV (d.drop 2))).length ≤ 2 := by
    by_cases h7 : rdV (d.drop 2) < 128
    · rw [putL_small h7]; simp
    · rw [putL_big (by omega), putL_small (by omega)]; simp
  rw [List.length_take] at this
  unfold frTo frFrom
  omega
set_option maxRecDepth 100000 in
set_option maxHeartbeats 2000000 in
theorem frameAhead_any (d : List Int) (A : Option Addr) (c : Nat) (aN aS aE : Addr) (w : World) (hm : d.length ≤ 1048576) (hc : d.length ≤ c) (hR : Rd .u8 w w.heap.size A d) (b8 : B8 d) (hT : Tab w) (hS : Sent aN aS aE w) :
    Calls Tryz.prog 198 #[.slice A d.length c] w (FaPost d aN aS aE w) := by
  obtain ⟨W, hW⟩ : ∃ W, W = w.alloc (Obj.cells #[Value.int .i64 0, .slice none 0 0] 201) := ⟨_, rfl⟩
  have HW := hide hW
  have B0 : Below w.heap.size w W := by subst hW; exact (Below.refl _ _).alloc (Nat.le_refl _) _
  have hR' : Rd .u8 W W.heap.size A d := (hR.below B0).lt
  have hT' : Tab W := hT.below B0
  have hS' : Sent aN aS aE W := hS.below B0
  have hlt := hS.lts
  have g1 : 0 ≠ w.heap.size := by omega
  have g2 : 1 ≠ w.heap.size := by omega
  clear hW hT hS hR
  have PL := hide (stepsPlace_any d A c aN W hm hc hR' b8 hS'.vN)
  by_cases hh : frHd d
  · have ht := frTo_small b8 hh
    have hpl := frPay_len d hh
    have hp8 : B8 (frPay d) := (b8.take _).drop _
    have hq : frTo d + 4 ≤ d.length := hh.2.2.2.2.2.2
    have hft : frTo d = frFrom d + (rdV (d.drop 2)).toNat := rfl
    have hf2 : 2 ≤ frFrom d := by unfold frFrom; omega
    obtain ⟨b, off, hA, hb, hx⟩ := hR'.all (by omega)
    have c1 := hx 1 (by omega)
    have hK : d.getD 1 0 = d[1] := getD_at d 1 (by omega)
    have bd1 := b8.get 1 (by omega)
    obtain ⟨x1, hx1⟩ : ∃ x, x = d[1] := ⟨_, rfl⟩
    rw [← hx1] at c1 hK bd1
    have RT := hR'.take (frTo d)
    have RS := (hR'.cut (n := frTo d) (by omega) hc).take 4
    have RP := (hR'.take (frTo d)).cut (n := frFrom d) (c := c) (by rw [List.length_take]; omega) (by rw [List.length_take]; omega)
    have b8S : B8 ((d.drop (frTo d)).take 4) := (b8.drop _).take _
    have lT : (d.take (frTo d)).length = frTo d := by rw [List.length_take]; omega
    have lS : ((d.drop (frTo d)).take 4).length = 4 := by rw [List.length_take, List.length_drop]; omega
    have lP : (frPay d).length = frTo d - frFrom d := by rw [hpl]; omega
    have hbd := crcV_bd (b8.take (frTo d))
    have b8V := fourL_B8 hbd
    have SM : Hid (frSum d ↔ fourL (crcV (d.take (frTo d))) = (d.drop (frTo d)).take 4) := hide Iff.rfl
    have SB0 := fun W hW hT => sumBytes_any (d.take (frTo d)) A c W (by rw [List.length_take]; omega) hW (b8.take _) hT
    have SA0 := fun g W h h' => implSame_any (fourL (crcV (d.take (frTo d)))) ((d.drop (frTo d)).take 4) (some ⟨g, 0, none⟩) (cutA A (frTo d) c) 4 (c - frTo d) W h h' b8V b8S
    have UN0 := fun W h => implUn_any (frPay d) (cutA A (frFrom d) c) (c - frFrom d) W (by rw [hpl]; omega) (by rw [hpl]; omega) h hp8
    have RP' : Rd .u8 W W.heap.size (cutA A (frFrom d) c) (frPay d) := RP
    rw [lT] at SB0
    rw [lS, fourL_length] at SA0
    rw [lP] at UN0
    have SB := hide SB0
    have SA := hide SA0
    have UN := hide UN0
    clear SB0 SA0 UN0
    have PY := hide (PL.out.mono fun e w' hp => by
      rcases hp with ⟨⟨_, h1⟩ | ⟨h2, _⟩, h3⟩
      · exact And.intro h1 h3
      · exact absurd hh h2)
    have CN := hide (fun h1 : ¬ frSum d => frC_sum hh h1)
    have CF := hide (fun (h1 : frSum d) (h2 : ¬ unC (frPay d) = 0) => frC_form hh h1 h2)
    have CO := hide (fun (h1 : frSum d) (h2 : unC (frPay d) = 0) => And.intro (frC_ok hh h1 h2) (frC_yes (frC_ok hh h1 h2)))
    rw [hK] at CO
    obtain ⟨T, hT0⟩ : ∃ T, T = frTo d := ⟨_, rfl⟩
    obtain ⟨F, hF0⟩ : ∃ F, F = frFrom d := ⟨_, rfl⟩
    obtain ⟨V, hV⟩ : ∃ V, V = fourL (crcV (d.take (frTo d))) := ⟨_, rfl⟩
    obtain ⟨Y, hY⟩ : ∃ Y, Y = (d.drop (frTo d)).take 4 := ⟨_, rfl⟩
    obtain ⟨P, hP⟩ : ∃ P, P = frPay d := ⟨_, rfl⟩
    obtain ⟨X, hX⟩ : ∃ X, X = d.take (frTo d) := ⟨_, rfl⟩
    rw [← hV, ← hY] at SA SM
    rw [← hX] at RT
    rw [← hV, ← hX] at SB
    rw [← hY] at RS
    rw [← hP] at UN RP' CF CO
    rw [← hT0] at PY SB SA UN CO RS lS hq ht hft
    rw [← hF0] at PY UN RP' hf2 hft
    have WT : IntKind.i64.wrap ((T : Int) + 4) = (T : Int) + 4 := by exact wraps_i64_62 _ (by omega) (by omega)
    have S1 := fun W => run_head A d.length T c T W rfl (by omega)
    have S2 := fun W => run_mid A d.length T 4 c T ((T : Int) + 4) W rfl (by omega) (by omega)
    have S3 := fun W => run_mid A d.length F (T - F) c F T W rfl (by omega) (by omega)
    have B1 : ∀ {e : World}, Below W.heap.size W e → Hid (Below w.heap.size w e) := fun h => hide (W_below HW.out h)
    clear hx hx1 hT0 hF0 hV hY hX hK b8V b8S hbd lT lP hp8 RP hpl PL lS ht hft hf2 b8
    subst hA
    by_cases hs : V = Y
    · have hsum := SM.out.2 hs
      have hf : sameB V Y = true := by unfold sameB; exact beq_iff_eq.2 hs
      rw [hf] at SA
      clear hs hf SM CN
      obtain ⟨C, hCu⟩ : ∃ C, C = unC P := ⟨_, rfl⟩
      obtain ⟨E, hE⟩ : ∃ E, E = unE P := ⟨_, rfl⟩
      rw [← hCu, ← hE] at UN
      rw [← hCu, ← hE] at CO
      rw [← hCu] at CF
      clear hCu hE hP
      go_enter Tryz.func198, Tryz.ntmps198
      go_wp2_with fail
      rw [← HW.out]
      refine PY.out.mono ?_
      rintro e w1 ⟨rfl, b1⟩
      have t1 := hT'.below b1
      have r1 := (RT.below b1).lt
      have s1 := (RS.below b1).lt
      have p1 := (RP'.below b1).lt
      have k1 := cell_kept b1 c1
      have hN1 := cell_kept b1 hS'.vE
      go_wp2_with fail
      go_cut [29] (fun s wx => s = .bool false ∧ Below w1.heap.size w1 wx)
      case first =>
        go_region_held3 (fun w' => Below w1.heap.size w1 w')
          (first | assumption | exact (Below.refl _ _).drew | exact Below.trans (by assumption) (ba.mono (Below.size (by assumption))))
          (first
            | (go_at_call 149; refine (SB.out _ ?_ ?_).mono ?_; exact (r1.below (by assumption)).lt; exact t1.below (by assumption); rintro e wa ⟨ga, rfl, oa, ba⟩)
            | (go_at_call 68; refine (SA.out _ _ ?_ ?_).mono ?_; exact Rd.of_own (by assumption); exact (s1.below (by assumption)).lt; rintro e wa ⟨rfl, rfl⟩))
        go_wp2_with fail
        go_meet
        exact ⟨rfl, by assumption⟩
      case rest =>
        obtain ⟨rfl, C1⟩ := hcut
        have hb1 := b1.trans (C1.mono b1.size)
        have k2 := cell_kept C1 k1
        have hN2 := cell_kept C1 hN1
        have p2 := (p1.below C1).lt
        clear r1 s1 p1 k1 hN1 t1 b1 C1
        go_wp2_with fail
        refine (UN.out _ p2).mono ?_
        rintro e w2 ⟨A2, c2, rfl, o2, b2⟩
        have x3 := Bk.new w2 #[Value.int .i64 C, .slice A2 E.length c2] 335
        have e3 := b2.alloc b2.size (Obj.cells #[Value.int .i64 C, .slice A2 E.length c2] 335)
        have hb := hb1.trans (e3.mono hb1.size)
        have k3 := cell_kept e3 k2
        have hN3 := cell_kept e3 hN2
        have o3 := own_below o2 ((Below.refl _ _).alloc (Nat.le_refl _) (Obj.cells #[Value.int .i64 C, .slice A2 E.length c2] 335)) (Nat.le_refl _)
        have n3 := block_lt_of_cell hN3
        have z2 := b2.size
        have z1 := hb1.size
        have zW := W_size HW.out
        have hO := hide o3
        have q0 := W_cell HW.out hb 0
        have q1 := W_cell HW.out hb 1
        have f0 := W_frozen HW.out hb 0
        have f1 := W_frozen HW.out hb 1
        have y0 := (x3.cell 0).trans (rfl : _ = some (Value.int .i64 C))
        have y1 := (x3.cell 1).trans (rfl : _ = some (Value.slice A2 E.length c2))
        simp at q0 q1
        have HB := hide hb
        clear x3 e3 hb k2 hN2 o2 o3 b2 hb1
        by_cases hC : C = 0
        · obtain ⟨hC0, hE0, hK0, hZ0⟩ := CO.out hsum hC
          subst hC
          have hi1 : ¬ d.length ≤ 1 := by omega
          have hi2 : (1 : Int) < (d.length : Int) := by omega
          go_wp2
          go_region
          all_goals
            go_wp2
            refine bodyPost_ret (v := .tuple #[frV x1 A2 E.length c2, .int .i64 ((T : Int) + 4), .nilIface]) (by simp [results, Tryz.results198, go_sem, q0, q1]) rfl ?_
            refine .inl ⟨hC0, A2, c2, by rw [hE0, hK0, hZ0], ?_, below_drewN (((W_below HW.out HB.out).setCell (Nat.le_refl _) _).setCell (Nat.le_refl _) _) _⟩
            rw [hE0]
            have o4 := ownsRow_setCell_below hO.out (a := ⟨w.heap.size, 0, none⟩) (by simp; omega) (.int .i64 x1)
            have o5 := ownsRow_setCell_below o4 (a := ⟨w.heap.size, 1, none⟩) (by simp; omega) (.slice A2 E.length c2)
            exact own_mono o5 (by omega)
        · have hC1 := CF.out hsum hC
          have C0 : (C != 0) = true := bne_iff_ne.2 hC
          have C1 : (C == 0) = false := beq_eq_false_iff_ne.2 hC
          go_wp2
          go_region
          all_goals
            go_wp2
            refine bodyPost_ret (v := .tuple #[frV 0 none 0 0, .int .i64 0, errV aE]) (by simp [results, Tryz.results198, go_sem, q0, q1]) rfl ?_
            exact .inr ⟨by rw [hC1]; omega, by rw [hC1]; rfl, below_drewN (((W_below HW.out HB.out).setCell (Nat.le_refl _) _).setCell (Nat.le_refl _) _) _⟩
    · have hf : sameB V Y = false := by unfold sameB; exact beq_eq_false_iff_ne.2 hs
      have hC := CN.out (fun h => hs (SM.out.1 h))
      rw [hf] at SA
      go_enter Tryz.func198, Tryz.ntmps198
      go_wp2_with fail
      rw [← HW.out]
      refine PY.out.mono ?_
      rintro e w1 ⟨rfl, b1⟩
      have t1 := hT'.below b1
      have r1 := (RT.below b1).lt
      have s1 := (RS.below b1).lt
      have hN1 := cell_kept b1 hS'.vS
      go_wp2_with fail
      go_cut [29] (fun s wx => s = .bool true ∧ Below w1.heap.size w1 wx)
      case first =>
        go_region_held3 (fun w' => Below w1.heap.size w1 w')
          (first | assumption | exact (Below.refl _ _).drew | exact Below.trans (by assumption) (ba.mono (Below.size (by assumption))))
          (first
            | (go_at_call 149; refine (SB.out _ ?_ ?_).mono ?_; exact (r1.below (by assumption)).lt; exact t1.below (by assumption); rintro e wa ⟨ga, rfl, oa, ba⟩)
            | (go_at_call 68; refine (SA.out _ _ ?_ ?_).mono ?_; exact Rd.of_own (by assumption); exact (s1.below (by assumption)).lt; rintro e wa ⟨rfl, rfl⟩))
        go_wp2_with fail
        go_meet
        exact ⟨rfl, by assumption⟩
      case rest =>
        obtain ⟨rfl, C1⟩ := hcut
        have hb := b1.trans (C1.mono b1.size)
        have q0 := W_cell HW.out hb 0
        have q1 := W_cell HW.out hb 1
        have f0 := W_frozen HW.out hb 0
        have f1 := W_frozen HW.out hb 1
        simp at q0 q1
        have hNc := cell_kept C1 hN1
        have nc := block_lt_of_cell hNc
        go_wp2
        go_region
        all_goals
          go_wp2
          refine bodyPost_ret (v := .tuple #[frV 0 none 0 0, .int .i64 0, errV aS]) (by simp [results, Tryz.results198, go_sem, q0, q1]) rfl ?_
          exact .inr ⟨by rw [hC]; omega, by rw [hC]; rfl, below_drewN (((W_below HW.out hb).setCell (Nat.le_refl _) _).setCell (Nat.le_refl _) _) _⟩
  · have hC := frC_text hh
    have PN := hide (PL.out.mono fun e w' hp => by
      rcases hp with ⟨⟨h1, _⟩ | ⟨_, h2⟩, h3⟩
      · exact absurd h1 hh
      · exact And.intro h2 h3)
    clear PL
    go_enter Tryz.func198, Tryz.ntmps198
    go_wp2_with fail
    rw [← HW.out]
    refine PN.out.mono ?_
    rintro e w1 ⟨rfl, hb⟩
    have q0 := W_cell HW.out hb 0
    have q1 := W_cell HW.out hb 1
    have f0 := W_frozen HW.out hb 0
    have f1 := W_frozen HW.out hb 1
    simp at q0 q1
    go_wp2
    refine bodyPost_ret (v := .tuple #[frV 0 none 0 0, .int .i64 0, errV aN]) (by simp [results, Tryz.results198, go_sem, q0, q1]) rfl ?_
    exact .inr ⟨by rw [hC]; omega, by rw [hC]; rfl, ((W_below HW.out hb).setCell (Nat.le_refl _) _).setCell (Nat.le_refl _) _⟩
end Go.Proofs.YtnnfkmjhaljplaaGreatDoor
namespace Go.Proofs.YtnnfkmjhaljplaaGreatDoor
open Go.RowKit
/-- What l3Head tells. -/
def HdPost (d : List Int) (w : World) (e : Ending) (w' : World) : Prop :=
  ((frHd d ∧ e = .returned (.tuple #[.int .i64 (frFrom d : Nat), .int .i64 (frTo d : Nat)])) ∨ (¬ frHd d ∧ e = .returned (.tuple #[.int .i64 0, .int .i64 0]))) ∧ Below w.heap.size w w'
set_option maxRecDepth 100000 in
set_option maxHeartbeats 1000000 in
theorem l3Head_any (d : List Int) (A : Option Addr) (c : Nat) (w : World) (hm : d.length ≤ 1048576) (hc : d.length ≤ c) (hR : Rd .u8 w w.heap.size A d) (b8 : B8 d) :
    Calls Tryz.prog 260 #[.slice A d.length c] w (HdPost d w) := by
  by_cases h2 : 2 ≤ d.length
  · obtain ⟨b, off, hA, hb, hx⟩ := hR.all (by omega)
    have c0 := hx 0 (by omega)
    have c1 := hx 1 (by omega)
    rw [Nat.add_zero] at c0
    obtain ⟨x0, hx0⟩ : ∃ x, x = d[0] := ⟨_, rfl⟩
    obtain ⟨x1, hx1⟩ : ∃ x, x = d[1] := ⟨_, rfl⟩
    have d0 : d.getD 0 0 = x0 := by rw [getD_at d 0 (by omega), hx0]
    have d1 : d.getD 1 0 = x1 := by rw [getD_at d 1 (by omega), hx1]
    have bd0 := b8.get 0 (by omega)
    have bd1 := b8.get 1 (by omega)
    rw [← hx0] at c0 bd0
    rw [← hx1] at c1 bd1
    clear hx hx0 hx1
    by_cases e0 : x0 = 66
    · by_cases e1 : x1 < 4
      · have RC := hide (fun W hW => l1Read_any (d.drop 2) (cutA A 2 c) (c - 2) W (by rw [List.length_drop]; omega) (by rw [List.length_drop]; omega) hW (b8.drop 2))
        have hcR := hR.cut h2 hc
        have CUT := fun W => run_cut A d.length 2 c 2 W rfl h2
        rw [List.length_drop] at RC
        have hcode := rd_code (d.drop 2)
        have hback := rd_back (l := d.drop 2) (b8.drop 2)
        rw [List.length_drop] at hback
        have hxV : 0 ≤ rdV (d.drop 2) := by
          rcases hcode with ⟨hz, _⟩ | ⟨_, h1, _⟩
          · exact (hback hz).2.2.1
          · omega
        obtain ⟨C, hC⟩ : ∃ C, C = rdC (d.drop 2) := ⟨_, rfl⟩
        obtain ⟨V, hV⟩ : ∃ V, V = rdV (d.drop 2) := ⟨_, rfl⟩
        obtain ⟨Z, hZ⟩ : ∃ Z : Nat, rdZ (d.drop 2) = Z := ⟨(rdZ (d.drop 2)).toNat, by
          rcases hcode with ⟨hz, _⟩ | ⟨_, _, h1⟩
          · have := (hback hz).1; omega
          · omega⟩
        have HH : Hid (frHd d ↔ (C = 0 ∧ 1 ≤ V ∧ V ≤ 200 ∧ 2 + Z + V.toNat + 4 ≤ d.length)) := hide (by
          unfold frHd frTo frFrom
          rw [d0, d1, ← hC, ← hV, hZ, Int.toNat_natCast]
          constructor
          · rintro ⟨_, _, _, a, b, c, e⟩; exact ⟨a, b, c, e⟩
          · rintro ⟨a, b, c, e⟩; exact ⟨h2, e0, e1, a, b, c, e⟩)
        have HFr : Hid (frFrom d = 2 + Z) := hide (by unfold frFrom; rw [hZ, Int.toNat_natCast])
        have HTo : Hid (frTo d = 2 + Z + V.toNat) := hide (by unfold frTo frFrom; rw [← hV, hZ, Int.toNat_natCast])
        rw [← hC] at hcode hback
        rw [← hV, hZ] at RC hcode hback
        rw [← hV] at hxV
        have HC : C = 0 ∧ 1 ≤ Z ∧ Z ≤ d.length - 2 ∧ V ≤ 9223372036854775807 ∨ C = 5 ∧ V = 0 ∧ Z = 0 := by
          rcases hcode with ⟨hz, _⟩ | ⟨a, h1, h3⟩
          · have := hback hz; omega
          · omega
        subst hA
        subst e0
        clear hC hV hZ hcode hback d0 d1
        rcases HC with ⟨rfl, z1, z2, z3⟩ | ⟨rfl, rfl, rfl⟩
        · have zb : ((Z : Int) == 0) = false := beq_eq_false_iff_ne.2 (by omega)
          by_cases hv : 1 ≤ V ∧ V ≤ 200
          · have hv1 : ¬ V < 1 := by omega
            have hv2 : ¬ 200 < V := by omega
            by_cases ht : 2 + Z + V.toNat + 4 ≤ d.length
            · have HF : frHd d := HH.out.2 ⟨rfl, hv.1, hv.2, ht⟩
              obtain ⟨v, rfl⟩ := Int.eq_ofNat_of_zero_le hxV
              have ht2 : ¬ ((d.length : Int) - 2 - (Z : Int) < (v : Int) + 4) := by omega
              clear hxV
              go_enter Tryz.func260, Tryz.ntmps260
              go_wp2_with fail
              refine (RC.out _ hcR).mono ?_
              rintro e w2 ⟨rfl, b2⟩
              go_wp2
              refine bodyPost_ret (v := .tuple #[.int .i64 (2 + (Z : Int)), .int .i64 (2 + (Z : Int) + (v : Int))]) (by simp [results, Tryz.results260, go_sem]) rfl ?_
              exact ⟨.inl ⟨HF, by rw [HFr.out, HTo.out]; simp [Int.toNat_natCast, Int.add_assoc]⟩, b2⟩
            · have HF : ¬ frHd d := fun h => ht (HH.out.1 h).2.2.2
              obtain ⟨v, rfl⟩ := Int.eq_ofNat_of_zero_le hxV
              have ht2 : (d.length : Int) - 2 - (Z : Int) < (v : Int) + 4 := by omega
              clear hxV
              go_enter Tryz.func260, Tryz.ntmps260
              go_wp2_with fail
              refine (RC.out _ hcR).mono ?_
              rintro e w2 ⟨rfl, b2⟩
              go_wp2
              go_ret2
              exact ⟨.inr ⟨HF, rfl⟩, b2⟩
          · have HF : ¬ frHd d := fun h => hv ⟨(HH.out.1 h).2.1, (HH.out.1 h).2.2.1⟩
            by_cases hv1 : V < 1
            · clear hv
              go_enter Tryz.func260, Tryz.ntmps260
              go_wp2_with fail
              refine (RC.out _ hcR).mono ?_
              rintro e w2 ⟨rfl, b2⟩
              go_wp2
              go_ret2
              exact ⟨.inr ⟨HF, rfl⟩, b2⟩
            · have hv2 : 200 < V := by omega
              clear hv
              go_enter Tryz.func260, Tryz.ntmps260
              go_wp2_with fail
              refine (RC.out _ hcR).mono ?_
              rintro e w2 ⟨rfl, b2⟩
              go_wp2
              go_ret2
              exact ⟨.inr ⟨HF, rfl⟩, b2⟩
        · have HF : ¬ frHd d := fun h => by have := (HH.out.1 h).1; omega
          go_enter Tryz.func260, Tryz.ntmps260
          go_wp2_with fail
          refine (RC.out _ hcR).mono ?_
          rintro e w2 ⟨rfl, b2⟩
          go_wp2
          go_ret2
          exact ⟨.inr ⟨HF, rfl⟩, b2⟩
      · have HF : ¬ frHd d := fun h => e1 (by rw [← d1]; exact h.2.2.1)
        subst hA
        subst e0
        clear d0 d1
        go_enter Tryz.func260, Tryz.ntmps260
        go_wp2
        go_ret2
        exact ⟨.inr ⟨HF, rfl⟩, Below.refl _ _⟩
    · have HF : ¬ frHd d := fun h => e0 (by rw [← d0]; exact h.2.1)
      have f0 : (x0 != 66) = true := bne_iff_ne.2 e0
      have f1 : (x0 == 66) = false := beq_eq_false_iff_ne.2 e0
      subst hA
      clear e0 d0 d1 c1 bd1
      go_enter Tryz.func260, Tryz.ntmps260
      go_wp2
      go_ret2
      exact ⟨.inr ⟨HF, rfl⟩, Below.refl _ _⟩
  · have HF : ¬ frHd d := fun h => h2 h.1
    go_enter Tryz.func260, Tryz.ntmps260
    go_wp2
    go_ret2
    exact ⟨.inr ⟨HF, rfl⟩, Below.refl _ _⟩
/-- What ReadFrame tells. -/
def RfPost (d : List Int) (w : World) (e : Ending) (w' : World) : Prop :=
  ∃ A c, e = .returned (frR (frC d) (frK d) A (frE d).length c (frZ d)) ∧ w'.ownsRow w.heap.size 48 3 (.slice A (frE d).length c) (frE d).length (evs (frE d)) ∧ Below w.heap.size w w'
theorem RfPost.bad {d : List Int} {w w' : World} (h : ¬ frC d = 0) (hb : Below w.heap.size w w') : RfPost d w (.returned (frR (frC d) 0 none 0 0 0)) w' := by
  obtain ⟨h1, h2, h3⟩ := frC_not h
  unfold RfPost
  rw [h1, h2, h3]
  exact ⟨none, 0, rfl, World.ownsRow_nil _ _ _ _, hb⟩
theorem frC_cases (d : List Int) : frC d = 0 ∨ frC d = 5 ∨ frC d = 6 ∨ frC d = 1 := by
  by_cases h0 : frHd d
  · by_cases h1 : frSum d
    · by_cases h2 : unC (frPay d) = 0
      · exact .inl (frC_ok h0 h1 h2)
      · exact .inr (.inr (.inr (frC_form h0 h1 h2)))
    · exact .inr (.inr (.inl (frC_sum h0 h1)))
  · exact .inr (.inl (frC_text h0))
set_option maxRecDepth 100000 in
set_option maxHeartbeats 1000000 in
theorem implRf_any (d : List Int) (A : Option Addr) (c : Nat) (aN aS aE : Addr) (w : World) (hm : d.length ≤ 1048576) (hc : d.length ≤ c) (hR : Rd .u8 w w.heap.size A d) (b8 : B8 d) (hT : Tab w) (hS : Sent aN aS aE w) :
    Calls Tryz.prog 147 #[.slice A d.length c] w (RfPost d w) := by
  obtain ⟨W, hW⟩ : ∃ W, W = w.alloc (Obj.cells #[Value.int .i64 0, .int .i64 0, .slice none 0 0, .int .i64 0] 203) := ⟨_, rfl⟩
  have HW := hide hW
  have B0 : Below w.heap.size w W := by subst hW; exact (Below.refl _ _).alloc (Nat.le_refl _) _
  have hR' : Rd .u8 W W.heap.size A d := (hR.below B0).lt
  have hT' : Tab W := hT.below B0
  have hS' : Sent aN aS aE W := hS.below B0
  clear hW hT hS hR
  have FA := frameAhead_any d A c aN aS aE W hm hc hR' b8 hT' hS'
  by_cases hC : frC d = 0
  · have FY := hide (FA.mono fun e w' hp => by
      rcases hp with ⟨_, h⟩ | ⟨h, _⟩
      · exact h
      · exact absurd hC h)
    obtain ⟨K, hK⟩ : ∃ K, K = frK d := ⟨_, rfl⟩
    obtain ⟨E, hE⟩ : ∃ E, E = frE d := ⟨_, rfl⟩
    obtain ⟨Z, hZ⟩ : ∃ Z, Z = frZ d := ⟨_, rfl⟩
    unfold RfPost
    rw [← hK, ← hE, ← hZ] at FY ⊢
    rw [hC]
    clear FA hC hK hE hZ
    go_enter Tryz.func147, Tryz.ntmps147
    go_wp2_with fail
    rw [← HW.out]
    refine FY.out.mono ?_
    rintro e w1 ⟨A1, c1, rfl, o1, b1⟩
    have x3 := Bk.new w1 #[Value.int .i64 K, .slice A1 E.length c1] 201
    have e3 := b1.alloc b1.size (Obj.cells #[Value.int .i64 K, .slice A1 E.length c1] 201)
    have o3 := own_below o1 ((Below.refl _ _).alloc (Nat.le_refl _) (Obj.cells #[Value.int .i64 K, .slice A1 E.length c1] 201)) (Nat.le_refl _)
    have q0 := W_cell HW.out e3 0
    have q1 := W_cell HW.out e3 1
    have q2 := W_cell HW.out e3 2
    have q3 := W_cell HW.out e3 3
    have f0 := W_frozen HW.out e3 0
    have f1 := W_frozen HW.out e3 1
    have f2 := W_frozen HW.out e3 2
    have f3 := W_frozen HW.out e3 3
    have y0 := (x3.cell 0).trans (rfl : _ = some (Value.int .i64 K))
    have y1 := (x3.cell 1).trans (rfl : _ = some (Value.slice A1 E.length c1))
    simp at q0 q1 q2 q3
    have hO := hide o3
    have HB := hide e3
    have zW := W_size HW.out
    clear x3 e3 o1 o3 b1
    go_wp2
    refine bodyPost_ret (v := frR 0 K A1 E.length c1 Z) (by simp [results, Tryz.results147, go_sem, q0, q1, q2, q3]) rfl ?_
    refine ⟨A1, c1, rfl, ?_, (((((W_below HW.out HB.out).setCell (Nat.le_refl _) _).setCell (Nat.le_refl _) _).setCell (Nat.le_refl _) _).setCell (Nat.le_refl _) _)⟩
    have o4 := ownsRow_setCell_below hO.out (a := ⟨w.heap.size, 0, none⟩) (by simp; omega) (.int .i64 0)
    have o5 := ownsRow_setCell_below o4 (a := ⟨w.heap.size, 1, none⟩) (by simp; omega) (.int .i64 K)
    have o6 := ownsRow_setCell_below o5 (a := ⟨w.heap.size, 2, none⟩) (by simp; omega) (.slice A1 E.length c1)
    have o7 := ownsRow_setCell_below o6 (a := ⟨w.heap.size, 3, none⟩) (by simp; omega) (.int .i64 Z)
    exact own_mono o7 (by omega)
  · have FN := hide (FA.mono fun e w' hp => by
      rcases hp with ⟨h, _⟩ | ⟨_, h⟩
      · exact absurd h hC
      · exact h)
    have hcs : frC d = 5 ∨ frC d = 6 ∨ frC d = 1 := (frC_cases d).resolve_left hC
    have FP := hide (fun (w' : World) (h : Below w.heap.size w w') => RfPost.bad hC h)
    have FC := hide (fun W h => frameCode_any aN aS aE (frC d) W h hcs)
    obtain ⟨C, hCC⟩ : ∃ C, C = frC d := ⟨_, rfl⟩
    rw [← hCC] at FN FC FP
    clear FA hC hCC hcs
    go_enter Tryz.func147, Tryz.ntmps147
    go_wp2_with fail
    rw [← HW.out]
    refine FN.out.mono ?_
    rintro e w1 ⟨rfl, b1⟩
    have e3 := b1.alloc b1.size (Obj.cells #[Value.int .i64 0, .slice none 0 0] 201)
    have q0 := W_cell HW.out e3 0
    have q1 := W_cell HW.out e3 1
    have q2 := W_cell HW.out e3 2
    have q3 := W_cell HW.out e3 3
    have f0 := W_frozen HW.out e3 0
    have f1 := W_frozen HW.out e3 1
    have f2 := W_frozen HW.out e3 2
    have f3 := W_frozen HW.out e3 3
    simp at q0 q1 q2 q3
    have hS3 := hS'.below e3
    have HB := hide e3
    clear e3 b1
    go_wp2_with fail
    refine (FC.out _ hS3).mono ?_
    rintro e w2 ⟨rfl, rfl⟩
    go_wp2
    refine bodyPost_ret (v := frR C 0 none 0 0 0) (by simp [results, Tryz.results147, go_sem, q0, q1, q2, q3]) rfl ?_
    exact FP.out _ (((((W_below HW.out HB.out).setCell (Nat.le_refl _) _).setCell (Nat.le_refl _) _).setCell (Nat.le_refl _) _).setCell (Nat.le_refl _) _)
end Go.Proofs.YtnnfkmjhaljplaaGreatDoor
namespace Go.Proofs.YtnnfkmjhaljplaaGreatDoor
open Go.RowKit
theorem unpost_none {d : List Int} {w : World} {e : Ending} {w' : World} (h : UnPost d w e w') (hu : unpN 8 d 0 = none) : e = .returned (.tuple #[.slice none 0 0, .bool false]) ∧ Below w.heap.size w w' := by
  rcases h with ⟨_, h2, h3⟩ | ⟨es, A, c, h1, _⟩
  · exact ⟨h2, h3⟩
  · rw [hu] at h1; cases h1
theorem unpost_some {d : List Int} {w : World} {e : Ending} {w' : World} {es : List Ev} (h : UnPost d w e w') (hu : unpN 8 d 0 = some es) :
    ∃ A c, e = .returned (.tuple #[.slice A es.length c, .bool true]) ∧ w'.ownsRow w.heap.size 48 3 (.slice A es.length c) es.length (evs es) ∧ Below w.heap.size w w' := by
  rcases h with ⟨h1, _⟩ | ⟨es', A, c, h1, h2, h3, h4⟩
  · rw [hu] at h1; cases h1
  · rw [hu] at h1
    cases h1
    exact ⟨A, c, h2, h3, h4⟩
set_option maxRecDepth 100000 in
set_option maxHeartbeats 2000000 in
theorem specRf_any (d : List Int) (A : Option Addr) (c : Nat) (w : World) (hm : d.length ≤ 1048576) (hc : d.length ≤ c) (hR : Rd .u8 w w.heap.size A d) (b8 : B8 d) :
    Calls Tryz.prog 219 #[.slice A d.length c] w (RfPost d w) := by
  obtain ⟨W, hW⟩ : ∃ W, W = w.alloc (Obj.cells #[Value.int .i64 0, .int .i64 0, .slice none 0 0, .int .i64 0] 203) := ⟨_, rfl⟩
  have HW := hide hW
  have B0 : Below w.heap.size w W := by subst hW; exact (Below.refl _ _).alloc (Nat.le_refl _) _
  have hR' : Rd .u8 W W.heap.size A d := (hR.below B0).lt
  clear hW hR
  have PL := hide (l3Head_any d A c W hm hc hR' b8)
  by_cases hh : frHd d
  · have ht := frTo_small b8 hh
    have hpl := frPay_len d hh
    have hp8 : B8 (frPay d) := (b8.take _).drop _
    have hq : frTo d + 4 ≤ d.length := hh.2.2.2.2.2.2
    have hft : frTo d = frFrom d + (rdV (d.drop 2)).toNat := rfl
    have hf2 : 2 ≤ frFrom d := by unfold frFrom; omega
    obtain ⟨b, off, hA, hb, hx⟩ := hR'.all (by omega)
    have c1 := hx 1 (by omega)
    have hK : d.getD 1 0 = d[1] := getD_at d 1 (by omega)
    have bd1 := b8.get 1 (by omega)
    obtain ⟨x1, hx1⟩ : ∃ x, x = d[1] := ⟨_, rfl⟩
    rw [← hx1] at c1 hK bd1
    have RT := hR'.take (frTo d)
    have RS := (hR'.cut (n := frTo d) (by omega) hc).take 4
    have RP : Rd .u8 W W.heap.size (cutA A (frFrom d) c) (frPay d) := (hR'.take (frTo d)).cut (n := frFrom d) (c := c) (by rw [List.length_take]; omega) (by rw [List.length_take]; omega)
    have b8S : B8 ((d.drop (frTo d)).take 4) := (b8.drop _).take _
    have lT : (d.take (frTo d)).length = frTo d := by rw [List.length_take]; omega
    have lS : ((d.drop (frTo d)).take 4).length = 4 := by rw [List.length_take, List.length_drop]; omega
    have lP : (frPay d).length = frTo d - frFrom d := by rw [hpl]; omega
    have hbd := crcV_bd (b8.take (frTo d))
    have b8V := fourL_B8 hbd
    have hcv : ((crcS 4294967295 (d.take (frTo d)) ^^^ 4294967295 : Nat) : Int) = crcV (d.take (frTo d)) := by unfold crcV; rw [if_pos (by omega)]
    have SM : Hid (frSum d ↔ fourL (crcV (d.take (frTo d))) = (d.drop (frTo d)).take 4) := hide Iff.rfl
    have CR0 := fun W hW => l1Crc_any (d.take (frTo d)) A c W (by rw [List.length_take]; omega) hW (b8.take _)
    have UN0 := fun W h => l2Unpack_any (frPay d) (cutA A (frFrom d) c) (c - frFrom d) W (by rw [hpl]; omega) (by rw [hpl]; omega) h hp8
    have E00 := fun (W1 W2 : World) (hW : Rd .u8 W1 W1.heap.size (cutA A (frTo d) c) ((d.drop (frTo d)).take 4)) (hB : Below W1.heap.size W1 W2) => run_str (P := Tryz.prog) (c - frTo d) 22 5 Tryz.underlying22 Tryz.underlying5 (hW.below hB) 9 Tryz.underlying9
    have SS := sameB_str b8V b8S
    rw [lT, hcv] at CR0
    rw [lS] at E00
    rw [lP] at UN0
    have CR := hide CR0
    have E0 := hide E00
    have UN := hide UN0
    have ES := hide SS
    clear CR0 E00 UN0 SS
    have PY := hide (PL.out.mono fun e w' hp => by
      rcases hp with ⟨⟨_, h1⟩ | ⟨h2, _⟩, h3⟩
      · exact And.intro h1 h3
      · exact absurd hh h2)
    have CN := hide (fun h1 : ¬ frSum d => frC_sum hh h1)
    have CF := hide (fun (h1 : frSum d) (h2 : unpN 8 (frPay d) 0 = none) => frC_form hh h1 (by rw [(un_none (by omega) h2).1]; omega))
    have CO := hide (fun (es : List Ev) (h1 : frSum d) (h2 : unpN 8 (frPay d) 0 = some es) => And.intro (frC_ok hh h1 (un_some (by omega) h2).1) (And.intro (un_some (by omega) h2).2 (frC_yes (frC_ok hh h1 (un_some (by omega) h2).1))))
    rw [hK] at CO
    obtain ⟨T, hT0⟩ : ∃ T, T = frTo d := ⟨_, rfl⟩
    obtain ⟨F, hF0⟩ : ∃ F, F = frFrom d := ⟨_, rfl⟩
    obtain ⟨V, hV⟩ : ∃ V, V = crcV (d.take (frTo d)) := ⟨_, rfl⟩
    obtain ⟨Y, hY⟩ : ∃ Y, Y = (d.drop (frTo d)).take 4 := ⟨_, rfl⟩
    obtain ⟨P, hP⟩ : ∃ P, P = frPay d := ⟨_, rfl⟩
    obtain ⟨X, hX⟩ : ∃ X, X = d.take (frTo d) := ⟨_, rfl⟩
    rw [← hV, ← hY] at SM ES
    rw [← hV, ← hX] at CR
    rw [← hV] at hbd
    rw [← hX] at RT
    rw [← hY] at RS E0
    rw [← hP] at UN RP CF CO
    rw [← hT0] at PY CR E0 UN CO RS lS hq ht hft
    rw [← hF0] at PY UN RP hf2 hft
    have FR := hide (fun W => l1Four_any V W hbd)
    have WT : IntKind.i64.wrap ((T : Int) + 4) = (T : Int) + 4 := wraps_i64_62 _ (by omega) (by omega)
    have T0 : ((T : Int) == 0) = false := beq_eq_false_iff_ne.2 (by omega)
    have S1 := fun W => run_head A d.length T c T W rfl (by omega)
    have S2 := fun W => run_mid A d.length T 4 c T ((T : Int) + 4) W rfl (by omega) (by omega)
    have S3 := fun W => run_mid A d.length F (T - F) c F T W rfl (by omega) (by omega)
    have hi1 : ¬ d.length ≤ 1 := by omega
    have hi2 : (1 : Int) < (d.length : Int) := by omega
    clear hx hx1 hT0 hF0 hV hY hX hK b8V b8S hbd lT lP hp8 hpl PL lS ht hft hf2 b8 hcv hP
    subst hA
    by_cases hs : fourL V = Y
    · have hsum := SM.out.2 hs
      have hf : sameB (fourL V) Y = true := by unfold sameB; exact beq_iff_eq.2 hs
      rw [hf] at ES
      have es := ES.out
      clear hs hf SM CN ES
      go_enter Tryz.func219, Tryz.ntmps219
      go_wp2_with fail
      rw [← HW.out]
      refine PY.out.mono ?_
      rintro e w1 ⟨rfl, b1⟩
      have r1 := (RT.below b1).lt
      have s1 := (RS.below b1).lt
      have p1 := (RP.below b1).lt
      have k1 := cell_kept b1 c1
      go_wp2_with fail
      go_cut [27] (fun s wx => s = .bool false ∧ Below w1.heap.size w1 wx)
      case first =>
        have p0 := E0.out w1 w1.drew s1 (Below.refl _ _).drew
        go_region_with (first
          | (go_at_call 141; refine (CR.out _ ?_).mono ?_; exact r1; rintro e wa ⟨rfl, rfl⟩)
          | (go_at_call 140; refine (FR.out _).mono ?_; rintro e wa ⟨ga, rfl, oa, ba⟩; have hB1 := (Below.refl w1.heap.size w1).drew.trans ba; have q0 := E0.out w1 wa s1 hB1; have q1 := run_str (P := Tryz.prog) 4 22 5 Tryz.underlying22 Tryz.underlying5 (Rd.of_own oa) 9 Tryz.underlying9; rw [fourL_length] at q1))
        all_goals
          go_wp2_with fail
          go_meet
          exact ⟨rfl, hB1⟩
      case rest =>
        obtain ⟨rfl, C1⟩ := hcut
        have hb1 := b1.trans (C1.mono b1.size)
        have k2 := cell_kept C1 k1
        have p2 := (p1.below C1).lt
        clear r1 s1 p1 k1 b1 C1 es
        rcases hu : unpN 8 P 0 with _ | es
        · have hC := CF.out hsum hu
          have FB := hide (fun (w' : World) (h : Below w.heap.size w w') => RfPost.bad (d := d) (by rw [hC]; omega) h)
          rw [hC] at FB
          have UY := hide (fun W h => (UN.out W h).mono fun e w' hp => unpost_none hp hu)
          clear UN hu CF CO hC
          go_wp2_with fail
          refine (UY.out _ p2).mono ?_
          rintro e w2 ⟨rfl, b2⟩
          have hb := hb1.trans (b2.mono hb1.size)
          have q0 := W_cell HW.out hb 0
          have q1 := W_cell HW.out hb 1
          have q2 := W_cell HW.out hb 2
          have q3 := W_cell HW.out hb 3
          have f0 := W_frozen HW.out hb 0
          have f1 := W_frozen HW.out hb 1
          have f2 := W_frozen HW.out hb 2
          have f3 := W_frozen HW.out hb 3
          simp at q0 q1 q2 q3
          go_wp2
          refine bodyPost_ret (v := frR 1 0 none 0 0 0) (by simp [results, Tryz.results219, go_sem, q0, q1, q2, q3]) rfl ?_
          exact FB.out _ (((((W_below HW.out hb).setCell (Nat.le_refl _) _).setCell (Nat.le_refl _) _).setCell (Nat.le_refl _) _).setCell (Nat.le_refl _) _)
        · obtain ⟨hC0, hE1, hE0, hK0, hZ0⟩ := CO.out es hsum hu
          rw [hE1] at hE0
          have UY := hide (fun W h => (UN.out W h).mono fun e w' hp => unpost_some hp hu)
          clear UN hu CF CO hE1
          go_wp2_with fail
          refine (UY.out _ p2).mono ?_
          rintro e w2 ⟨A2, c2, rfl, o2, b2⟩
          have k3 := cell_kept b2 k2
          have hb := hb1.trans (b2.mono hb1.size)
          have q0 := W_cell HW.out hb 0
          have q1 := W_cell HW.out hb 1
          have q2 := W_cell HW.out hb 2
          have q3 := W_cell HW.out hb 3
          have f0 := W_frozen HW.out hb 0
          have f1 := W_frozen HW.out hb 1
          have f2 := W_frozen HW.out hb 2
          have f3 := W_frozen HW.out hb 3
          simp at q0 q1 q2 q3
          have zW := W_size HW.out
          have z1 := hb1.size
          have hO := hide o2
          clear o2
          go_wp2
          refine bodyPost_ret (v := frR 0 x1 A2 es.length c2 ((T : Int) + 4)) (by simp [results, Tryz.results219, go_sem, q0, q1, q2, q3]) rfl ?_
          unfold RfPost
          rw [hC0, hK0, hZ0, hE0]
          refine ⟨A2, c2, rfl, ?_, ((((W_below HW.out hb).setCell (Nat.le_refl _) _).setCell (Nat.le_refl _) _).setCell (Nat.le_refl _) _).setCell (Nat.le_refl _) _⟩
          have o4 := ownsRow_setCell_below hO.out (a := ⟨w.heap.size, 0, none⟩) (by simp; omega) (.int .i64 0)
          have o5 := ownsRow_setCell_below o4 (a := ⟨w.heap.size, 1, none⟩) (by simp; omega) (.int .i64 x1)
          have o6 := ownsRow_setCell_below o5 (a := ⟨w.heap.size, 2, none⟩) (by simp; omega) (.slice A2 es.length c2)
          have o7 := ownsRow_setCell_below o6 (a := ⟨w.heap.size, 3, none⟩) (by simp; omega) (.int .i64 ((T : Int) + 4))
          exact own_mono o7 (by omega)
    · have hf : sameB (fourL V) Y = false := by unfold sameB; exact beq_eq_false_iff_ne.2 hs
      have hC := CN.out (fun h => hs (SM.out.1 h))
      have FB := hide (fun (w' : World) (h : Below w.heap.size w w') => RfPost.bad (d := d) (by rw [hC]; omega) h)
      rw [hC] at FB
      rw [hf] at ES
      have es := ES.out
      clear hs hf SM CN ES hC CO CF
      go_enter Tryz.func219, Tryz.ntmps219
      go_wp2_with fail
      rw [← HW.out]
      refine PY.out.mono ?_
      rintro e w1 ⟨rfl, b1⟩
      have r1 := (RT.below b1).lt
      have s1 := (RS.below b1).lt
      have p1 := (RP.below b1).lt
      have k1 := cell_kept b1 c1
      go_wp2_with fail
      go_cut [27] (fun s wx => s = .bool true ∧ Below w1.heap.size w1 wx)
      case first =>
        have p0 := E0.out w1 w1.drew s1 (Below.refl _ _).drew
        go_region_with (first
          | (go_at_call 141; refine (CR.out _ ?_).mono ?_; exact r1; rintro e wa ⟨rfl, rfl⟩)
          | (go_at_call 140; refine (FR.out _).mono ?_; rintro e wa ⟨ga, rfl, oa, ba⟩; have hB1 := (Below.refl w1.heap.size w1).drew.trans ba; have q0 := E0.out w1 wa s1 hB1; have q1 := run_str (P := Tryz.prog) 4 22 5 Tryz.underlying22 Tryz.underlying5 (Rd.of_own oa) 9 Tryz.underlying9; rw [fourL_length] at q1))
        all_goals
          go_wp2_with fail
          go_meet
          exact ⟨rfl, hB1⟩
      case rest =>
        obtain ⟨rfl, C1⟩ := hcut
        have hb := b1.trans (C1.mono b1.size)
        have q0 := W_cell HW.out hb 0
        have q1 := W_cell HW.out hb 1
        have q2 := W_cell HW.out hb 2
        have q3 := W_cell HW.out hb 3
        have f0 := W_frozen HW.out hb 0
        have f1 := W_frozen HW.out hb 1
        have f2 := W_frozen HW.out hb 2
        have f3 := W_frozen HW.out hb 3
        simp at q0 q1 q2 q3
        go_wp2
        refine bodyPost_ret (v := frR 6 0 none 0 0 0) (by simp [results, Tryz.results219, go_sem, q0, q1, q2, q3]) rfl ?_
        exact FB.out _ (((((W_below HW.out hb).setCell (Nat.le_refl _) _).setCell (Nat.le_refl _) _).setCell (Nat.le_refl _) _).setCell (Nat.le_refl _) _)
  · have FB := hide (fun (w' : World) (h : Below w.heap.size w w') => RfPost.bad (d := d) (by rw [frC_text hh]; omega) h)
    rw [frC_text hh] at FB
    have PN := hide (PL.out.mono fun e w' hp => by
      rcases hp with ⟨⟨h1, _⟩ | ⟨_, h2⟩, h3⟩
      · exact absurd h1 hh
      · exact And.intro h2 h3)
    clear PL
    go_enter Tryz.func219, Tryz.ntmps219
    go_wp2_with fail
    rw [← HW.out]
    refine PN.out.mono ?_
    rintro e w1 ⟨rfl, hb⟩
    have q0 := W_cell HW.out hb 0
    have q1 := W_cell HW.out hb 1
    have q2 := W_cell HW.out hb 2
    have q3 := W_cell HW.out hb 3
    have f0 := W_frozen HW.out hb 0
    have f1 := W_frozen HW.out hb 1
    have f2 := W_frozen HW.out hb 2
    have f3 := W_frozen HW.out hb 3
    simp at q0 q1 q2 q3
    go_wp2
    refine bodyPost_ret (v := frR 5 0 none 0 0 0) (by simp [results, Tryz.results219, go_sem, q0, q1, q2, q3]) rfl ?_
    exact FB.out _ (((((W_below HW.out hb).setCell (Nat.le_refl _) _).setCell (Nat.le_refl _) _).setCell (Nat.le_refl _) _).setCell (Nat.le_refl _) _)
end Go.Proofs.YtnnfkmjhaljplaaGreatDoor
