/- The contract of the model's ReadFrame. -/
import Derived.Test.YtkeifkdaddmkfaaDoorReadF4
namespace Go.Proofs.YtkeifkdaddmkfaaDoor
open Go.RowKit

theorem unpost_none {d : List Int} {w : World} {e : Ending} {w' : World} (h : UnPost d w e w') (hu : unpN 8 d 0 = none) : e = .returned (.tuple #[.slice none 0 0, .bool false]) ∧ Below w.heap.size w w' := by
  rcases h with ⟨_, h2, h3⟩ | ⟨es, A, c, h1, _⟩
  · exact ⟨h2, h3⟩
  · rw [hu] at h1; cases h1
theorem unpost_some {d : List Int} {w : World} {e : Ending} {w' : World} {es : List Ev} (h : UnPost d w e w') (hu : unpN 8 d 0 = some es) :
    ∃ A c, e = .returned (.tuple #[.slice A es.length c, .bool true]) ∧ w'.ownsRow w.heap.size 81 3 (.slice A es.length c) es.length (evs es) ∧ Below w.heap.size w w' := by
  rcases h with ⟨h1, _⟩ | ⟨es', A, c, h1, h2, h3, h4⟩
  · rw [hu] at h1; cases h1
  · rw [hu] at h1
    cases h1
    exact ⟨A, c, h2, h3, h4⟩

set_option maxRecDepth 100000 in
set_option maxHeartbeats 2000000 in
theorem specRf_any (d : List Int) (A : Option Addr) (c : Nat) (w : World) (hm : d.length ≤ 1048576) (hc : d.length ≤ c) (hR : Rd .u8 w w.heap.size A d) (b8 : B8 d) :
    Calls Tryd.prog 11 #[.slice A d.length c] w (RfPost d w) := by
  obtain ⟨W, hW⟩ : ∃ W, W = w.alloc (Obj.cells #[Value.int .i64 0, .int .i64 0, .slice none 0 0, .int .i64 0] 33) := ⟨_, rfl⟩
  have HW := hide hW
  have B0 : Below w.heap.size w W := by subst hW; exact (Below.refl _ _).alloc (Nat.le_refl _) _
  have hR' : Rd .u8 W W.heap.size A d := (hR.below B0).lt
  clear hW hR
  have PL := hide (l3Head_any d A c W hm hc hR' b8)
  by_cases hh : frHd d
  · have ht := frTo_small b8 hh
    have hpl := frPay_len d hh
    have hp8 : B8 (frPay d) := (b8.take _).drop _
    have hq : frTo d + 4 ≤ d.length := hh.2.2.2.2.2.2
    have hft : frTo d = frFrom d + (rdV (d.drop 2)).toNat := rfl
    have hf2 : 2 ≤ frFrom d := by unfold frFrom; omega
    obtain ⟨b, off, hA, hb, hx⟩ := hR'.all (by omega)
    have c1 := hx 1 (by omega)
    have hK : d.getD 1 0 = d[1] := getD_at d 1 (by omega)
    have bd1 := b8.get 1 (by omega)
    obtain ⟨x1, hx1⟩ : ∃ x, x = d[1] := ⟨_, rfl⟩
    rw [← hx1] at c1 hK bd1
    have RT := hR'.take (frTo d)
    have RS := (hR'.cut (n := frTo d) (by omega) hc).take 4
    have RP : Rd .u8 W W.heap.size (cutA A (frFrom d) c) (frPay d) := (hR'.take (frTo d)).cut (n := frFrom d) (c := c) (by rw [List.length_take]; omega) (by rw [List.length_take]; omega)
    have b8S : B8 ((d.drop (frTo d)).take 4) := (b8.drop _).take _
    have lT : (d.take (frTo d)).length = frTo d := by rw [List.length_take]; omega
    have lS : ((d.drop (frTo d)).take 4).length = 4 := by rw [List.length_take, List.length_drop]; omega
    have lP : (frPay d).length = frTo d - frFrom d := by rw [hpl]; omega
    have hbd := crcV_bd (b8.take (frTo d))
    have b8V := fourL_B8 hbd
    have hcv : ((crcS 4294967295 (d.take (frTo d)) ^^^ 4294967295 : Nat) : Int) = crcV (d.take (frTo d)) := by unfold crcV; rw [if_pos (by omega)]
    have SM : Hid (frSum d ↔ fourL (crcV (d.take (frTo d))) = (d.drop (frTo d)).take 4) := hide Iff.rfl
    have CR0 := fun W hW => l1Crc_any (d.take (frTo d)) A c W (by rw [List.length_take]; omega) hW (b8.take _)
    have UN0 := fun W h => l2Unpack_any (frPay d) (cutA A (frFrom d) c) (c - frFrom d) W (by rw [hpl]; omega) (by rw [hpl]; omega) h hp8
    have E00 := fun (W1 W2 : World) (hW : Rd .u8 W1 W1.heap.size (cutA A (frTo d) c) ((d.drop (frTo d)).take 4)) (hB : Below W1.heap.size W1 W2) => run_str (P := Tryd.prog) (c - frTo d) 22 5 Tryd.underlying22 Tryd.underlying5 (hW.below hB) 9 Tryd.underlying9
    have SS := sameB_str b8V b8S
    rw [lT, hcv] at CR0
    rw [lS] at E00
    rw [lP] at UN0
    have CR := hide CR0
    have E0 := hide E00
    have UN := hide UN0
    have ES := hide SS
    clear CR0 E00 UN0 SS
    have PY := hide (PL.out.mono fun e w' hp => by
      rcases hp with ⟨⟨_, h1⟩ | ⟨h2, _⟩, h3⟩
      · exact And.intro h1 h3
      · exact absurd hh h2)
    have CN := hide (fun h1 : ¬ frSum d => frC_sum hh h1)
    have CF := hide (fun (h1 : frSum d) (h2 : unpN 8 (frPay d) 0 = none) => frC_form hh h1 (by rw [(un_none (by omega) h2).1]; omega))
    have CO := hide (fun (es : List Ev) (h1 : frSum d) (h2 : unpN 8 (frPay d) 0 = some es) => And.intro (frC_ok hh h1 (un_some (by omega) h2).1) (And.intro (un_some (by omega) h2).2 (frC_yes (frC_ok hh h1 (un_some (by omega) h2).1))))
    rw [hK] at CO
    obtain ⟨T, hT0⟩ : ∃ T, T = frTo d := ⟨_, rfl⟩
    obtain ⟨F, hF0⟩ : ∃ F, F = frFrom d := ⟨_, rfl⟩
    obtain ⟨V, hV⟩ : ∃ V, V = crcV (d.take (frTo d)) := ⟨_, rfl⟩
    obtain ⟨Y, hY⟩ : ∃ Y, Y = (d.drop (frTo d)).take 4 := ⟨_, rfl⟩
    obtain ⟨P, hP⟩ : ∃ P, P = frPay d := ⟨_, rfl⟩
    obtain ⟨X, hX⟩ : ∃ X, X = d.take (frTo d) := ⟨_, rfl⟩
    rw [← hV, ← hY] at SM ES
    rw [← hV, ← hX] at CR
    rw [← hV] at hbd
    rw [← hX] at RT
    rw [← hY] at RS E0
    rw [← hP] at UN RP CF CO
    rw [← hT0] at PY CR E0 UN CO RS lS hq ht hft
    rw [← hF0] at PY UN RP hf2 hft
    have FR := hide (fun W => l1Four_any V W hbd)
    have WT : IntKind.i64.wrap ((T : Int) + 4) = (T : Int) + 4 := wraps_i64_62 _ (by omega) (by omega)
    have T0 : ((T : Int) == 0) = false := beq_eq_false_iff_ne.2 (by omega)
    have S1 := fun W => run_head A d.length T c T W rfl (by omega)
    have S2 := fun W => run_mid A d.length T 4 c T ((T : Int) + 4) W rfl (by omega) (by omega)
    have S3 := fun W => run_mid A d.length F (T - F) c F T W rfl (by omega) (by omega)
    have hi1 : ¬ d.length ≤ 1 := by omega
    have hi2 : (1 : Int) < (d.length : Int) := by omega
    clear hx hx1 hT0 hF0 hV hY hX hK b8V b8S hbd lT lP hp8 hpl PL lS ht hft hf2 b8 hcv hP
    subst hA
    by_cases hs : fourL V = Y
    · have hsum := SM.out.2 hs
      have hf : sameB (fourL V) Y = true := by unfold sameB; exact beq_iff_eq.2 hs
      rw [hf] at ES
      have es := ES.out
      clear hs hf SM CN ES
      go_enter Tryd.func11, Tryd.ntmps11
      go_wp2_with fail
      rw [← HW.out]
      refine PY.out.mono ?_
      rintro e w1 ⟨rfl, b1⟩
      have r1 := (RT.below b1).lt
      have s1 := (RS.below b1).lt
      have p1 := (RP.below b1).lt
      have k1 := cell_kept b1 c1
      go_wp2_with fail
      go_cut [27] (fun s wx => s = .bool false ∧ Below w1.heap.size w1 wx)
      case first =>
        have p0 := E0.out w1 w1.drew s1 (Below.refl _ _).drew
        go_region_with (first
          | (go_at_call 43; refine (CR.out _ ?_).mono ?_; exact r1; rintro e wa ⟨rfl, rfl⟩)
          | (go_at_call 42; refine (FR.out _).mono ?_; rintro e wa ⟨ga, rfl, oa, ba⟩; have hB1 := (Below.refl w1.heap.size w1).drew.trans ba; have q0 := E0.out w1 wa s1 hB1; have q1 := run_str (P := Tryd.prog) 4 22 5 Tryd.underlying22 Tryd.underlying5 (Rd.of_own oa) 9 Tryd.underlying9; rw [fourL_length] at q1))
        all_goals
          go_wp2_with fail
          go_meet
          exact ⟨rfl, hB1⟩
      case rest =>
        obtain ⟨rfl, C1⟩ := hcut
        have hb1 := b1.trans (C1.mono b1.size)
        have k2 := cell_kept C1 k1
        have p2 := (p1.below C1).lt
        clear r1 s1 p1 k1 b1 C1 es
        rcases hu : unpN 8 P 0 with _ | es
        · have hC := CF.out hsum hu
          have FB := hide (fun (w' : World) (h : Below w.heap.size w w') => RfPost.bad (d := d) (by rw [hC]; omega) h)
          rw [hC] at FB
          have UY := hide (fun W h => (UN.out W h).mono fun e w' hp => unpost_none hp hu)
          clear UN hu CF CO hC
          go_wp2_with fail
          refine (UY.out _ p2).mono ?_
          rintro e w2 ⟨rfl, b2⟩
          have hb := hb1.trans (b2.mono hb1.size)
          have q0 := W_cell HW.out hb 0
          have q1 := W_cell HW.out hb 1
          have q2 := W_cell HW.out hb 2
          have q3 := W_cell HW.out hb 3
          have f0 := W_frozen HW.out hb 0
          have f1 := W_frozen HW.out hb 1
          have f2 := W_frozen HW.out hb 2
          have f3 := W_frozen HW.out hb 3
          simp at q0 q1 q2 q3
          go_wp2
          refine bodyPost_ret (v := frR 1 0 none 0 0 0) (by simp [results, Tryd.results11, go_sem, q0, q1, q2, q3]) rfl ?_
          exact FB.out _ (((((W_below HW.out hb).setCell (Nat.le_refl _) _).setCell (Nat.le_refl _) _).setCell (Nat.le_refl _) _).setCell (Nat.le_refl _) _)
        · obtain ⟨hC0, hE1, hE0, hK0, hZ0⟩ := CO.out es hsum hu
          rw [hE1] at hE0
          have UY := hide (fun W h => (UN.out W h).mono fun e w' hp => unpost_some hp hu)
          clear UN hu CF CO hE1
          go_wp2_with fail
          refine (UY.out _ p2).mono ?_
          rintro e w2 ⟨A2, c2, rfl, o2, b2⟩
          have k3 := cell_kept b2 k2
          have hb := hb1.trans (b2.mono hb1.size)
          have q0 := W_cell HW.out hb 0
          have q1 := W_cell HW.out hb 1
          have q2 := W_cell HW.out hb 2
          have q3 := W_cell HW.out hb 3
          have f0 := W_frozen HW.out hb 0
          have f1 := W_frozen HW.out hb 1
          have f2 := W_frozen HW.out hb 2
          have f3 := W_frozen HW.out hb 3
          simp at q0 q1 q2 q3
          have zW := W_size HW.out
          have z1 := hb1.size
          have hO := hide o2
          clear o2
          go_wp2
          refine bodyPost_ret (v := frR 0 x1 A2 es.length c2 ((T : Int) + 4)) (by simp [results, Tryd.results11, go_sem, q0, q1, q2, q3]) rfl ?_
          unfold RfPost
          rw [hC0, hK0, hZ0, hE0]
          refine ⟨A2, c2, rfl, ?_, ((((W_below HW.out hb).setCell (Nat.le_refl _) _).setCell (Nat.le_refl _) _).setCell (Nat.le_refl _) _).setCell (Nat.le_refl _) _⟩
          have o4 := ownsRow_setCell_below hO.out (a := ⟨w.heap.size, 0, none⟩) (by simp; omega) (.int .i64 0)
          have o5 := ownsRow_setCell_below o4 (a := ⟨w.heap.size, 1, none⟩) (by simp; omega) (.int .i64 x1)
          have o6 := ownsRow_setCell_below o5 (a := ⟨w.heap.size, 2, none⟩) (by simp; omega) (.slice A2 es.length c2)
          have o7 := ownsRow_setCell_below o6 (a := ⟨w.heap.size, 3, none⟩) (by simp; omega) (.int .i64 ((T : Int) + 4))
          exact own_mono o7 (by omega)
    · have hf : sameB (fourL V) Y = false := by unfold sameB; exact beq_eq_false_iff_ne.2 hs
      have hC := CN.out (fun h => hs (SM.out.1 h))
      have FB := hide (fun (w' : World) (h : Below w.heap.size w w') => RfPost.bad (d := d) (by rw [hC]; omega) h)
      rw [hC] at FB
      rw [hf] at ES
      have es := ES.out
      clear hs hf SM CN ES hC CO CF
      go_enter Tryd.func11, Tryd.ntmps11
      go_wp2_with fail
      rw [← HW.out]
      refine PY.out.mono ?_
      rintro e w1 ⟨rfl, b1⟩
      have r1 := (RT.below b1).lt
      have s1 := (RS.below b1).lt
      have p1 := (RP.below b1).lt
      have k1 := cell_kept b1 c1
      go_wp2_with fail
      go_cut [27] (fun s wx => s = .bool true ∧ Below w1.heap.size w1 wx)
      case first =>
        have p0 := E0.out w1 w1.drew s1 (Below.refl _ _).drew
        go_region_with (first
          | (go_at_call 43; refine (CR.out _ ?_).mono ?_; exact r1; rintro e wa ⟨rfl, rfl⟩)
          | (go_at_call 42; refine (FR.out _).mono ?_; rintro e wa ⟨ga, rfl, oa, ba⟩; have hB1 := (Below.refl w1.heap.size w1).drew.trans ba; have q0 := E0.out w1 wa s1 hB1; have q1 := run_str (P := Tryd.prog) 4 22 5 Tryd.underlying22 Tryd.underlying5 (Rd.of_own oa) 9 Tryd.underlying9; rw [fourL_length] at q1))
        all_goals
          go_wp2_with fail
          go_meet
          exact ⟨rfl, hB1⟩
      case rest =>
        obtain ⟨rfl, C1⟩ := hcut
        have hb := b1.trans (C1.mono b1.size)
        have q0 := W_cell HW.out hb 0
        have q1 := W_cell HW.out hb 1
        have q2 := W_cell HW.out hb 2
        have q3 := W_cell HW.out hb 3
        have f0 := W_frozen HW.out hb 0
        have f1 := W_frozen HW.out hb 1
        have f2 := W_frozen HW.out hb 2
        have f3 := W_frozen HW.out hb 3
        simp at q0 q1 q2 q3
        go_wp2
        refine bodyPost_ret (v := frR 6 0 none 0 0 0) (by simp [results, Tryd.results11, go_sem, q0, q1, q2, q3]) rfl ?_
        exact FB.out _ (((((W_below HW.out hb).setCell (Nat.le_refl _) _).setCell (Nat.le_refl _) _).setCell (Nat.le_refl _) _).setCell (Nat.le_refl _) _)
  · have FB := hide (fun (w' : World) (h : Below w.heap.size w w') => RfPost.bad (d := d) (by rw [frC_text hh]; omega) h)
    rw [frC_text hh] at FB
    have PN := hide (PL.out.mono fun e w' hp => by
      rcases hp with ⟨⟨h1, _⟩ | ⟨_, h2⟩, h3⟩
      · exact absurd h1 hh
      · exact And.intro h2 h3)
    clear PL
    go_enter Tryd.func11, Tryd.ntmps11
    go_wp2_with fail
    rw [← HW.out]
    refine PN.out.mono ?_
    rintro e w1 ⟨rfl, hb⟩
    have q0 := W_cell HW.out hb 0
    have q1 := W_cell HW.out hb 1
    have q2 := W_cell HW.out hb 2
    have q3 := W_cell HW.out hb 3
    have f0 := W_frozen HW.out hb 0
    have f1 := W_frozen HW.out hb 1
    have f2 := W_frozen HW.out hb 2
    have f3 := W_frozen HW.out hb 3
    simp at q0 q1 q2 q3
    go_wp2
    refine bodyPost_ret (v := frR 5 0 none 0 0 0) (by simp [results, Tryd.results11, go_sem, q0, q1, q2, q3]) rfl ?_
    exact FB.out _ (((((W_below HW.out hb).setCell (Nat.le_refl _) _).setCell (Nat.le_refl _) _).setCell (Nat.le_refl _) _).setCell (Nat.le_refl _) _)
end Go.Proofs.YtkeifkdaddmkfaaDoor
