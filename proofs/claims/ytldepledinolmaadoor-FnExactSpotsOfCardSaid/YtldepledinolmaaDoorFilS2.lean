/- Contracts of the model's EncodeTrace and FramesIn. -/
import Derived.Test.YtldepledinolmaaDoorFilS
import Derived.Test.YtldepledinolmaaDoorGTrS
namespace Go.Proofs.YtldepledinolmaaDoor
open Go.RowKit

set_option maxRecDepth 100000 in
set_option maxHeartbeats 1600000 in
theorem l4Encode_any (t : List (List Ev)) (b : Nat) (A : Option Addr) (c : Nat) (w : World) (h0 : trF t = 0) (hb1 : 1 ≤ b) (hb8 : b ≤ 8) (h : RdT w w.heap.size A t) :
    Calls Tryd.prog 30 #[.slice A t.length c, .int .i64 b] w fun e w' => ∃ A c, e = .returned (.slice A (filL b t).length c) ∧ OwnB w (filL b t) (.slice A (filL b t).length c) w' := by
  obtain ⟨i0, hi, hz0, hz1, hz2⟩ := info_parts info_u8
  obtain ⟨ht1, ht4, hall⟩ := trF_zero h0
  have hsum := sumT_few hall
  have hfl := filF_len hb1 0 t hall
  have FR := hide (l4Frames_any t b A c w h0 hb1 hb8 h)
  have CO := hide (fun W hW => l4Count_any t A c W (by omega) (fun l hl => by have := (stF_zero (hall l hl)).1; omega) hW)
  have hdl := hdF_len hb1 h0
  have hd8 := hdF_B8 hb1 h0
  obtain ⟨F, hF⟩ : ∃ F, F = filF b 0 t := ⟨_, rfl⟩
  obtain ⟨N, hN⟩ : ∃ N, N = filN b t := ⟨_, rfl⟩
  obtain ⟨S, hS⟩ : ∃ S, S = sumT t := ⟨_, rfl⟩
  obtain ⟨H, hH⟩ : ∃ H, H = hdF b t := ⟨_, rfl⟩
  have HD : Hid (H = ([67, (t.length : Int)] ++ F) ++ [69, (N : Int), (S : Int)]) := hide (by rw [hH, hF, hN, hS]; rfl)
  have FL : Hid (filL b t = H ++ fourL (crcV H)) := hide (by rw [hH]; rfl)
  rw [← hF, ← hN] at FR
  rw [← hS] at CO
  rw [← hF, ← hN] at hfl
  rw [← hS] at hsum hfl
  rw [← hH] at hdl hd8
  have CR := hide (fun A c W hR => l1Crc_any H A c W (by omega) hR hd8)
  have hcv : ((crcS 4294967295 H ^^^ 4294967295 : Nat) : Int) = crcV H := by unfold crcV; rw [if_pos (by omega)]
  rw [hcv] at CR
  have hbd := crcV_bd hd8
  obtain ⟨V, hV⟩ : ∃ V, V = crcV H := ⟨_, rfl⟩
  rw [← hV] at CR FL hbd
  have FO := hide (fun W => l1Four_any V W hbd)
  obtain ⟨L, hL⟩ : ∃ L, L = filL b t := ⟨_, rfl⟩
  rw [← hL] at FL ⊢
  obtain ⟨n, hn⟩ : ∃ n, n = t.length := ⟨_, rfl⟩
  rw [← hn] at FR CO HD ht1 ht4 hsum ⊢
  have hN32 : N ≤ 32 := by omega
  have hS32 : S ≤ 32 := by omega
  have hF8 : F.length ≤ 832 := by omega
  clear hV hcv hF hN hS hH hL hn h0 hall hfl hsum hd8
  go_enter Tryd.func30, Tryd.ntmps30
  go_wp2_with fail
  refine FR.out.mono ?_
  rintro e w1 ⟨A1, c1, rfl, O1⟩
  have ob : OwnB w1 [67, (n : Int)] (.slice (some ⟨w1.heap.size, 0, none⟩) 2 2) (w1.alloc (Obj.cells #[.int .u8 67, .int .u8 n] 5)) := ⟨World.ownsRow_lit w1 #[.int .u8 67, .int .u8 n] 2 (Nat.le_refl _) (by unfold maxLen; omega) rfl, (Below.refl _ _).alloc (Nat.le_refl _) _⟩
  have r1 := (Rd.of_own O1.1).alloc (Nat.le_refl _) (Obj.cells #[.int .u8 67, .int .u8 n] 5)
  have x2 : ([67, (n : Int)] : List Int).length = 2 := rfl
  have B1 := O1.2
  have h1 := h.below B1
  clear O1 h
  go_wp2_with (at_builtin; refine wpList_append_rd _ rfl (.tmp 17) (.tmp 18) 22 rfl w1.heap.size 5 i0 (.int .u8 0) 1 Tryd.underlying22 hi hz0 hz1 hz2 rfl .u8 (.slice (some ⟨w1.heap.size, 0, none⟩) 2 2) 2 _ rfl ob.1 A1 F c1 _ rfl r1 (by unfold maxLen; omega) (by omega) ob.2.size ?_; intro v2 w2 o2 g2 hat2; have oc := ob.more o2 g2; have h2 := (h1.below (oc.2.mono B1.size)).lt; clear g2 hat2 o2 ob r1 h1)
  refine (CO.out _ h2).mono ?_
  rintro e w3 ⟨rfl, rfl⟩
  obtain ⟨Y, hY⟩ : ∃ Y : List Int, Y = [67, (n : Int)] ++ F := ⟨_, rfl⟩
  have hYl : Y.length ≤ 840 := by rw [hY, List.length_append, x2]; omega
  rw [← hY] at oc HD
  obtain ⟨D2, d2, hv2⟩ := own_shape oc.1
  subst hv2
  have r3 := Rd.of_own (k := .u8) (l := [69, (N : Int), (S : Int)]) (World.ownsRow_lit w2 #[.int .u8 69, .int .u8 N, .int .u8 S] 3 (e := 5) (size := 1) (base := w2.heap.size) (Nat.le_refl _) (by unfold maxLen; omega) rfl)
  have od := oc.below ((Below.refl w2.heap.size w2).alloc (Nat.le_refl _) (Obj.cells #[.int .u8 69, .int .u8 N, .int .u8 S] 5))
  clear hY x2 oc FR CO h2
  go_wp2_with (at_builtin; refine wpList_append_rd _ rfl (.tmp 20) (.tmp 26) 22 rfl w1.heap.size 5 i0 (.int .u8 0) 1 Tryd.underlying22 hi hz0 hz1 hz2 rfl .u8 (.slice D2 Y.length d2) _ _ rfl od.1 (some ⟨w2.heap.size, 0, none⟩) [69, (N : Int), (S : Int)] 3 _ rfl r3 (by unfold maxLen; simp; omega) (by simp; omega) od.2.size ?_; intro v4 w4 o4 g4 hat4; have oe := od.more o4 g4; rw [← HD.out] at oe; clear g4 hat4 o4 od r3; obtain ⟨D4, d4, hv4⟩ := own_shape oe.1; rw [hv4] at oe; rw [hv4]; clear hv4)
  have r4 := Rd.of_own oe.1
  clear hYl
  refine (CR.out _ _ _ r4).mono ?_
  rintro e w5 ⟨rfl, rfl⟩
  go_wp2_with fail
  refine (FO.out _).mono ?_
  rintro e w5 ⟨g5, rfl, o5, b5⟩
  have of := oe.below b5
  clear oe b5 r4
  go_wp2_with (at_builtin; refine wpList_append_rd _ rfl (.tmp 28) (.tmp 31) 22 rfl w1.heap.size 5 i0 (.int .u8 0) 1 Tryd.underlying22 hi hz0 hz1 hz2 rfl .u8 (.slice D4 H.length d4) _ _ rfl of.1 (some ⟨g5, 0, none⟩) (fourL V) 4 _ rfl (Rd.of_own o5) (by unfold maxLen; rw [fourL_length]; omega) (by rw [fourL_length]; omega) of.2.size ?_; intro v6 w6 o6 g6 hat6; have og := of.more o6 g6; rw [← FL.out] at og; clear g6 hat6 o6 of o5; obtain ⟨A6, c6, hv6⟩ := own_shape og.1; rw [hv6] at og; rw [hv6]; clear hv6)
  go_wp2_with fail
  go_ret
  exact ⟨A6, c6, rfl, own_mono og.1 B1.size, B1.trans (og.2.mono B1.size)⟩

theorem fcC_bad {t : List (List Ev)} {b : Int} (h : ¬ trF t = 0) : fcC t b = trF t := if_neg h
theorem fcC_in {t : List (List Ev)} {b : Int} (h : trF t = 0) (hb : 1 ≤ b ∧ b ≤ 8) : fcC t b = 0 := by unfold fcC; rw [if_pos h, if_pos hb]
theorem fcC_out {t : List (List Ev)} {b : Int} (h : trF t = 0) (hb : ¬ (1 ≤ b ∧ b ≤ 8)) : fcC t b = 3 := by unfold fcC; rw [if_pos h, if_neg hb]

set_option maxHeartbeats 400000 in
theorem l4Asked_any (t : List (List Ev)) (b : Int) (A : Option Addr) (c : Nat) (w : World) (hm : t.length ≤ maxLen) (h : RdT w w.heap.size A t) :
    Calls Tryd.prog 29 #[.slice A t.length c, .int .i64 b] w fun e w' => e = .returned (.int .i64 (fcC t b)) ∧ Below w.heap.size w w' := by
  have TF := hide (specTrF_any t A c w hm h)
  by_cases h0 : trF t = 0
  · rw [h0] at TF
    by_cases hb : 1 ≤ b ∧ b ≤ 8
    · rw [fcC_in h0 hb]
      have LI := hide (fun W => l1In_yes b 1 8 W hb)
      clear h0 hb
      go_enter Tryd.func29, Tryd.ntmps29
      go_wp2_with fail
      refine TF.out.mono ?_
      rintro e w1 ⟨rfl, b1⟩
      go_wp2_with fail
      refine (LI.out _).mono ?_
      rintro e w2 ⟨rfl, rfl⟩
      go_wp2
      go_ret
      exact ⟨rfl, b1⟩
    · rw [fcC_out h0 hb]
      have LI := hide (fun W => l1In_no b 1 8 W (by omega))
      clear h0 hb
      go_enter Tryd.func29, Tryd.ntmps29
      go_wp2_with fail
      refine TF.out.mono ?_
      rintro e w1 ⟨rfl, b1⟩
      go_wp2_with fail
      refine (LI.out _).mono ?_
      rintro e w2 ⟨rfl, rfl⟩
      go_wp2
      go_ret
      exact ⟨rfl, b1⟩
  · rw [fcC_bad h0]
    obtain ⟨F, hF⟩ : ∃ F, F = trF t := ⟨_, rfl⟩
    rw [← hF] at TF h0 ⊢
    have g0 : (F != 0) = true := bne_iff_ne.2 h0
    have g1 : (F == 0) = false := beq_eq_false_iff_ne.2 h0
    clear hF h0
    go_enter Tryd.func29, Tryd.ntmps29
    go_wp2_with fail
    refine TF.out.mono ?_
    rintro e w1 ⟨rfl, b1⟩
    go_wp2
    go_ret
    exact ⟨rfl, b1⟩

set_option maxRecDepth 100000 in
set_option maxHeartbeats 800000 in
theorem specEnc_any (t : List (List Ev)) (b : Int) (A : Option Addr) (c : Nat) (w : World) (hm : t.length ≤ maxLen) (h : RdT w w.heap.size A t) :
    Calls Tryd.prog 11 #[.slice A t.length c, .int .i64 b] w fun e w' => ∃ A c, e = .returned (.agg #[.int .i64 (fcC t b), .slice A (fcB t b).length c]) ∧ w'.ownsRow w.heap.size 5 1 (.slice A (fcB t b).length c) (fcB t b).length ((fcB t b).map (Value.int .u8)) ∧ Below w.heap.size w w' := by
  obtain ⟨W, hW⟩ : ∃ W, W = w.alloc (Obj.cells #[Value.int .i64 0, .slice none 0 0] 29) := ⟨_, rfl⟩
  have HW := hide hW
  have hR : RdT W W.heap.size A t := by subst hW; exact (h.alloc (Nat.le_refl _) _).lt
  clear hW h
  have AS := hide (l4Asked_any t b A c W hm hR)
  by_cases h0 : fcC t b = 0
  · obtain ⟨e0, e1, e2⟩ := fcC_zero h0
    obtain ⟨B, rfl⟩ := Int.eq_ofNat_of_zero_le (show 0 ≤ b by omega)
    have LE := hide (fun W hW => l4Encode_any t B A c W e0 (by omega) (by omega) hW)
    have HB : fcB t (B : Int) = filL B t := by unfold fcB; rw [if_pos h0]; rfl
    obtain ⟨F, hF⟩ : ∃ F, F = filL B t := ⟨_, rfl⟩
    rw [h0] at AS
    rw [h0, HB]
    rw [← hF] at LE ⊢
    clear h0 e0 e1 e2 HB hF
    go_enter Tryd.func11, Tryd.ntmps11
    go_wp2_with fail
    rw [← HW.out]
    refine AS.out.mono ?_
    rintro e w1 ⟨rfl, b1⟩
    go_wp2_with fail
    refine (LE.out _ (hR.below b1).lt).mono ?_
    rintro e w2 ⟨A2, c2, rfl, O2⟩
    have hb := b1.trans (O2.2.mono b1.size)
    have q0 := W_cell HW.out hb 0
    have q1 := W_cell HW.out hb 1
    have f0 := W_frozen HW.out hb 0
    have f1 := W_frozen HW.out hb 1
    simp at q0 q1
    have zW := W_size HW.out
    have z1 := b1.size
    have HO := hide O2.1
    clear O2
    go_wp2
    refine bodyPost_ret (v := .agg #[.int .i64 0, .slice A2 F.length c2]) (by simp [results, Tryd.results11, go_sem, q0, q1]) rfl ?_
    have o3 := ownsRow_setCell_below HO.out (a := ⟨w.heap.size, 0, none⟩) (by simp; omega) (.int .i64 0)
    have o4 := ownsRow_setCell_below o3 (a := ⟨w.heap.size, 1, none⟩) (by simp; omega) (.slice A2 F.length c2)
    exact ⟨A2, c2, rfl, own_mono o4 (by omega), ((W_below HW.out hb).setCell (Nat.le_refl _) _).setCell (Nat.le_refl _) _⟩
  · have HB : fcB t b = [] := if_neg h0
    rw [HB]
    obtain ⟨F, hF⟩ : ∃ F, F = fcC t b := ⟨_, rfl⟩
    rw [← hF] at AS h0 ⊢
    have g0 : (F != 0) = true := bne_iff_ne.2 h0
    have g1 : (F == 0) = false := beq_eq_false_iff_ne.2 h0
    clear hF h0 HB
    go_enter Tryd.func11, Tryd.ntmps11
    go_wp2_with fail
    rw [← HW.out]
    refine AS.out.mono ?_
    rintro e w1 ⟨rfl, hb⟩
    have q0 := W_cell HW.out hb 0
    have q1 := W_cell HW.out hb 1
    have f0 := W_frozen HW.out hb 0
    have f1 := W_frozen HW.out hb 1
    simp at q0 q1
    go_wp2
    refine bodyPost_ret (v := .agg #[.int .i64 F, .slice none 0 0]) (by simp [results, Tryd.results11, go_sem, q0, q1]) rfl ?_
    exact ⟨none, 0, rfl, World.ownsRow_nil _ _ _ _, ((W_below HW.out hb).setCell (Nat.le_refl _) _).setCell (Nat.le_refl _) _⟩

theorem fcB_len (t : List (List Ev)) (b : Int) : (fcB t b).length ≤ 841 := by
  unfold fcB
  by_cases h : fcC t b = 0
  · obtain ⟨h0, h1, _⟩ := fcC_zero h
    have := hdF_len (b := b.toNat) (by omega) h0
    rw [if_pos h]
    unfold filL
    rw [List.length_append, fourL_length]
    omega
  · rw [if_neg h]; simp
theorem fcB_B8 (t : List (List Ev)) (b : Int) : B8 (fcB t b) := by
  unfold fcB
  by_cases h : fcC t b = 0
  · obtain ⟨h0, h1, _⟩ := fcC_zero h
    have h8 := hdF_B8 (b := b.toNat) (by omega) h0
    rw [if_pos h]
    exact h8.append (fourL_B8 (crcV_bd h8))
  · rw [if_neg h]; exact fun x hx => by simp at hx
end Go.Proofs.YtldepledinolmaaDoor
