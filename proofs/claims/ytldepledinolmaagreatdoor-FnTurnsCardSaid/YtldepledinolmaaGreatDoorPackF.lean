/- Contracts of PackFrame, in the program and in its model. -/
import Derived.Test.YtldepledinolmaaGreatDoorFrMath
import Derived.Test.YtldepledinolmaaGreatDoorPackI
namespace Go.Proofs.YtldepledinolmaaGreatDoor
open Go.RowKit

set_option maxRecDepth 100000 in
set_option maxHeartbeats 1000000 in
theorem l3Pack_any (k : Int) (es : List Ev) (A : Option Addr) (c : Nat) (w : World) (h0 : 0 ≤ k) (h1 : k ≤ 3) (hs : stF es = 0) (h : RdE w w.heap.size A es) :
    Calls Tryz.prog 85 #[.int .i64 k, .slice A es.length c] w fun e w' => ∃ A c, e = .returned (.slice A (frL k (packL 0 es)).length c) ∧ OwnB w (frL k (packL 0 es)) (.slice A (frL k (packL 0 es)).length c) w' := by
  obtain ⟨i0, hi, hz0, hz1, hz2⟩ := info_parts info_u8
  have LP := hide (l2Pack_any es A c w hs h)
  have pl := packL_len8 hs
  have p8 : B8 (packL 0 es) := packL_B8 es 0 (stF_zero hs).2 (by omega)
  obtain ⟨p, hp⟩ : ∃ p, p = packL 0 es := ⟨_, rfl⟩
  rw [← hp] at LP pl p8 ⊢
  clear hp hs
  have PP := hide (fun W => l1Put_any (p.length : Int) W (by omega) (by omega))
  obtain ⟨q, hq⟩ : ∃ q, q = putL (p.length : Int) := ⟨_, rfl⟩
  have ql : q.length ≤ 2 := by rw [hq]; exact putL_short (by omega) (by omega)
  rw [← hq] at PP
  have HD : Hid (hdL k p = ([66, k] ++ q) ++ p) := hide (by unfold hdL; rw [hq])
  have hdl := hdL_len (k := k) pl
  have hd8 := hdL_B8 h0 h1 p8
  clear hq
  obtain ⟨hd, hhd⟩ : ∃ hd, hd = hdL k p := ⟨_, rfl⟩
  have CR := hide (fun A c W hR => l1Crc_any hd A c W (by rw [hhd]; omega) hR (by rw [hhd]; exact hd8))
  have FL : Hid (frL k p = hd ++ fourL (crcV hd)) := hide (by rw [hhd]; rfl)
  rw [← hhd] at HD hdl hd8
  have hcv : ((crcS 4294967295 hd ^^^ 4294967295 : Nat) : Int) = crcV hd := by unfold crcV; rw [if_pos (by omega)]
  rw [hcv] at CR
  have hbd := crcV_bd hd8
  obtain ⟨V, hV⟩ : ∃ V, V = crcV hd := ⟨_, rfl⟩
  rw [← hV] at CR FL hbd
  have FR := hide (fun W => l1Four_any V W hbd)
  clear hV hcv hhd
  go_enter Tryz.func85, Tryz.ntmps85
  go_wp2_with fail
  refine LP.out.mono ?_
  rintro e w1 ⟨A1, c1, rfl, o1, B1⟩
  have r1 := Rd.of_own o1
  clear o1
  go_wp2_with fail
  have ob : OwnB w1 [66, k] (.slice (some ⟨w1.heap.size, 0, none⟩) 2 2) (w1.alloc (Obj.cells #[.int .u8 66, .int .u8 k] 5)) := ⟨World.ownsRow_lit w1 #[.int .u8 66, .int .u8 k] 2 (Nat.le_refl _) (by unfold maxLen; omega) rfl, (Below.refl _ _).alloc (Nat.le_refl _) _⟩
  refine (PP.out _).mono ?_
  rintro e w2 ⟨A2, c2, rfl, o2, b2⟩
  have ob2 := ob.below b2
  have x2 : ([66, k] : List Int).length = 2 := rfl
  clear ob b2
  generalize Value.slice (some ⟨w1.heap.size, 0, none⟩) 2 2 = v2 at *
  go_wp2_with (at_builtin; first
    | (refine wpList_append_rd _ rfl (.tmp 11) (.tmp 14) 22 rfl w1.heap.size 5 i0 (.int .u8 0) 1 Tryz.underlying22 hi hz0 hz1 hz2 rfl .u8 v2 _ _ rfl ob2.1 A2 q c2 _ rfl (Rd.of_own o2) (by unfold maxLen; omega) (by omega) ob2.2.size ?_; intro v3 w3 o3 g3 hat3; have ob3 := ob2.more o3 g3; have x3 : ([66, k] ++ q).length ≤ 4 := (by rw [List.length_append]; omega); clear g3 hat3 o3 ob2 o2; have r3 := r1.below ob3.2)
    | (refine wpList_append_rd _ rfl (.tmp 16) (.tmp 17) 22 rfl w1.heap.size 5 i0 (.int .u8 0) 1 Tryz.underlying22 hi hz0 hz1 hz2 rfl .u8 v3 _ _ rfl ob3.1 A1 p c1 _ rfl r3 (by unfold maxLen; omega) (by omega) ob3.2.size ?_; intro v4 w4 o4 g4 hat4; have ob4 := ob3.more o4 g4; clear g4 hat4 o4 ob3 r3; rw [← HD.out] at ob4; obtain ⟨A4, c4, hv4⟩ := own_shape ob4.1; rw [hv4] at ob4; rw [hv4]; have r4 := Rd.of_own ob4.1; clear hv4))
  refine (CR.out _ _ _ r4).mono ?_
  rintro e w5 ⟨rfl, rfl⟩
  go_wp2_with fail
  refine (FR.out _).mono ?_
  rintro e w5 ⟨g5, rfl, o5, b5⟩
  have ob5 := ob4.below b5
  clear ob4 b5 r4
  generalize Value.slice A4 hd.length c4 = v5 at *
  go_wp2_with (at_builtin; (refine wpList_append_rd _ rfl (.tmp 19) (.tmp 22) 22 rfl w1.heap.size 5 i0 (.int .u8 0) 1 Tryz.underlying22 hi hz0 hz1 hz2 rfl .u8 v5 _ _ rfl ob5.1 (some ⟨g5, 0, none⟩) (fourL V) 4 _ rfl (Rd.of_own o5) (by unfold maxLen; rw [fourL_length]; omega) (by rw [fourL_length]; omega) ob5.2.size ?_; intro v6 w6 o6 g6 hat6; have ob6 := ob5.more o6 g6; rw [← FL.out] at ob6; clear g6 hat6 o6 ob5 o5; obtain ⟨A6, c6, hv6⟩ := own_shape ob6.1; rw [hv6] at ob6; rw [hv6]; clear hv6))
  go_ret
  exact ⟨A6, c6, rfl, own_mono ob6.1 B1.size, B1.trans (ob6.2.mono B1.size)⟩
set_option maxRecDepth 100000 in
set_option maxHeartbeats 1000000 in
theorem implPackF_any (k : Int) (es : List Ev) (A : Option Addr) (c : Nat) (w : World) (hm : es.length ≤ maxLen) (h : RdE w w.heap.size A es) (hT : Tab w) :
    Calls Tryz.prog 48 #[frV k A es.length c] w fun e w' => ∃ A c, e = .returned (.agg #[.int .i64 (frF k es), .slice A (frB k es).length c]) ∧ w'.ownsRow w.heap.size 5 1 (.slice A (frB k es).length c) (frB k es).length ((frB k es).map (Value.int .u8)) ∧ Below w.heap.size w w' := by
  obtain ⟨W, hW⟩ : ∃ W, W = (w.alloc (Obj.cells #[Value.int .i64 k, .slice A es.length c] 86)).alloc (Obj.cells #[Value.int .i64 0, .slice none 0 0] 35) := ⟨_, rfl⟩
  obtain ⟨K0, J0, hz, B0⟩ := two_new _ _ _ _ _ W hW
  have HW := hide hW
  have hR := (h.below B0).lt
  clear hW h
  have SF := hide (implFrF_any k es A c W hm hR)
  by_cases hs : frF k es = 0
  · obtain ⟨k0, k1, h0, h1⟩ := frF_zero hs
    rw [frB_ok hs]
    rw [hs] at SF ⊢
    have IP := hide (fun W h => implPack_any es A c W hm h)
    have hpk : pkB es = packL 0 es := pk_ok h1
    have hpc : pkC es = 0 := h1
    rw [hpk, hpc] at IP
    have pl := packL_len8 h1
    have p8 : B8 (packL 0 es) := packL_B8 es 0 (stF_zero h1).2 (by omega)
    obtain ⟨p, hp⟩ : ∃ p, p = packL 0 es := ⟨_, rfl⟩
    rw [← hp] at IP pl p8 ⊢
    clear hp hs hpk hpc h1 h0
    have PP := hide (fun W => implPut_any (p.length : Int) W (by omega))
    obtain ⟨q, hq⟩ : ∃ q, q = putL (p.length : Int) := ⟨_, rfl⟩
    have ql : q.length ≤ 2 := by rw [hq]; exact putL_short (by omega) (by omega)
    rw [(put_pos (by omega)).1, (put_pos (by omega)).2, ← hq] at PP
    have HD : Hid (hdL k p = ([66, k] ++ q) ++ p) := hide (by unfold hdL; rw [hq])
    have hdl := hdL_len (k := k) pl
    have hd8 := hdL_B8 k0 k1 p8
    clear hq
    obtain ⟨hd, hhd⟩ : ∃ hd, hd = hdL k p := ⟨_, rfl⟩
    have FL : Hid (frL k p = hd ++ fourL (crcV hd)) := hide (by rw [hhd]; rfl)
    rw [← hhd] at HD hdl hd8
    have SB := hide (fun A c W hR hT => sumBytes_any hd A c W (by omega) hR hd8 hT)
    have hbd := crcV_bd hd8
    obtain ⟨V, hV⟩ : ∃ V, V = crcV hd := ⟨_, rfl⟩
    rw [← hV] at SB FL hbd
    clear hV hhd
    obtain ⟨F, hF⟩ : ∃ F, F = frL k p := ⟨_, rfl⟩
    rw [← hF] at FL ⊢
    clear hF
    have HT := hide (hT.below B0)
    clear hT
    obtain ⟨i0, hi, hz0, hz1, hz2⟩ := info_parts info_u8
    have hfl := field_bytes
    go_enter Tryz.func48, Tryz.ntmps48
    go_wp2_with fail
    rw [← HW.out]
    refine SF.out.mono ?_
    rintro e w1 ⟨rfl, b1⟩
    have x1 := K0.kept b1
    have y1 := (x1.cell 1).trans (rfl : _ = some (Value.slice A es.length c))
    go_wp2_with fail
    refine (IP.out w1 (hR.below b1).lt).mono ?_
    rintro e w2 ⟨A2, c2, rfl, o2, b2⟩
    have hb := b1.trans (b2.mono b1.size)
    have r2 := Rd.of_own o2
    have x2 := x1.kept b2
    have y0 := (x2.cell 0).trans (rfl : _ = some (Value.int .i64 k))
    clear o2 b2 x1 y1 b1
    go_wp2_with fail
    have ob : OwnB w2 [66, k] (.slice (some ⟨w2.heap.size, 0, none⟩) 2 2) (w2.alloc (Obj.cells #[.int .u8 66, .int .u8 k] 5)) := ⟨World.ownsRow_lit w2 #[.int .u8 66, .int .u8 k] 2 (Nat.le_refl _) (by unfold maxLen; omega) rfl, (Below.refl _ _).alloc (Nat.le_refl _) _⟩
    refine (PP.out _).mono ?_
    rintro e w3 ⟨A3, c3, rfl, o3, b3⟩
    have ob2 := ob.below b3
    have x3 : ([66, k] : List Int).length = 2 := rfl
    clear ob b3 y0 x2
    generalize Value.slice (some ⟨w2.heap.size, 0, none⟩) 2 2 = v2 at *
    go_wp2_with (at_builtin; first
      | (refine wpList_append_rd _ rfl (.tmp 20) (.tmp 24) 22 rfl w2.heap.size 5 i0 (.int .u8 0) 1 Tryz.underlying22 hi hz0 hz1 hz2 rfl .u8 v2 _ _ rfl ob2.1 A3 q c3 _ rfl (Rd.of_own o3) (by unfold maxLen; omega) (by omega) ob2.2.size ?_; intro v3 w4 o4 g4 hat4; have ob3 := ob2.more o4 g4; have x4 : ([66, k] ++ q).length ≤ 4 := (by rw [List.length_append]; omega); clear g4 hat4 o4 ob2 o3; have r3 := r2.below ob3.2)
      | (refine wpList_append_rd _ rfl (.tmp 26) (.tmp 27) 22 rfl w2.heap.size 5 i0 (.int .u8 0) 1 Tryz.underlying22 hi hz0 hz1 hz2 rfl .u8 v3 _ _ rfl ob3.1 A2 p c2 _ rfl r3 (by unfold maxLen; omega) (by omega) ob3.2.size ?_; intro v5 w5 o5 g5 hat5; have ob4 := ob3.more o5 g5; clear g5 hat5 o5 ob3 r3; rw [← HD.out] at ob4; obtain ⟨A4, c4, hv4⟩ := own_shape ob4.1; rw [hv4] at ob4; rw [hv4]; have r4 := Rd.of_own ob4.1; clear hv4))
    refine (SB.out _ _ _ r4 ((HT.out.below hb).below ob4.2)).mono ?_
    rintro e w6 ⟨g6, rfl, o6, b6⟩
    have ob5 := ob4.below b6
    clear ob4 b6 r4
    generalize Value.slice A4 hd.length c4 = v5 at *
    have hJ := J0.kept hb
    have zJ : w.heap.size + 1 < w2.heap.size := hJ.lt
    have B2 := B0.trans (hb.mono B0.size)
    go_wp2_with (at_builtin; (refine wpList_append_rd _ rfl (.tmp 29) (.tmp 31) 22 rfl w2.heap.size 5 i0 (.int .u8 0) 1 Tryz.underlying22 hi hz0 hz1 hz2 rfl .u8 v5 _ _ rfl ob5.1 (some ⟨g6, 0, none⟩) (fourL V) 4 _ rfl (Rd.of_own o6) (by unfold maxLen; rw [fourL_length]; omega) (by rw [fourL_length]; omega) ob5.2.size ?_; intro v6 w7 o7 g7 hat7; have ob6 := ob5.more o7 g7; rw [← FL.out] at ob6; clear g7 hat7 o7 ob5 o6; obtain ⟨A6, c6, hv6⟩ := own_shape ob6.1; rw [hv6] at ob6; rw [hv6]; clear hv6; have j1 := hJ.below ob6.2 zJ; have q0 := j1.cell 0; have q1 := j1.cell 1; have f0 := j1.frozen 0; have f1 := j1.frozen 1; simp at q0 q1; have HO := hide ob6; clear ob6 j1 hJ J0 K0))
    have ob6 := HO.out
    have o3 := ownsRow_setCell_below ob6.1 (a := ⟨w.heap.size + 1, 0, none⟩) zJ (.int .i64 0)
    have o4 := ownsRow_setCell_below o3 (a := ⟨w.heap.size + 1, 1, none⟩) zJ (.slice A6 F.length c6)
    refine bodyPost_ret (v := .agg #[.int .i64 0, .slice A6 F.length c6]) (by simp [results, Tryz.results48, go_sem, q0, q1]) rfl ?_
    exact ⟨A6, c6, rfl, own_mono o4 (by omega), ((B2.trans (ob6.2.mono B2.size)).setCell (by simp) _).setCell (by simp) _⟩
  · obtain ⟨F, hF⟩ : ∃ F, F = frF k es := ⟨_, rfl⟩
    rw [frB_bad hs]
    rw [← hF] at SF hs ⊢
    have g0 : (F != 0) = true := bne_iff_ne.2 hs
    have g1 : (F == 0) = false := beq_eq_false_iff_ne.2 hs
    clear hs hF
    go_enter Tryz.func48, Tryz.ntmps48
    go_wp2_with fail
    rw [← HW.out]
    refine SF.out.mono ?_
    rintro e w1 ⟨rfl, hb⟩
    have B1 := B0.trans (hb.mono B0.size)
    have j1 := J0.kept hb
    have q0 := j1.cell 0
    have q1 := j1.cell 1
    have f0 := j1.frozen 0
    have f1 := j1.frozen 1
    simp at q0 q1
    clear K0 J0 j1
    go_wp2
    refine bodyPost_ret (v := .agg #[.int .i64 F, .slice none 0 0]) (by simp [results, Tryz.results48, go_sem, q0, q1]) rfl ?_
    exact ⟨none, 0, rfl, World.ownsRow_nil _ _ _ _, (B1.setCell (by simp) _).setCell (by simp) _⟩
end Go.Proofs.YtldepledinolmaaGreatDoor
