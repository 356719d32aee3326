/- The contract of the draw of bytes to read a frame of. -/
import Derived.Test.YtkeifkdaddmkfaaDoorDrawFr
import Derived.Test.YtkeifkdaddmkfaaDoorSpoil
import Derived.Test.YtkeifkdaddmkfaaDoorPackF
namespace Go.Proofs.YtkeifkdaddmkfaaDoor
open Go.RowKit

set_option maxRecDepth 100000 in
set_option maxHeartbeats 1600000 in
theorem DrawReadFrame_any (l : List Int) (A : Option Addr) (c : Nat) (w : World) (hl : l.length ≤ 1048576) (hR : Rd .u8 w w.heap.size A l) (b8 : B8 l) :
    Calls Tryd.prog 9 #[.slice A l.length c] w (BytPost w.heap.size 200 w) := by
  obtain ⟨i0, hi, hz0, hz1, hz2⟩ := info_parts info_u8
  go_enter Tryd.func9, Tryd.ntmps9
  go_wp2_with fail
  refine (l1Source_any l A c w hR b8 hl).mono ?_
  rintro e w1 ⟨rfl, S1, B1⟩
  have z1 := S1.lt
  go_wp2_with fail
  refine (l3Draw_any _ _ A c l w1 S1 (by omega)).mono ?_
  rintro e w2 ⟨q, es, D, d, rfl, q0, q3, h1, h8, hev, o2, k2, hk2, S2, g2⟩
  have hst : stF es = 0 := by rw [stF_few h8, evsF_of es hev]
  have B2 := (B1.grown g2 B1.size (fun k hk => by simp at hk; omega)).alloc (by have := B1.size; have := g2.size; omega) (.cells #[.int .i64 q, .slice D es.length d] 26)
  have S2' := S2.alloc (.cells #[.int .i64 q, .slice D es.length d] 26)
  have ke := Bk.new w2 #[.int .i64 q, .slice D es.length d] 26
  have r2 := ((RdE.of_own o2).alloc (Nat.le_refl _) (.cells #[.int .i64 q, .slice D es.length d] 26)).lt
  have a0 := (ke.cell 0).trans (rfl : _ = some (Value.int .i64 q))
  have a1 := (ke.cell 1).trans (rfl : _ = some (Value.slice D es.length d))
  have z2 := S2'.lt
  have pl := packL_len8 hst
  have p8 : B8 (packL 0 es) := packL_B8 es 0 (stF_zero hst).2 (by omega)
  have LP := hide (fun W hW => l3Pack_any q es D d W q0 q3 hst hW)
  have fl := frL_len (k := q) pl
  have f8 := frL_B8 q0 q3 p8
  obtain ⟨F, hF⟩ : ∃ F, F = frL q (packL 0 es) := ⟨_, rfl⟩
  rw [← hF] at LP fl f8
  clear g2 S2 o2 S1 B1 hF ke pl p8 hev
  go_wp2_with fail
  refine (LP.out _ r2).mono ?_
  rintro e w3 ⟨D3, d3, rfl, O3⟩
  have o3 := O3.1
  have S3 := S2'.below O3.2 z2
  have B3 := B2.trans (O3.2.mono B2.size)
  have z3 := O3.2.size
  clear O3 B2 S2' r2 LP a0 a1
  go_wp2_with fail
  refine (l1Next_any _ _ 3 A c l _ S3 (by omega) (by omega) (by omega)).mono ?_
  rintro e w4 ⟨n, rfl, n0, n1, S4, g4⟩
  have hn : n ≤ 2 := by omega
  obtain ⟨N, rfl⟩ := Int.eq_ofNat_of_zero_le n0
  have o4 := o3.kept g4 (own_sep fun b hb e => by have := o3.lt b hb; simp at e; omega)
  have B4 := B3.grown g4 B3.size (fun k hk => by simp at hk; omega)
  have z4 := g4.size
  clear g4 S3 B3 o3 n0 n1
  go_wp2_with fail
  refine (l1Some_any _ _ N A c l w4 S4 (by omega)).mono ?_
  rintro e w5 ⟨zs, D5, d5, rfl, hzl, z8, o5, S5, g5⟩
  have o4' := o4.kept g5 (own_sep fun b hb e => by have := o4.lt b hb; simp at e; omega)
  have B5 := B4.grown g5 B4.size (fun k hk => by simp at hk; omega)
  have z5 := g5.size
  have r5 := Rd.of_own o5
  have hzz : zs.length ≤ 2 := by omega
  clear g5 o4 hzl B4 S4 o5
  obtain ⟨Z, hZ⟩ : ∃ Z, Z = (w2.alloc (.cells #[.int .i64 q, .slice D es.length d] 26)).heap.size := ⟨_, rfl⟩
  rw [← hZ] at o4' z2 z3
  clear hZ
  go_wp2_with (at_builtin; refine wpList_append_rd _ rfl (.tmp 14) (.tmp 18) 22 rfl Z 5 i0 (.int .u8 0) 1 Tryd.underlying22 hi hz0 hz1 hz2 rfl .u8 _ _ _ rfl o4' D5 zs d5 _ rfl r5 (by unfold maxLen; omega) (by omega) (by omega) ?_; intro v6 w6 o6 g6 hat6; have b6 : Below w.heap.size w5 w6 := grown_below o4' g6 (by omega) (by omega); have S6 := S5.below (grown_below o4' g6 (B := Z) (by omega) (Nat.le_refl _)) (by omega); have B6 := B5.trans b6; have z6 := g6.size; clear o4' r5 S5 B5 g6 hat6 b6; have e6 : F.length + zs.length = (F ++ zs).length := List.length_append.symm; rw [← List.map_append, e6] at o6; obtain ⟨D6, d6, hv6⟩ := own_shape o6; rw [hv6] at o6; rw [hv6]; clear hv6)
  have h6 : (F ++ zs).length ≤ 154 := by omega
  have f8' : B8 (F ++ zs) := f8.append z8
  obtain ⟨X, hX⟩ : ∃ X, X = F ++ zs := ⟨_, rfl⟩
  rw [← hX] at o6 h6 f8' ⊢
  clear hX e6 f8 z8 fl hzz
  go_wp2_with fail
  refine (l1Next_any _ _ 5 A c l _ S6 (by omega) (by omega) (by omega)).mono ?_
  rintro e w7 ⟨s, rfl, s0, s1, S7, g7⟩
  have o7 := o6.kept g7 (own_sep fun b hb e => by have := o6.lt b hb; simp at e; omega)
  have B7 := B6.grown g7 B6.size (fun k hk => by simp at hk; omega)
  have z7 := g7.size
  clear g7 S6 B6 o6 s1
  by_cases e0 : s = 0
  · subst e0
    go_wp2_with fail
    refine (l2SpoilN_any _ _ Z w.heap.size A c l w7 S7 (by omega) X D6 d6 154 (by omega) h6 f8' o7 (by omega) (by omega) (Nat.le_refl _)).mono ?_
    rintro e w8 ⟨ys, D8, d8, rfl, y1, y2, y3, y4, y5⟩
    go_wp2
    go_ret
    exact ⟨ys, D8, d8, rfl, by omega, y2, y3, y4, B7.trans y5⟩
  · by_cases e1 : s = 1
    · subst e1
      clear e0
      have oa := World.ownsRow_lit w7 #[.int .u8 66, .int .u8 1] 2 (e := 5) (size := 1) (base := w7.heap.size) (Nat.le_refl _) (by unfold maxLen; omega) rfl
      have ob := oa.alloc (.cells #[.int .u8 2, .int .u8 255, .int .u8 255] 5)
      have rb := (Rd.of_own (k := .u8) (l := [2, 255, 255]) (World.ownsRow_lit (w7.alloc (.cells #[.int .u8 66, .int .u8 1] 5)) #[.int .u8 2, .int .u8 255, .int .u8 255] 3 (e := 5) (size := 1) (base := w7.heap.size) (by simp) (by unfold maxLen; omega) rfl))
      have hsz : (w7.alloc (.cells #[.int .u8 66, .int .u8 1] 5)).heap.size = w7.heap.size + 1 := by simp
      rw [hsz] at rb
      have bA := ((Below.refl w7.heap.size w7).alloc (Nat.le_refl _) (.cells #[.int .u8 66, .int .u8 1] 5)).alloc (by simp) (.cells #[.int .u8 2, .int .u8 255, .int .u8 255] 5)
      have zA := bA.size
      clear hsz oa
      go_wp2_with (at_builtin; refine wpList_append_rd _ rfl (.tmp 29) (.tmp 30) 22 rfl w7.heap.size 5 i0 (.int .u8 0) 1 Tryd.underlying22 hi hz0 hz1 hz2 rfl .u8 (.slice (some ⟨w7.heap.size, 0, none⟩) 2 2) 2 _ rfl ob (some ⟨w7.heap.size + 1, 0, none⟩) [2, 255, 255] 3 _ rfl rb (by unfold maxLen; simp) (by simp) zA ?_; intro v8 w8 o8 g8 hat8; have b8' : Below w7.heap.size w7 w8 := bA.grown g8 zA (fun k hk => by simp [Value.ownBlock] at hk; omega); have Q8 := B7.trans (b8'.mono B7.size); have z8 := b8'.size; clear b8' g8 hat8; obtain ⟨D8, d8, hv8⟩ := own_shape o8; rw [hv8] at o8; rw [hv8]; clear hv8)
      clear ob rb bA zA
      have e8 : ([.int .u8 66, .int .u8 1] : List Value) ++ ([2, 255, 255] : List Int).map (Value.int .u8) = ([66, 1, 2, 255, 255] : List Int).map (Value.int .u8) := rfl
      have hx8 : B8 [66, 1, 2, 255, 255] := fun x hx => by simp at hx; omega
      have o8' : w8.ownsRow w7.heap.size 5 1 (.slice D8 5 d8) 5 (([66, 1, 2, 255, 255] : List Int).map (Value.int .u8)) := o8
      obtain ⟨Y, hY⟩ : ∃ Y : List Int, Y = [66, 1, 2, 255, 255] := ⟨_, rfl⟩
      have hY5 : Y.length = 5 := by rw [hY]; rfl
      rw [← hY] at o8' hx8
      clear o8 e8 hY
      have CR := hide (l1Crc_any Y D8 d8 w8 (by omega) (by have := Rd.of_own (k := .u8) (l := Y) o8'; exact this) hx8)
      have hcv : ((crcS 4294967295 Y ^^^ 4294967295 : Nat) : Int) = crcV Y := by unfold crcV; rw [if_pos (by omega)]
      rw [hcv, hY5] at CR
      have hbd := crcV_bd hx8
      obtain ⟨V, hV⟩ : ∃ V, V = crcV Y := ⟨_, rfl⟩
      rw [← hV] at CR hbd
      have FR := hide (fun W => l1Four_any V W hbd)
      have v8 := fourL_B8 hbd
      clear hV hcv
      go_wp2_with fail
      refine CR.out.mono ?_
      rintro e w9 ⟨rfl, rfl⟩
      go_wp2_with fail
      refine (FR.out _).mono ?_
      rintro e w9 ⟨g9, rfl, o9, b9⟩
      have o8 := own_below o8' b9 (Nat.le_refl _)
      have Q9 := Q8.trans (b9.mono Q8.size)
      have z9 := b9.size
      clear b9 o8' Q8
      go_wp2_with (at_builtin; refine wpList_append_rd _ rfl (.tmp 32) (.tmp 35) 22 rfl w7.heap.size 5 i0 (.int .u8 0) 1 Tryd.underlying22 hi hz0 hz1 hz2 rfl .u8 (.slice D8 5 d8) 5 _ rfl o8 (some ⟨g9, 0, none⟩) (fourL V) 4 _ rfl (Rd.of_own o9) (by unfold maxLen; rw [fourL_length]; omega) (by rw [fourL_length]; omega) (by omega) ?_; intro v10 w10 o10 g10 hat10; have Q10 := Q9.trans (grown_below o8 g10 (B := w.heap.size) (by omega) (by omega)); clear g10 hat10 o9 Q9; have e10 : 5 + (fourL V).length = (Y ++ fourL V).length := (by rw [List.length_append, hY5]); rw [← List.map_append, e10] at o10; obtain ⟨D10, d10, hv10⟩ := own_shape o10; rw [hv10] at o10; rw [hv10]; clear hv10)
      have h10 : (Y ++ fourL V).length ≤ 200 := by rw [List.length_append, fourL_length]; omega
      have x10 : B8 (Y ++ fourL V) := hx8.append v8
      obtain ⟨X2, hX2⟩ : ∃ X2, X2 = Y ++ fourL V := ⟨_, rfl⟩
      rw [← hX2] at o10 h10 x10 ⊢
      clear hX2 hY5 hx8 v8 CR FR hbd o8
      have c10 := own_capE o10
      have HO := hide o10
      clear o10
      go_wp2_with fail
      go_ret
      exact ⟨X2, D10, d10, rfl, h10, c10.1, x10, Rd.of_own HO.out, Q10⟩
    · have b0 : (s == 0) = false := beq_eq_false_iff_ne.2 e0
      have b1 : (s == 1) = false := beq_eq_false_iff_ne.2 e1
      have hc := own_capE o7
      have HO := hide o7
      clear e0 e1 o7
      go_wp2
      go_ret
      exact ⟨X, D6, d6, rfl, by omega, hc.1, f8', Rd.of_own HO.out, B7⟩
end Go.Proofs.YtkeifkdaddmkfaaDoor
