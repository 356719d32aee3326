/- The contract of TurnBit in the model. The contract of TurnBit in the program. -/
import Derived.Test.YtldepledinolmaaGreatDoorGCrc
import Derived.Test.YtldepledinolmaaGreatDoorGDraw
import Derived.Test.YtldepledinolmaaGreatDoorGEv
import Derived.Test.YtldepledinolmaaGreatDoorGBuf
import Derived.Lib.SliceRun
import Derived.Deep.Cut
namespace Go.Proofs.YtldepledinolmaaGreatDoor
open Go.RowKit

/-- What TurnBit tells. -/
def TbPost (l : List Int) (a b : Int) (w : World) (e : Ending) (w' : World) : Prop := ∃ D d, e = .returned (.agg #[.int .i64 (tbC l a b), .slice D (tbB l a b).length d]) ∧ w'.ownsRow w.heap.size 5 1 (.slice D (tbB l a b).length d) (tbB l a b).length ((tbB l a b).map (Value.int .u8)) ∧ Below w.heap.size w w'
theorem wrap_u8 (n : Int) (h0 : 0 ≤ n) (h1 : n < 256) : IntKind.u8.wrap n = n := by rw [IntKind.wrap_u8]; omega
theorem map_set_u8 (l : List Int) (i : Nat) (y : Int) : (l.map (Value.int .u8)).set i (.int .u8 y) = (l.set i y).map (Value.int .u8) := by rw [List.map_set]

set_option maxRecDepth 100000 in
set_option maxHeartbeats 800000 in
theorem l9Turn_any (l : List Int) (a b : Int) (A : Option Addr) (c : Nat) (w : World) (hl : l.length ≤ 1048576) (hk : tbOk l.length a b) (h : Rd .u8 w w.heap.size A l) :
    Calls Tryz.prog 38 #[.slice A l.length c, .int .i64 a, .int .i64 b] w fun e w' => ∃ D d, e = .returned (.slice D (tbL l a b).length d) ∧ w'.ownsRow w.heap.size 5 1 (.slice D (tbL l a b).length d) (tbL l a b).length ((tbL l a b).map (Value.int .u8)) ∧ Below w.heap.size w w' := by
  obtain ⟨B, rfl⟩ := Int.eq_ofNat_of_zero_le hk.2.1
  have hB : B ≤ 7 := by have := hk.2.2; omega
  obtain ⟨i, rfl⟩ := Int.eq_ofNat_of_zero_le hk.1.1
  have hi : i < l.length := by have := hk.1.2; omega
  have HG := hide (show l.getD i 0 = l[i] by rw [List.getD_eq_getElem?_getD, List.getElem?_eq_getElem hi]; rfl)
  have CP := hide (l1Copy_any l A c w hl h)
  clear hk
  go_enter Tryz.func38, Tryz.ntmps38
  go_wp2_with fail
  refine CP.out.mono ?_
  rintro e w1 ⟨D, d, rfl, o1, b1⟩
  go_wp2
  go_loop [2, 8] (fun x m => ∃ k : Nat, k ≤ B ∧ x = .int .i64 ((B - k : Nat) : Int) ∧ m = .int .u8 ((2 ^ k : Nat) : Int)) (fun x _ => (intOf x).toNat)
  case atStart => exact ⟨0, Nat.zero_le _, rfl, rfl⟩
  case round =>
    obtain ⟨k, hk, rfl, rfl⟩ := hrel
    by_cases hlt : k < B
    · have hp : (2 : Nat) ^ k ≤ 2 ^ 6 := Nat.pow_le_pow_right (by omega) (by omega)
      have hp6 : (2 : Nat) ^ 6 = 64 := rfl
      have e1 : (2 : Nat) ^ (k + 1) = 2 ^ k * 2 := Nat.pow_succ 2 k
      obtain ⟨m, hm⟩ : ∃ m, m = 2 ^ k := ⟨_, rfl⟩
      rw [← hm] at hp e1 ⊢
      have HE := hide e1
      have w1 : IntKind.u8.wrap ((m : Int) * 2) = (m : Int) * 2 := wrap_u8 _ (by omega) (by omega)
      have w2 : IntKind.i64.wrap (((B - k : Nat) : Int) - 1) = ((B - k : Nat) : Int) - 1 := by rw [IntKind.wrap_i64]; omega
      have g0 : (0 : Int) < ((B - k : Nat) : Int) := by omega
      clear hm e1
      go_wp2
      go_round
      case rel => exact ⟨k + 1, by omega, by go_num, by rw [HE.out]; go_num⟩
      case measure => simp [intOf]; omega
    · obtain rfl : k = B := by omega
      obtain ⟨g, cap, cur, hv, hgb, _⟩ := own_open o1 (by omega)
      simp only [Value.slice.injEq] at hv
      obtain ⟨hv1, _, hv3⟩ := hv
      subst hv1
      subst hv3
      have hc : w1.cell? ⟨g, i, none⟩ = some (.int .u8 l[i]) := by
        rw [o1.cellAt i (by omega), List.getElem?_map, List.getElem?_eq_getElem hi]
        rfl
      have hf := o1.frozenAt i
      have g0 : ¬ (0 : Int) < ((k - k : Nat) : Int) := by omega
      have hs := (o1.stored i (.int .u8 (bits .xor .u8 l[i] ((2 ^ k : Nat) : Int)))).1
      have e2 : ((l.map (Value.int .u8)).set i (.int .u8 (bits .xor .u8 l[i] ((2 ^ k : Nat) : Int)))) = (tbL l (i : Int) (k : Int)).map (Value.int .u8) := by
        rw [map_set_u8]
        unfold tbL tbY
        rw [Int.toNat_natCast, Int.toNat_natCast, HG.out, show ((2 ^ k : Nat) : Int) = 2 ^ k by push_cast; rfl]
      rw [e2] at hs
      have HS := hide hs
      have HB := hide (b1.setCell (p := ⟨g, i, none⟩) hgb (.int .u8 (bits .xor .u8 l[i] ((2 ^ k : Nat) : Int))))
      obtain ⟨x, hx⟩ : ∃ x, x = l[i] := ⟨_, rfl⟩
      rw [← hx] at hc HS HB
      obtain ⟨m, hm⟩ : ∃ m, m = 2 ^ k := ⟨_, rfl⟩
      rw [← hm] at HS HB ⊢
      have i0 : (0 : Int) ≤ (i : Int) := by omega
      have i1 : (i : Int) < (l.length : Int) := by omega
      have i2 : ((i : Int)).toNat = i := by omega
      clear hs e2 hx hm o1
      go_wp2
      go_ret
      rw [tbL_len]
      exact ⟨some ⟨g, 0, none⟩, _, rfl, HS.out, HB.out⟩

set_option maxRecDepth 100000 in
set_option maxHeartbeats 1600000 in
theorem specTb_any (l : List Int) (a b : Int) (A : Option Addr) (c : Nat) (w : World) (hl : l.length ≤ 1048576) (h : Rd .u8 w w.heap.size A l) :
    Calls Tryz.prog 15 #[.slice A l.length c, .int .i64 a, .int .i64 b] w (TbPost l a b w) := by
  unfold TbPost
  obtain ⟨W, hW⟩ : ∃ W, W = w.alloc (Obj.cells #[.int .i64 0, .slice none 0 0] 35) := ⟨_, rfl⟩
  have B0 : Below w.heap.size w W := by rw [hW]; exact (Below.refl _ _).alloc (Nat.le_refl _) _
  have hR := (h.below B0).lt
  have HW := hide hW
  clear hW
  have q0 := W_cell HW.out (Below.refl _ _) 0
  have q1 := W_cell HW.out (Below.refl _ _) 1
  have f0 := W_frozen HW.out (Below.refl _ _) 0
  have f1 := W_frozen HW.out (Below.refl _ _) 1
  simp at q0 q1
  by_cases h1 : l.length ≤ 4000
  · have w1 : IntKind.i64.wrap ((l.length : Int) - 1) = (l.length : Int) - 1 := by rw [IntKind.wrap_i64]; omega
    by_cases hk : tbOk l.length a b
    · have HC := hide (tb_ok h1 hk)
      have HB := hide (tbB_ok h1 hk)
      have ha := hk.1
      have hb := hk.2
      have TU := hide (l9Turn_any l a b A c W hl hk hR)
      have hlen := tbL_len l a b
      obtain ⟨T, hT⟩ : ∃ T, T = tbL l a b := ⟨_, rfl⟩
      rw [← hT] at TU HB hlen
      rw [HC.out, HB.out]
      clear hT hk q0 q1 f0 f1
      go_enter Tryz.func15, Tryz.ntmps15
      go_wp2_with (rw [← HW.out])
      refine (l1In_yes _ _ _ _ ha).mono ?_
      rintro e w2 ⟨rfl, rfl⟩
      go_wp2_with fail
      refine (l1In_yes _ _ _ _ hb).mono ?_
      rintro e w2 ⟨rfl, rfl⟩
      go_wp2_with fail
      refine TU.out.mono ?_
      rintro e w2 ⟨D, d, rfl, o2, b2⟩
      have q0 := W_cell HW.out b2 0
      have q1 := W_cell HW.out b2 1
      have f0 := W_frozen HW.out b2 0
      have f1 := W_frozen HW.out b2 1
      simp at q0 q1
      have hz := W_size HW.out
      rw [hlen] at o2
      have O1 := hide ((o2.kept (grown_set w2 w.heap.size 0 (.int .i64 0)) (own_sep fun z hz e => by have := (o2.lt z hz).1; simp only [Option.some.injEq] at e; omega)).kept (grown_set _ w.heap.size 1 (.slice D l.length d)) (own_sep fun z hz e => by have := (o2.lt z hz).1; simp only [Option.some.injEq] at e; omega))
      have HBB := hide (((W_below HW.out b2).setCell (p := ⟨w.heap.size, 0, none⟩) (Nat.le_refl _) (.int .i64 0)).setCell (p := ⟨w.heap.size, 1, none⟩) (Nat.le_refl _) (.slice D l.length d))
      have HZ := hide (show w.heap.size ≤ W.heap.size by omega)
      clear o2 b2 hz
      go_wp2
      refine bodyPost_ret (v := .agg #[.int .i64 0, .slice D l.length d]) (by simp [results, Tryz.results15, go_sem, q0, q1]) rfl ?_
      rw [hlen]
      exact ⟨D, d, rfl, own_mono O1.out HZ.out, HBB.out⟩
    · have HC := hide (tb_range h1 hk)
      have HB := hide (tbB_no (l := l) (a := a) (b := b) (by rw [HC.out]; omega))
      rw [HC.out, HB.out]
      unfold tbOk at hk
      by_cases ha : 0 ≤ a ∧ a ≤ (l.length : Int) - 1
      · have hb : b < 0 ∨ 7 < b := by omega
        clear hk
        go_enter Tryz.func15, Tryz.ntmps15
        go_wp2_with (rw [← HW.out])
        refine (l1In_yes _ _ _ _ ha).mono ?_
        rintro e w2 ⟨rfl, rfl⟩
        go_wp2_with fail
        refine (l1In_no _ _ _ _ hb).mono ?_
        rintro e w2 ⟨rfl, rfl⟩
        go_wp2
        refine bodyPost_ret (v := .agg #[.int .i64 3, .slice none 0 0]) (by simp [results, Tryz.results15, go_sem, q0, q1]) rfl ?_
        exact ⟨none, 0, rfl, World.ownsRow_nil _ _ _ _, (B0.setCell (Nat.le_refl _) _).setCell (Nat.le_refl _) _⟩
      · have ha2 : a < 0 ∨ (l.length : Int) - 1 < a := by omega
        clear hk ha
        go_enter Tryz.func15, Tryz.ntmps15
        go_wp2_with (rw [← HW.out])
        refine (l1In_no _ _ _ _ ha2).mono ?_
        rintro e w2 ⟨rfl, rfl⟩
        go_wp2
        refine bodyPost_ret (v := .agg #[.int .i64 3, .slice none 0 0]) (by simp [results, Tryz.results15, go_sem, q0, q1]) rfl ?_
        exact ⟨none, 0, rfl, World.ownsRow_nil _ _ _ _, (B0.setCell (Nat.le_refl _) _).setCell (Nat.le_refl _) _⟩
  · have HC := hide (tb_many (a := a) (b := b) h1)
    have HB := hide (tbB_no (l := l) (a := a) (b := b) (by rw [HC.out]; omega))
    rw [HC.out, HB.out]
    go_enter Tryz.func15, Tryz.ntmps15
    go_wp2_with (rw [← HW.out])
    refine bodyPost_ret (v := .agg #[.int .i64 2, .slice none 0 0]) (by simp [results, Tryz.results15, go_sem, q0, q1]) rfl ?_
    exact ⟨none, 0, rfl, World.ownsRow_nil _ _ _ _, (B0.setCell (Nat.le_refl _) _).setCell (Nat.le_refl _) _⟩
end Go.Proofs.YtldepledinolmaaGreatDoor
namespace Go.Proofs.YtldepledinolmaaGreatDoor
open Go.RowKit

set_option maxRecDepth 100000 in
set_option maxHeartbeats 400000 in
theorem cloneB_any (l : List Int) (A : Option Addr) (c : Nat) (w : World) (hl : l.length ≤ 1048576) (h0 : 0 < l.length) (hR : Rd .u8 w w.heap.size A l) :
    Calls Tryz.prog 35 #[.slice A l.length c] w fun e w' => ∃ D d, e = .returned (.slice D l.length d) ∧ w'.ownsRow w.heap.size 5 1 (.slice D l.length d) l.length (l.map (Value.int .u8)) ∧ Below w.heap.size w w' := by
  obtain ⟨i0, hi, hz0, hz1, hz2⟩ := info_parts info_u8
  obtain ⟨b, off, rfl, hbg, _⟩ := hR.all h0
  have q22 : ∀ (w : World) (a : Option Addr) (n c n' c' : Nat), (binOp .eql 22 (.slice a n c) (.slice none n' c')).run Tryz.prog w = .ok (.bool a.isNone) w := fun w a n c n' c' => Go.Lib.run_eql_slice_nil w _ _ a n c n' c' Tryz.underlying22
  go_enter Tryz.func35, Tryz.ntmps35
  go_wp2_with (at_builtin; go_loud (refine wpList_append_rd _ rfl _ _ 22 rfl w.heap.size 5 i0 (.int .u8 0) 1 Tryz.underlying22 hi hz0 hz1 hz2 rfl .u8 _ _ _ rfl (World.ownsRow_lit w #[] 0 (Nat.le_refl _) (by simp) rfl) (some ⟨b, off, none⟩) l c w.heap.size rfl (hR.alloc (Nat.le_refl _) _) (by unfold maxLen; omega) (by omega) (by simp) ?_); intro v' w1 hown' hgrow hat)
  simp only [Nat.zero_add, List.nil_append] at hown'
  obtain ⟨D, d, hv⟩ := own_shape hown'
  have hb : Below w.heap.size w w1 := ((Below.refl _ _).alloc (Nat.le_refl _) _).grown hgrow (by simp) (fun k hk => by simp [Act.eval, Value.ownBlock] at hk; omega)
  go_ret
  have ho := hown'
  rw [hv] at ho
  exact ⟨D, d, congrArg Ending.returned hv, ho, hb⟩

set_option maxRecDepth 100000 in
set_option maxHeartbeats 1600000 in
theorem implTb_any (l : List Int) (a b : Int) (A : Option Addr) (c : Nat) (w : World) (hl : l.length ≤ 1048576) (h : Rd .u8 w w.heap.size A l) :
    Calls Tryz.prog 10 #[.slice A l.length c, .int .i64 a, .int .i64 b] w (TbPost l a b w) := by
  unfold TbPost
  obtain ⟨W, hW⟩ : ∃ W, W = w.alloc (Obj.cells #[.int .i64 0, .slice none 0 0] 35) := ⟨_, rfl⟩
  have B0 : Below w.heap.size w W := by rw [hW]; exact (Below.refl _ _).alloc (Nat.le_refl _) _
  have hR := (h.below B0).lt
  have HW := hide hW
  clear hW
  by_cases h1 : l.length ≤ 4000
  · have w1 : IntKind.i64.wrap ((l.length : Int) - 1) = (l.length : Int) - 1 := by rw [IntKind.wrap_i64]; omega
    by_cases hk : tbOk l.length a b
    · have HC := hide (tb_ok h1 hk)
      have HB := hide (tbB_ok h1 hk)
      have ha := hk.1
      have hb := hk.2
      have hi := tb_at hk
      rw [HC.out, HB.out, tbL_len]
      obtain ⟨B, rfl⟩ := Int.eq_ofNat_of_zero_le hb.1
      have hB : B ≤ 7 := by omega
      obtain ⟨i, rfl⟩ := Int.eq_ofNat_of_zero_le ha.1
      rw [Int.toNat_natCast] at hi
      have HG := hide (show l.getD i 0 = l[i] by rw [List.getD_eq_getElem?_getD, List.getElem?_eq_getElem hi]; rfl)
      clear hk
      go_enter Tryz.func10, Tryz.ntmps10
      go_wp2_with (rw [← HW.out])
      refine (allWithin_one _ _ _ _ _ _ (by simp [go_sem]) ha).mono ?_
      rintro e w2 ⟨rfl, rfl⟩
      go_wp2_with fail
      refine (allWithin_one _ _ _ _ _ _ (by simp [go_sem]) hb).mono ?_
      rintro e w2 ⟨rfl, rfl⟩
      have bA : Below W.heap.size W ((W.alloc (Obj.cells #[.int .i64 (i : Nat)] 2)).alloc (Obj.cells #[.int .i64 (B : Nat)] 2)) := ((Below.refl _ _).alloc (Nat.le_refl _) _).alloc (by simp) _
      generalize (W.alloc (Obj.cells #[.int .i64 (i : Nat)] 2)).alloc (Obj.cells #[.int .i64 (B : Nat)] 2) = V at *
      go_wp2_with fail
      refine (cloneB_any l A c V hl (by omega) ((hR.below bA).lt)).mono ?_
      rintro e w2 ⟨D, d, rfl, o2, b2⟩
      have b3 := bA.trans (b2.mono bA.size)
      have zW := W_size HW.out
      have zV := bA.size
      obtain ⟨g, cap, cur, hv, hgb, _⟩ := own_open o2 (by omega)
      simp only [Value.slice.injEq] at hv
      obtain ⟨hv1, _, hv3⟩ := hv
      subst hv1
      subst hv3
      have hc : w2.cell? ⟨g, i, none⟩ = some (.int .u8 l[i]) := by
        rw [o2.cellAt i (by omega), List.getElem?_map, List.getElem?_eq_getElem hi]
        rfl
      have hf := o2.frozenAt i
      have HS := hide (o2.stored i (.int .u8 (bits .xor .u8 l[i] ((2 ^ B : Nat) : Int)))).1
      have HBB := hide (b3.setCell (p := ⟨g, i, none⟩) (by simp only; omega) (.int .u8 (bits .xor .u8 l[i] ((2 ^ B : Nat) : Int))))
      have HE := hide (show ((l.map (Value.int .u8)).set i (.int .u8 (bits .xor .u8 l[i] ((2 ^ B : Nat) : Int)))) = (tbL l (i : Int) (B : Int)).map (Value.int .u8) by
        rw [map_set_u8]
        unfold tbL tbY
        rw [Int.toNat_natCast, Int.toNat_natCast, HG.out, show ((2 ^ B : Nat) : Int) = 2 ^ B by push_cast; rfl])
      obtain ⟨x, hx⟩ : ∃ x, x = l[i] := ⟨_, rfl⟩
      rw [← hx] at hc HS HBB HE
      have i0 : (0 : Int) ≤ (i : Int) := by omega
      have i1 : (i : Int) < (l.length : Int) := by omega
      have i2 : ((i : Int)).toNat = i := by omega
      clear hx o2 b3 b2 bA HG
      obtain ⟨M, hM⟩ : ∃ M : Int, M = ((2 ^ B : Nat) : Int) := ⟨_, rfl⟩
      have hM2 : (2 : Int) ^ B = M := by rw [hM]; push_cast; rfl
      have hb8 := two_pow8 hb.1 hb.2
      rw [Int.toNat_natCast, hM2] at hb8
      have ws : IntKind.u8.wrap M = M := wrap_u8 _ (by omega) (by omega)
      have ws1 : IntKind.u8.wrap (1 * M) = M := by rw [Int.one_mul]; exact ws
      rw [← hM] at HS HBB HE
      clear hM
      go_upto_region 6 with fail
      go_region
      have hS := HS.out
      rw [HE.out] at hS
      have bY := HBB.out.drew
      have oY := own_mono (base' := W.heap.size) (own_below hS (Below.refl _ _).drew (Nat.le_refl _)) zV
      clear hS HS HBB HE hf hc
      generalize (w2.setCell ⟨g, i, none⟩ (.int .u8 (bits .xor .u8 x M))).drew = Y at *
      have q0 := W_cell HW.out bY 0
      have q1 := W_cell HW.out bY 1
      have f0 := W_frozen HW.out bY 0
      have f1 := W_frozen HW.out bY 1
      simp at q0 q1
      have O1 := hide ((oY.kept (grown_set Y w.heap.size 0 (.int .i64 0)) (own_sep fun z hz e => by have := (oY.lt z hz).1; simp only [Option.some.injEq] at e; omega)).kept (grown_set _ w.heap.size 1 (.slice (some ⟨g, 0, none⟩) l.length d)) (own_sep fun z hz e => by have := (oY.lt z hz).1; simp only [Option.some.injEq] at e; omega))
      have HB2 := hide (((W_below HW.out bY).setCell (p := ⟨w.heap.size, 0, none⟩) (Nat.le_refl _) (.int .i64 0)).setCell (p := ⟨w.heap.size, 1, none⟩) (Nat.le_refl _) (.slice (some ⟨g, 0, none⟩) l.length d))
      clear oY
      go_wp2
      refine bodyPost_ret (v := .agg #[.int .i64 0, .slice (some ⟨g, 0, none⟩) l.length d]) (by simp [results, Tryz.results10, go_sem, q0, q1]) rfl ?_
      exact ⟨some ⟨g, 0, none⟩, d, rfl, own_mono O1.out (by omega), HB2.out⟩
    · have HC := hide (tb_range h1 hk)
      have HB := hide (tbB_no (l := l) (a := a) (b := b) (by rw [HC.out]; omega))
      rw [HC.out, HB.out]
      unfold tbOk at hk
      by_cases ha : 0 ≤ a ∧ a ≤ (l.length : Int) - 1
      · have hb : b < 0 ∨ 7 < b := by omega
        clear hk
        go_enter Tryz.func10, Tryz.ntmps10
        go_wp2_with (rw [← HW.out])
        refine (allWithin_one _ _ _ _ _ _ (by simp [go_sem]) ha).mono ?_
        rintro e w2 ⟨rfl, rfl⟩
        go_wp2_with fail
        refine (allWithin_not _ _ _ _ _ _ (by simp [go_sem]) hb).mono ?_
        rintro e w2 ⟨rfl, rfl⟩
        have bA : Below W.heap.size W ((W.alloc (Obj.cells #[.int .i64 a] 2)).alloc (Obj.cells #[.int .i64 b] 2)) := ((Below.refl _ _).alloc (Nat.le_refl _) _).alloc (by simp) _
        generalize (W.alloc (Obj.cells #[.int .i64 a] 2)).alloc (Obj.cells #[.int .i64 b] 2) = V at *
        have q0 := W_cell HW.out bA 0
        have q1 := W_cell HW.out bA 1
        have f0 := W_frozen HW.out bA 0
        have f1 := W_frozen HW.out bA 1
        simp at q0 q1
        go_wp2
        refine bodyPost_ret (v := .agg #[.int .i64 3, .slice none 0 0]) (by simp [results, Tryz.results10, go_sem, q0, q1]) rfl ?_
        exact ⟨none, 0, rfl, World.ownsRow_nil _ _ _ _, ((W_below HW.out bA).setCell (Nat.le_refl _) _).setCell (Nat.le_refl _) _⟩
      · have ha2 : a < 0 ∨ (l.length : Int) - 1 < a := by omega
        clear hk ha
        go_enter Tryz.func10, Tryz.ntmps10
        go_wp2_with (rw [← HW.out])
        refine (allWithin_not _ _ _ _ _ _ (by simp [go_sem]) ha2).mono ?_
        rintro e w2 ⟨rfl, rfl⟩
        have bA : Below W.heap.size W (W.alloc (Obj.cells #[.int .i64 a] 2)) := (Below.refl _ _).alloc (Nat.le_refl _) _
        generalize W.alloc (Obj.cells #[.int .i64 a] 2) = V at *
        have q0 := W_cell HW.out bA 0
        have q1 := W_cell HW.out bA 1
        have f0 := W_frozen HW.out bA 0
        have f1 := W_frozen HW.out bA 1
        simp at q0 q1
        go_wp2
        refine bodyPost_ret (v := .agg #[.int .i64 3, .slice none 0 0]) (by simp [results, Tryz.results10, go_sem, q0, q1]) rfl ?_
        exact ⟨none, 0, rfl, World.ownsRow_nil _ _ _ _, ((W_below HW.out bA).setCell (Nat.le_refl _) _).setCell (Nat.le_refl _) _⟩
  · have HC := hide (tb_many (a := a) (b := b) h1)
    have HB := hide (tbB_no (l := l) (a := a) (b := b) (by rw [HC.out]; omega))
    rw [HC.out, HB.out]
    have q0 := W_cell HW.out (Below.refl _ _) 0
    have q1 := W_cell HW.out (Below.refl _ _) 1
    have f0 := W_frozen HW.out (Below.refl _ _) 0
    have f1 := W_frozen HW.out (Below.refl _ _) 1
    simp at q0 q1
    go_enter Tryz.func10, Tryz.ntmps10
    go_wp2_with (rw [← HW.out])
    refine bodyPost_ret (v := .agg #[.int .i64 2, .slice none 0 0]) (by simp [results, Tryz.results10, go_sem, q0, q1]) rfl ?_
    exact ⟨none, 0, rfl, World.ownsRow_nil _ _ _ _, (B0.setCell (Nat.le_refl _) _).setCell (Nat.le_refl _) _⟩
end Go.Proofs.YtldepledinolmaaGreatDoor
