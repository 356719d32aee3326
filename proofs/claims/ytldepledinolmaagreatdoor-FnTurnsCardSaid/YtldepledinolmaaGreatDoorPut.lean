/- Contracts of PutVar and of what it calls, in the program and in its model. -/
import Derived.Test.YtldepledinolmaaGreatDoorGEv
import Derived.Test.YtldepledinolmaaGreatDoorGBase
namespace Go.Proofs.YtldepledinolmaaGreatDoor
open Go.RowKit


/-- At the head of the loop's rounds: what is laid, and what is left of the number. -/
def PutRel (n : Int) (base : Nat) (q v : Value) (wr : World) : Prop :=
  ∃ (xs : List Int) (r : Int), 0 ≤ r ∧ r ≤ n ∧ xs ++ putL r = putL n ∧ q = .int .i64 r ∧ wr.ownsRow base 5 1 v xs.length (xs.map (Value.int .u8))
theorem PutRel.step {n : Int} {base : Nat} {v' : Value} {wr : World} {xs : List Int} {r : Int} (h0 : 128 ≤ r) (hn : r ≤ n) (he : xs ++ putL r = putL n)
    (ho : wr.ownsRow base 5 1 v' (xs.length + 1) (xs.map (Value.int .u8) ++ [.int .u8 (128 + r % 128)])) : PutRel n base (.int .i64 (r / 128)) v' wr :=
  ⟨xs ++ [r % 128 + 128], r / 128, by omega, by omega, by rw [List.append_assoc, ← he, putL_big h0]; rfl, rfl, by rw [Int.add_comm] at ho; simpa using ho⟩
theorem put_short {n r : Int} {xs : List Int} (h0 : 0 ≤ n) (h1 : n ≤ 9223372036854775807) (he : xs ++ putL r = putL n) : xs.length ≤ 8 := by
  have := congrArg List.length he
  have a := putL_len h0 h1
  have b := putL_pos r
  simp at this
  omega

theorem put_last {n r : Int} {base : Nat} {v' : Value} {wr : World} {xs : List Int} (h : r < 128) (he : xs ++ putL r = putL n)
    (ho : wr.ownsRow base 5 1 v' (xs.length + 1) (xs.map (Value.int .u8) ++ [.int .u8 r])) : wr.ownsRow base 5 1 v' (putL n).length ((putL n).map (Value.int .u8)) := by
  rw [putL_small h] at he
  rw [← he]
  simpa using ho
set_option maxHeartbeats 400000 in
theorem l1Put_any (n : Int) (w : World) (h0 : 0 ≤ n) (h1 : n ≤ 9223372036854775807) :
    Calls Tryz.prog 97 #[.int .i64 n] w fun e w' => ∃ A c, e = .returned (.slice A (putL n).length c) ∧ w'.ownsRow w.heap.size 5 1 (.slice A (putL n).length c) (putL n).length ((putL n).map (Value.int .u8)) ∧ Below w.heap.size w w' := by
  obtain ⟨i0, hi, hz0, hz1, hz2⟩ := info_parts info_u8
  go_enter Tryz.func97, Tryz.ntmps97
  go_wp2
  go_loopw [0, 3] (fun q v wr => PutRel n w.heap.size q v wr ∧ Below w.heap.size w wr) (fun q _ _ => (intOf q).toNat)
  case atStart =>
    exact ⟨⟨[], n, h0, Int.le_refl _, rfl, rfl, World.ownsRow_lit w #[] 0 (Nat.le_refl _) (by simp) rfl⟩, (Below.refl _ _).alloc (Nat.le_refl _) _⟩
  case round =>
    obtain ⟨⟨xs, r, hr0, hrn, he, rfl, ho⟩, hb⟩ := hrel
    have hsh := put_short h0 h1 he
    have HE := hide he
    clear he
    by_cases hlt : 128 ≤ r
    · go_wp2_with (at_builtin; refine wpList_append_own_at _ rfl _ _ 22 rfl w.heap.size 5 i0 (.int .u8 0) 1 1 Tryz.underlying22 hi hz0 hz1 hz2 rfl (by decide) _ _ _ rfl (ho.alloc _) ⟨wr.heap.size, 0, none⟩ 1 1 [.int .u8 (128 + r % 128)] rfl rfl (cell_one_new _ _ _) (one_cell _ _) (by unfold maxLen; omega) (by omega) (by simp; have := hb.size; omega) ?_; intro v' w1 hown' hgrow _ hat)
      have hb1 : Below w.heap.size w w1 := (hb.alloc hb.size _).grown hgrow (by simp; have := hb.size; omega) (fun k hk => (ho.lt k hk).1)
      go_roundw
      case rel => exact ⟨PutRel.step hlt hrn HE.out hown', hb1⟩
      case measure => simp [intOf]; omega
    · go_wp2_with (at_builtin; refine wpList_append_own_at _ rfl _ _ 22 rfl w.heap.size 5 i0 (.int .u8 0) 1 1 Tryz.underlying22 hi hz0 hz1 hz2 rfl (by decide) _ _ _ rfl (ho.alloc _) ⟨wr.heap.size, 0, none⟩ 1 1 [.int .u8 r] rfl rfl (cell_one_new _ _ _) (one_cell _ _) (by unfold maxLen; omega) (by omega) (by simp; have := hb.size; omega) ?_; intro v' w1 hown' hgrow _ hat)
      have hb1 : Below w.heap.size w w1 := (hb.alloc hb.size _).grown hgrow (by simp; have := hb.size; omega) (fun k hk => (ho.lt k hk).1)
      have ho2 := put_last (by omega) HE.out hown'
      obtain ⟨A, c, hv⟩ := own_shape ho2
      go_ret
      rw [hv] at ho2
      exact ⟨A, c, congrArg Ending.returned hv, ho2, hb1⟩

set_option maxHeartbeats 400000 in
theorem implPut_any (n : Int) (w : World) (h1 : n ≤ 9223372036854775807) :
    Calls Tryz.prog 75 #[.int .i64 n] w fun e w' => ∃ A c, e = .returned (.agg #[.int .i64 (putC n), .slice A (putB n).length c]) ∧ w'.ownsRow w.heap.size 5 1 (.slice A (putB n).length c) (putB n).length ((putB n).map (Value.int .u8)) ∧ Below w.heap.size w w' := by
  by_cases h : n < 0
  · rw [(put_neg h).1, (put_neg h).2]
    go_enter Tryz.func75, Tryz.ntmps75
    go_wp2
    go_returns
    exact ⟨none, 0, rfl, World.ownsRow_nil _ _ _ _, by go_grown⟩
  · rw [(put_pos (by omega)).1, (put_pos (by omega)).2]
    obtain ⟨i0, hi, hz0, hz1, hz2⟩ := info_parts info_u8
    have h0 : 0 ≤ n := by omega
    obtain ⟨W, hW⟩ : ∃ W, W = w.alloc (Obj.cells #[Value.int .i64 0, .slice none 0 0] 35) := ⟨_, rfl⟩
    have HW := hide hW
    clear hW
    go_enter Tryz.func75, Tryz.ntmps75
    go_wp2
    rw [← HW.out]
    go_loopw [0, 3] (fun q v wr => PutRel n W.heap.size q v wr ∧ Below W.heap.size W wr) (fun q _ _ => (intOf q).toNat)
    case atStart => exact ⟨⟨[], n, h0, Int.le_refl _, rfl, rfl, World.ownsRow_nil _ _ _ _⟩, Below.refl _ _⟩
    case round =>
      obtain ⟨⟨xs, r, hr0, hrn, he, rfl, ho⟩, hb⟩ := hrel
      have hsh := put_short h0 h1 he
      have HE := hide he
      clear he
      by_cases hlt : 128 ≤ r
      · go_wp2_with (at_builtin; refine wpList_append_own_at _ rfl _ _ 22 rfl W.heap.size 5 i0 (.int .u8 0) 1 1 Tryz.underlying22 hi hz0 hz1 hz2 rfl (by decide) _ _ _ rfl (ho.alloc _) ⟨wr.heap.size, 0, none⟩ 1 1 [.int .u8 (r % 128 + 128)] rfl rfl (cell_one_new _ _ _) (one_cell _ _) (by unfold maxLen; omega) (by omega) (by simp; have := hb.size; omega) ?_; intro v' w1 hown' hgrow _ hat)
        have hb1 : Below W.heap.size W w1 := (hb.alloc hb.size _).grown hgrow (by simp; have := hb.size; omega) (fun k hk => (ho.lt k hk).1)
        rw [Int.add_comm] at hown'
        go_roundw
        case rel => exact ⟨PutRel.step hlt hrn HE.out hown', hb1⟩
        case measure => simp [intOf]; omega
      · go_wp2_with (at_builtin; refine wpList_append_own_at _ rfl _ _ 22 rfl W.heap.size 5 i0 (.int .u8 0) 1 1 Tryz.underlying22 hi hz0 hz1 hz2 rfl (by decide) _ _ _ rfl (ho.alloc _) ⟨wr.heap.size, 0, none⟩ 1 1 [.int .u8 r] rfl rfl (cell_one_new _ _ _) (one_cell _ _) (by unfold maxLen; omega) (by omega) (by simp; have := hb.size; omega) ?_; intro v' w1 hown' hgrow _ hat; have hb1 : Below W.heap.size W w1 := (hb.alloc hb.size _).grown hgrow (by simp; have := hb.size; omega) (fun k hk => (ho.lt k hk).1); have q0 := W_cell HW.out hb1 0; have q1 := W_cell HW.out hb1 1; have f0 := W_frozen HW.out hb1 0; have f1 := W_frozen HW.out hb1 1; simp at q0 q1; clear hgrow hat; have ho2 := put_last (by omega) HE.out hown'; clear hown'; obtain ⟨A, c, hv⟩ := own_shape ho2; rw [hv] at ho2; rw [hv])
        refine bodyPost_ret (v := .agg #[.int .i64 0, .slice A (putL n).length c]) (by simp [results, Tryz.results75, go_sem, q0, q1]) rfl ?_
        exact ⟨A, c, rfl, W_own HW.out (W_set HW.out (W_set HW.out ho2 _ _) _ _), ((W_below HW.out hb1).setCell (Nat.le_refl _) _).setCell (Nat.le_refl _) _⟩
end Go.Proofs.YtldepledinolmaaGreatDoor
