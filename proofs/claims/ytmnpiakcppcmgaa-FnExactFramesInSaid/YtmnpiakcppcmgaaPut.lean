/- Contracts of PutVar and of what it calls, in the program and in its model. -/
import Derived.Test.YtmnpiakcppcmgaaBytes
import Derived.Test.YtmnpiakcppcmgaaPutMath
namespace Go.Proofs.Ytmnpiakcppcmgaa
open Go.RowKit


/-- At the head of the loop's rounds: what is laid, and what is left of the number. -/
def PutRel (n : Int) (base : Nat) (q v : Value) (wr : World) : Prop :=
  ∃ (xs : List Int) (r : Int), 0 ≤ r ∧ r ≤ n ∧ xs ++ putL r = putL n ∧ q = .int .i64 r ∧ wr.ownsRow base 5 1 v xs.length (xs.map (Value.int .u8))
theorem PutRel.step {n : Int} {base : Nat} {v' : Value} {wr : World} {xs : List Int} {r : Int} (h0 : 128 ≤ r) (hn : r ≤ n) (he : xs ++ putL r = putL n)
    (ho : wr.ownsRow base 5 1 v' (xs.length + 1) (xs.map (Value.int .u8) ++ [.int .u8 (128 + r % 128)])) : PutRel n base (.int .i64 (r / 128)) v' wr :=
  ⟨xs ++ [r % 128 + 128], r / 128, by omega, by omega, by rw [List.append_assoc, ← he, putL_big h0]; rfl, rfl, by rw [Int.add_comm] at ho; simpa using ho⟩
theorem put_short {n r : Int} {xs : List Int} (h0 : 0 ≤ n) (h1 : n ≤ 9223372036854775807) (he : xs ++ putL r = putL n) : xs.length ≤ 8 := by
  have := congrArg List.length he
  have a := putL_len h0 h1
  have b := putL_pos r
  simp at this
  omega

theorem put_last {n r : Int} {base : Nat} {v' : Value} {wr : World} {xs : List Int} (h : r < 128) (he : xs ++ putL r = putL n)
    (ho : wr.ownsRow base 5 1 v' (xs.length + 1) (xs.map (Value.int .u8) ++ [.int .u8 r])) : wr.ownsRow base 5 1 v' (putL n).length ((putL n).map (Value.int .u8)) := by
  rw [putL_small h] at he
  rw [← he]
  simpa using ho
set_option maxHeartbeats 400000 in
theorem l1Put_any (n : Int) (w : World) (h0 : 0 ≤ n) (h1 : n ≤ 9223372036854775807) :
    Calls Try.prog 26 #[.int .i64 n] w fun e w' => ∃ A c, e = .returned (.slice A (putL n).length c) ∧ w'.ownsRow w.heap.size 5 1 (.slice A (putL n).length c) (putL n).length ((putL n).map (Value.int .u8)) ∧ Below w.heap.size w w' := by
  obtain ⟨i0, hi, hz0, hz1, hz2⟩ := info_parts info_u8
  go_enter Try.func26, Try.ntmps26
  go_wp2
  go_loopw [0, 3] (fun q v wr => PutRel n w.heap.size q v wr ∧ Below w.heap.size w wr) (fun q _ _ => (intOf q).toNat)
  case atStart =>
    exact ⟨⟨[], n, h0, Int.le_refl _, rfl, rfl, World.ownsRow_lit w #[] 0 (Nat.le_refl _) (by simp) rfl⟩, (Below.refl _ _).alloc (Nat.le_refl _) _⟩
  case round =>
    obtain ⟨⟨xs, r, hr0, hrn, he, rfl, ho⟩, hb⟩ := hrel
    have hsh := put_short h0 h1 he
    have HE := hide he
    clear he
    by_cases hlt : 128 ≤ r
    · go_wp2_with (at_builtin; refine wpList_append_own_at _ rfl _ _ 35 rfl w.heap.size 5 i0 (.int .u8 0) 1 1 Try.underlying35 hi hz0 hz1 hz2 rfl (by decide) _ _ _ rfl (ho.alloc _) ⟨wr.heap.size, 0, none⟩ 1 1 [.int .u8 (128 + r % 128)] rfl rfl (cell_one_new _ _ _) (one_cell _ _) (by unfold maxLen; omega) (by omega) (by simp; have := hb.size; omega) ?_; intro v' w1 hown' hgrow _ hat)
      have hb1 : Below w.heap.size w w1 := (hb.alloc hb.size _).grown hgrow (by simp; have := hb.size; omega) (fun k hk => (ho.lt k hk).1)
      go_roundw
      case rel => exact ⟨PutRel.step hlt hrn HE.out hown', hb1⟩
      case measure => simp [intOf]; omega
    · go_wp2_with (at_builtin; refine wpList_append_own_at _ rfl _ _ 35 rfl w.heap.size 5 i0 (.int .u8 0) 1 1 Try.underlying35 hi hz0 hz1 hz2 rfl (by decide) _ _ _ rfl (ho.alloc _) ⟨wr.heap.size, 0, none⟩ 1 1 [.int .u8 r] rfl rfl (cell_one_new _ _ _) (one_cell _ _) (by unfold maxLen; omega) (by omega) (by simp; have := hb.size; omega) ?_; intro v' w1 hown' hgrow _ hat)
      have hb1 : Below w.heap.size w w1 := (hb.alloc hb.size _).grown hgrow (by simp; have := hb.size; omega) (fun k hk => (ho.lt k hk).1)
      have ho2 := put_last (by omega) HE.out hown'
      obtain ⟨A, c, hv⟩ := own_shape ho2
      go_ret
      rw [hv] at ho2
      exact ⟨A, c, congrArg Ending.returned hv, ho2, hb1⟩

end Go.Proofs.Ytmnpiakcppcmgaa
