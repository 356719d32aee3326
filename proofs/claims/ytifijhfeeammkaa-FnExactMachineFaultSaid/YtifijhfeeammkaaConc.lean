/- Contracts of slices.Grow and slices.Concat at lines, in the program. -/
import Derived.Test.YtifijhfeeammkaaLineT
import Derived.Test.YtifijhfeeammkaaGApp
import Derived.Lib.AppendZeros
import Derived.Lib.Hide
namespace Go.Proofs.Ytifijhfeeammkaa
open Go.RowKit

set_option maxRecDepth 100000 in
theorem growL_any (N : Nat) (w : World) (hN : N ≤ 1000000) :
    Calls Try.prog 122 #[.slice none 0 0, .int .i64 N] w fun e w' => ∃ v, e = .returned v ∧ w'.ownsRow w.heap.size 115 3 v 0 [] ∧ Below w.heap.size w w' := by
  obtain ⟨i0, hi, hz0, hz1, hz2⟩ := info_parts info_line
  by_cases h0 : N = 0
  · subst h0
    go_enter Try.func122, Try.ntmps122
    go_wp2
    go_ret
    exact ⟨_, rfl, ⟨rfl, .inl ⟨rfl, rfl⟩⟩, Below.refl _ _⟩
  · have hr := fun ty => Go.Lib.run_append_nil_zeros w 112 3 ty 115 i0 (.agg #[.int .i64 0, .int .i64 0, .int .i64 0]) .i64 .i64 Try.underlying112 Try.underlying3 hi hz0 N (by omega) (by rw [hz1]; omega) (by omega) (by rw [hz2]; omega)
    have hC1 := grownCap_ge w N 0 115
    have hC2 := grownCap_le_maxLen w N 0 115 (by unfold maxLen; omega)
    have hsz : (Builtin.zeroCells (Value.agg #[.int .i64 0, .int .i64 0, .int .i64 0]).cells N ++ Builtin.zeroCells (Value.agg #[.int .i64 0, .int .i64 0, .int .i64 0]).cells (grownCap w N 0 115 - N)).size = grownCap w N 0 115 * 3 := by
      rw [Array.size_append, size_zeroCells, size_zeroCells]
      simp [Value.cells]
      omega
    generalize grownCap w N 0 115 = C at *
    generalize Builtin.zeroCells (Value.agg #[.int .i64 0, .int .i64 0, .int .i64 0]).cells N ++ Builtin.zeroCells (Value.agg #[.int .i64 0, .int .i64 0, .int .i64 0]).cells (C - N) = cur at *
    have HS := hide hsz
    have HR := hide hr
    have hC3 : C ≤ 9223372036854775807 := by unfold maxLen at hC2; omega
    clear hsz hr
    go_enter Try.func122, Try.ntmps122
    go_wp2_with (at_builtin; refine Go.Lib.wpList_append_run _ rfl _ _ _ _ rfl _ _ rfl rfl _ _ (HR.out _) ?_)
    go_ret
    exact ⟨_, rfl, ⟨rfl, .inr ⟨w.heap.size, C, cur, rfl, Nat.le_refl _, heap_alloc_new w.drew _, Nat.zero_le _, hC2, HS.out, by simp⟩⟩, ((Below.refl w.heap.size w).drew.alloc (by simp) _)⟩
theorem flat_take (t : List (List Ev)) (k : Nat) (h : k < t.length) : (t.take (k + 1)).flatten = (t.take k).flatten ++ t[k] := by
  rw [List.take_succ_eq_append_getElem h, List.flatten_append]
  simp
theorem flat_len : ∀ t : List (List Ev), t.flatten.length = sumT t
  | [] => rfl
  | l :: r => by rw [List.flatten_cons, List.length_append, flat_len r]; rfl
theorem sumT_take (t : List (List Ev)) (k : Nat) : sumT (t.take k) ≤ sumT t := by
  rw [← flat_len, ← flat_len]
  conv => rhs; rw [← List.take_append_drop k t]
  rw [List.flatten_append, List.length_append]
  omega
set_option maxRecDepth 100000 in
set_option maxHeartbeats 400000 in
theorem concat_any (t : List (List Ev)) (A : Option Addr) (c : Nat) (w : World) (hn : t.length ≤ 1000000) (hs : sumT t ≤ 1000000) (h : RdT w w.heap.size A t) :
    Calls Try.prog 72 #[.slice A t.length c] w fun e w' => ∃ A' c', e = .returned (.slice A' t.flatten.length c') ∧ RdE w' w'.heap.size A' t.flatten ∧ Below w.heap.size w w' := by
  obtain ⟨i0, hi, hz0, hz1, hz2⟩ := info_parts info_line
  go_enter Try.func72, Try.ntmps72
  go_wp2
  go_loop [3, 11] (fun s i => ∃ k n : Nat, k ≤ t.length ∧ i = .int .i64 k ∧ s = .int .i64 n ∧ n + sumT (t.drop k) = sumT t) (fun _ i => t.length - (intOf i).toNat)
  case atStart => exact ⟨0, 0, Nat.zero_le _, rfl, rfl, by simp⟩
  case round =>
    obtain ⟨k, n, hk, rfl, rfl, hsum⟩ := hrel
    by_cases hlt : k < t.length
    · obtain ⟨b, off, a, d, rfl, _, hc0, hle, hcm, _⟩ := h.get hlt
      have hd := sumT_drop t k hlt
      have hn1 : n ≤ 1000000 := by omega
      have hn2 : t[k].length ≤ 1000000 := by omega
      have hsum2 : n + t[k].length + sumT (t.drop (k + 1)) = sumT t := by omega
      have HS := hide hsum2
      clear hd hsum hsum2
      go_wp2
      go_round
      case rel => exact ⟨k + 1, n + t[k].length, by omega, by go_num, by go_num, HS.out⟩
      case measure => simp [intOf]; omega
    · have hns : n = sumT t := by
        rw [List.drop_eq_nil_of_le (by omega)] at hsum
        simpa [sumT] using hsum
      subst hns
      clear hsum
      go_wp2_with fail
      refine (growL_any (sumT t) w hs).mono ?_
      rintro e w1 ⟨v0, rfl, o1, b1⟩
      go_wp2
      go_loopw [6, 27] (fun v i wr => ∃ k : Nat, k ≤ t.length ∧ i = .int .i64 k ∧ wr.ownsRow w.heap.size 115 3 v (t.take k).flatten.length (evs (t.take k).flatten) ∧ Below w.heap.size w wr) (fun _ i _ => t.length - (intOf i).toNat)
      case atStart => exact ⟨0, Nat.zero_le _, rfl, by simpa [evs] using o1, b1⟩
      case round =>
        clear b1 o1
        obtain ⟨k, hk, rfl, ho, hb⟩ := hrel
        by_cases hlt : k < t.length
        · obtain ⟨b, off, a, d, rfl, _, hc0, hle, hcm, hr⟩ := (h.below hb).get hlt
          have hf := flat_take t k hlt
          have hl1 : (t.take k).flatten.length ≤ 1000000 := by rw [flat_len]; have := sumT_take t k; omega
          have hl2 : t[k].length ≤ 1000000 := by have := sumT_mem (List.getElem_mem hlt); omega
          have HF := hide hf
          have hbs := hb.size
          go_wp2_with (at_builtin; refine wpList_append_re _ rfl (.tmp 31) (.tmp 32) 112 rfl w.heap.size 115 i0 (.agg #[.int .i64 0, .int .i64 0, .int .i64 0]) 24 Try.underlying112 hi hz0 hz1 hz2 rfl _ (t.take k).flatten.length (evs (t.take k).flatten) rfl ho a t[k] d w.heap.size rfl hr (by unfold maxLen; omega) (by omega) hbs ?_; intro v3 w3 o3 g3 hat3; have b3 := hb.trans (grown_below ho g3 hbs (Nat.le_refl _)); rw [← evs_append, ← HF.out, ← List.length_append, ← HF.out] at o3; clear g3 hat3 ho hb hr)
          go_roundw
          case rel => exact ⟨k + 1, by omega, by go_num, o3, b3⟩
          case measure => simp [intOf]; omega
        · rw [List.take_of_length_le (by omega)] at ho
          obtain ⟨A', c', rfl⟩ := own_shape ho
          go_wp2
          go_ret
          exact ⟨A', c', rfl, RdE.of_own ho, hb⟩
end Go.Proofs.Ytifijhfeeammkaa
