/- Contracts of ZigZag, ZagZig and of what they call, in the program and in its model. -/
import Derived.Test.YtmnpiakcppcmgaaGreatDoorChecked
import Derived.Test.YtmnpiakcppcmgaaGreatDoorGBase
import Derived.ProofKit
import Derived.OpenShut
import Derived.Handy
import Derived.Outline
import Derived.BigQuiet
import Derived.Deep.QuietTactic
import Derived.WalkLawsBesides
namespace Go.Proofs.YtmnpiakcppcmgaaGreatDoor
open Go.RowKit

/-- One number within its bounds, as the program asks it. -/
theorem allWithin_one (b : Nat) (c : Nat) (lo hi n : Int) (w : World) (hc : w.cell? ⟨b, 0, none⟩ = some (.int .i64 n)) (hin : lo ≤ n ∧ n ≤ hi) :
    Calls Tryz.prog 34 #[.int .i64 lo, .int .i64 hi, .slice (some ⟨b, 0, none⟩) 1 c] w fun e w' => e = .returned (.bool true) ∧ w = w' := by
  obtain ⟨h1, h2⟩ := hin
  go_enter Tryz.func34, Tryz.ntmps34
  go_wp2
  go_loop [11] (fun i => ∃ j : Nat, j ≤ 1 ∧ i = .int .i64 j) (fun i => 1 - (intOf i).toNat)
  case atStart => exact ⟨0, by omega, rfl⟩
  case round =>
    obtain ⟨j, hj, rfl⟩ := hrel
    by_cases h0 : j = 0
    · subst h0
      go_wp2
      go_round
      case rel => exact ⟨1, by omega, rfl⟩
      case measure => simp [intOf]
    · obtain rfl : j = 1 := by omega
      go_wp2
      go_ret
      exact ⟨rfl, rfl⟩
theorem allWithin_not (b : Nat) (c : Nat) (lo hi n : Int) (w : World) (hc : w.cell? ⟨b, 0, none⟩ = some (.int .i64 n)) (hin : n < lo ∨ hi < n) :
    Calls Tryz.prog 34 #[.int .i64 lo, .int .i64 hi, .slice (some ⟨b, 0, none⟩) 1 c] w fun e w' => e = .returned (.bool false) ∧ w = w' := by
  rcases hin with hin | hin
  · go_enter Tryz.func34, Tryz.ntmps34
    go_wp2
    refine wp_loop_rounds 1 ?_
    rw [rounds_succ]
    go_wp2
    go_ret
    exact ⟨rfl, rfl⟩
  · by_cases h : n < lo
    · go_enter Tryz.func34, Tryz.ntmps34
      go_wp2
      refine wp_loop_rounds 1 ?_
      rw [rounds_succ]
      go_wp2
      go_ret
      exact ⟨rfl, rfl⟩
    · go_enter Tryz.func34, Tryz.ntmps34
      go_wp2
      refine wp_loop_rounds 1 ?_
      rw [rounds_succ]
      go_wp2
      go_ret
      exact ⟨rfl, rfl⟩

theorem implZig_any (n : Int) (w : World) (hn : -9223372036854775808 ≤ n ∧ n ≤ 9223372036854775807) :
    Calls Tryz.prog 67 #[.int .i64 n] w fun e w' => e = .returned (.agg #[.int .i64 (zigC n), .int .i64 (zigV n)]) ∧ Below w.heap.size w w' := by
  by_cases h : -1000000000000 ≤ n ∧ n ≤ 1000000000000
  · rw [(zig_in h).1, (zig_in h).2]
    by_cases h0 : 0 ≤ n
    · rw [zigI_pos h0]
      go_enter Tryz.func67, Tryz.ntmps67
      go_wp2_with (go_at_call 34; refine (allWithin_one _ _ _ _ _ _ (by simp [go_sem]) h).mono ?_; rintro e w' ⟨rfl, rfl⟩)
      go_returns
      exact ⟨rfl, by go_grown⟩
    · rw [zigI_neg h0]
      go_enter Tryz.func67, Tryz.ntmps67
      go_wp2_with (go_at_call 34; refine (allWithin_one _ _ _ _ _ _ (by simp [go_sem]) h).mono ?_; rintro e w' ⟨rfl, rfl⟩)
      go_returns
      exact ⟨rfl, by go_grown⟩
  · rw [(zig_out h).1, (zig_out h).2]
    have h' : n < -1000000000000 ∨ 1000000000000 < n := by omega
    clear h
    go_enter Tryz.func67, Tryz.ntmps67
    go_wp2_with (go_at_call 34; refine (allWithin_not _ _ _ _ _ _ (by simp [go_sem]) h').mono ?_; rintro e w' ⟨rfl, rfl⟩)
    go_returns
    exact ⟨rfl, by go_grown⟩

theorem implZag_any (n : Int) (w : World) (hn : -9223372036854775808 ≤ n ∧ n ≤ 9223372036854775807) :
    Calls Tryz.prog 92 #[.int .i64 n] w fun e w' => e = .returned (.agg #[.int .i64 (zagC n), .int .i64 (zagV n)]) ∧ Below w.heap.size w w' := by
  by_cases h : 0 ≤ n ∧ n ≤ 2000000000000
  · rw [(zag_in h).1, (zag_in h).2]
    by_cases h0 : n % 2 = 0
    · rw [zagI_even h0]
      have h0' : (n % 2 == 1) = false := by simp; omega
      clear h0
      go_enter Tryz.func92, Tryz.ntmps92
      go_wp2_with (go_at_call 34; refine (allWithin_one _ _ _ _ _ _ (by simp [go_sem]) h).mono ?_; rintro e w' ⟨rfl, rfl⟩)
      go_returns
      exact ⟨rfl, by go_grown⟩
    · rw [zagI_odd h0]
      have h0' : (n % 2 == 1) = true := by simp; omega
      clear h0
      go_enter Tryz.func92, Tryz.ntmps92
      go_wp2_with (go_at_call 34; refine (allWithin_one _ _ _ _ _ _ (by simp [go_sem]) h).mono ?_; rintro e w' ⟨rfl, rfl⟩)
      go_returns
      rw [zag_wrap (by omega) (by omega)]
      exact ⟨rfl, by go_grown⟩
  · rw [(zag_out h).1, (zag_out h).2]
    have h' : n < 0 ∨ 2000000000000 < n := by omega
    clear h
    go_enter Tryz.func92, Tryz.ntmps92
    go_wp2_with (go_at_call 34; refine (allWithin_not _ _ _ _ _ _ (by simp [go_sem]) h').mono ?_; rintro e w' ⟨rfl, rfl⟩)
    go_returns
    exact ⟨rfl, by go_grown⟩

end Go.Proofs.YtmnpiakcppcmgaaGreatDoor
