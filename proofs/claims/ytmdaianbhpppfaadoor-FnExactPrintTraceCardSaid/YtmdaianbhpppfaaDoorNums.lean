/- Plain mathematics of chapter 1: numbers whose sign is folded in. No program is named here. -/
import Derived.Test.YtmdaianbhpppfaaDoorBase
namespace Go.Proofs.YtmdaianbhpppfaaDoor
open Go.RowKit
def inB (v lo hi : Int) : Bool := decide (lo ≤ v) && decide (v ≤ hi)
def zigI (n : Int) : Int := if 0 ≤ n then 2 * n else -2 * n - 1
def zagI (n : Int) : Int := if n % 2 = 0 then n / 2 else -((n + 1) / 2)
/-- The code and the value of the folded number; and of the one unfolded again. -/
def zigC (n : Int) : Int := if -1000000000000 ≤ n ∧ n ≤ 1000000000000 then 0 else 3
def zigV (n : Int) : Int := if -1000000000000 ≤ n ∧ n ≤ 1000000000000 then zigI n else 0
def zagC (n : Int) : Int := if 0 ≤ n ∧ n ≤ 2000000000000 then 0 else 3
def zagV (n : Int) : Int := if 0 ≤ n ∧ n ≤ 2000000000000 then zagI n else 0
theorem zig_in {n : Int} (h : -1000000000000 ≤ n ∧ n ≤ 1000000000000) : zigC n = 0 ∧ zigV n = zigI n := ⟨if_pos h, if_pos h⟩
theorem zig_out {n : Int} (h : ¬ (-1000000000000 ≤ n ∧ n ≤ 1000000000000)) : zigC n = 3 ∧ zigV n = 0 := ⟨if_neg h, if_neg h⟩
theorem zag_in {n : Int} (h : 0 ≤ n ∧ n ≤ 2000000000000) : zagC n = 0 ∧ zagV n = zagI n := ⟨if_pos h, if_pos h⟩
theorem zag_out {n : Int} (h : ¬ (0 ≤ n ∧ n ≤ 2000000000000)) : zagC n = 3 ∧ zagV n = 0 := ⟨if_neg h, if_neg h⟩
theorem zigI_pos {n : Int} (h : 0 ≤ n) : zigI n = 2 * n := if_pos h
theorem zigI_neg {n : Int} (h : ¬ 0 ≤ n) : zigI n = -2 * n - 1 := if_neg h
theorem zagI_even {n : Int} (h : n % 2 = 0) : zagI n = n / 2 := if_pos h
theorem zagI_odd {n : Int} (h : ¬ n % 2 = 0) : zagI n = -((n + 1) / 2) := if_neg h
theorem zag_wrap {n : Int} (h : 0 ≤ n) (h2 : n ≤ 2000000000000) : wrap64 (-(n + 1).tdiv 2) = -((n + 1) / 2) := by
  rw [Int.tdiv_eq_ediv_of_nonneg (by omega)]
  unfold wrap64
  omega
/-- Unfolded again it is what it was, both ways. -/
theorem zag_zig {n : Int} (h : zigC n = 0) : zagC (zigV n) = 0 ∧ zagV (zigV n) = n := by
  unfold zigC at h
  by_cases hn : -1000000000000 ≤ n ∧ n ≤ 1000000000000
  · rw [(zig_in hn).2]
    by_cases h0 : 0 ≤ n
    · rw [zigI_pos h0]
      have := zag_in (n := 2 * n) (by omega)
      rw [this.1, this.2, zagI_even (by omega)]
      omega
    · rw [zigI_neg h0]
      have := zag_in (n := -2 * n - 1) (by omega)
      rw [this.1, this.2, zagI_odd (by omega)]
      omega
  · rw [if_neg hn] at h
    omega
theorem zig_zag {n : Int} (h : zagC n = 0) : zigC (zagV n) = 0 ∧ zigV (zagV n) = n := by
  unfold zagC at h
  by_cases hn : 0 ≤ n ∧ n ≤ 2000000000000
  · rw [(zag_in hn).2]
    by_cases h0 : n % 2 = 0
    · rw [zagI_even h0]
      have := zig_in (n := n / 2) (by omega)
      rw [this.1, this.2, zigI_pos (by omega)]
      omega
    · rw [zagI_odd h0]
      have := zig_in (n := -((n + 1) / 2)) (by omega)
      rw [this.1, this.2, zigI_neg (by omega)]
      omega
  · rw [if_neg hn] at h
    omega
end Go.Proofs.YtmdaianbhpppfaaDoor
