/- Contracts of the laws' own small functions. -/
import Derived.Test.YtifijhfeeammkaaSame
namespace Go.Proofs.Ytifijhfeeammkaa
open Go.RowKit

theorem lwBig_no (l : List Int) (A : Option Addr) (c : Nat) (w : World) (hl : l.length ≤ 1048576) :
    Calls Try.prog 13 #[.slice A l.length c] w fun e w' => e = .returned (.bool false) ∧ w = w' := by
  go_enter Try.func13, Try.ntmps13
  go_wp2
  go_ret
  exact ⟨ret_bool (by simp; omega), rfl⟩
theorem lwBig_yes (l : List Int) (A : Option Addr) (c : Nat) (w : World) (hl : ¬ l.length ≤ 1048576) (hm : l.length ≤ maxLen) :
    Calls Try.prog 13 #[.slice A l.length c] w fun e w' => e = .returned (.bool true) ∧ w = w' := by
  unfold maxLen at hm
  go_enter Try.func13, Try.ntmps13
  go_wp2
  go_ret
  exact ⟨ret_bool (by simp; omega), rfl⟩

/-- A number below n comes back; nothing but the count of draws has turned. -/
def AtPost (n : Int) (w : World) (e : Ending) (w' : World) : Prop := ∃ (r : Int) (k : Nat), e = .returned (.int .i64 r) ∧ 0 ≤ r ∧ (r < n ∨ n ≤ 1 ∧ r = 0) ∧ w' = w.drewN k
/-- A choice out of n that the bytes make; it only reads. -/
theorem lwAt_any (i : Nat) (n : Int) (l : List Int) (A : Option Addr) (c : Nat) (w : World) (hi : i ≤ 100) (hn : n ≤ 1000000) (h0 : 0 ≤ n) (hl : l.length ≤ 1048576) (hr : Rd .u8 w w.heap.size A l) (b8 : B8 l) :
    Calls Try.prog 38 #[.slice A l.length c, .int .i64 i, .int .i64 n] w (AtPost n w) := by
  by_cases h1 : n ≤ 1
  · go_enter Try.func38, Try.ntmps38
    go_wp2
    go_ret
    exact ⟨0, 0, rfl, by omega, .inr ⟨by omega, rfl⟩, rfl⟩
  · by_cases hl0 : l.length = 0
    · have e0 : ((l.length : Int) == 0) = true := by rw [hl0]; rfl
      clear hl0
      go_enter Try.func38, Try.ntmps38
      go_wp2
      go_ret
      exact ⟨(i * 7) % n, 0, rfl, Int.emod_nonneg _ (by omega), .inl (Int.emod_lt_of_pos _ (by omega)), rfl⟩
    · have e0 : ((l.length : Int) == 0) = false := beq_eq_false_iff_ne.2 (by omega)
      have i0 : i % l.length < l.length := Nat.mod_lt _ (by omega)
      have i1 : (i + 1) % l.length < l.length := Nat.mod_lt _ (by omega)
      obtain ⟨b, off, rfl, hbg, hc⟩ := hr.all (by omega)
      have c0 := hc _ i0
      have c1 := hc _ i1
      have r0 := b8.get _ i0
      have r1 := b8.get _ i1
      obtain ⟨x0, hx0⟩ : ∃ x, x = l[i % l.length] := ⟨_, rfl⟩
      obtain ⟨x1, hx1⟩ : ∃ x, x = l[(i + 1) % l.length] := ⟨_, rfl⟩
      rw [← hx0] at c0 r0
      rw [← hx1] at c1 r1
      clear hx0 hx1 hc
      have n1 : (((i : Int) + 1) % (l.length : Int)).toNat = (i + 1) % l.length := by
        have : ((i : Int) + 1) = ((i + 1 : Nat) : Int) := by omega
        rw [this, ← Int.natCast_emod, Int.toNat_natCast]
      have m1 := Int.emod_nonneg ((i : Int) + 1) (show (l.length : Int) ≠ 0 by omega)
      have l1 := Int.emod_lt_of_pos ((i : Int) + 1) (show (0 : Int) < (l.length : Int) by omega)
      have d0 : 0 ≤ (i : Int) / (l.length : Int) := Int.ediv_nonneg (by omega) (by omega)
      have d1 : (i : Int) / (l.length : Int) ≤ 1000 := Int.le_trans (Int.ediv_le_self _ (by omega)) (by omega)
      obtain ⟨D, hD⟩ : ∃ D, (i : Int) / (l.length : Int) = D := ⟨_, rfl⟩
      rw [hD] at d0 d1
      by_cases h200 : n ≤ 200
      · go_enter Try.func38, Try.ntmps38
        go_wp2
        go_quiet (fail)
        go_wp2
        go_ret
        exact ⟨(x0 + D * 3) % n, _, rfl, Int.emod_nonneg _ (by omega), .inl (Int.emod_lt_of_pos _ (by omega)), rfl⟩
      · go_enter Try.func38, Try.ntmps38
        go_wp2
        go_quiet (fail)
        go_wp2
        go_ret
        exact ⟨((x0 + D * 3) * 251 + x1) % n, _, rfl, Int.emod_nonneg _ (by omega), .inl (Int.emod_lt_of_pos _ (by omega)), rfl⟩
end Go.Proofs.Ytifijhfeeammkaa
