/- Contracts of the laws' own small functions. -/
import Derived.Test.YtmnpiakcppcmgaaGreatDoorSame
namespace Go.Proofs.YtmnpiakcppcmgaaGreatDoor
open Go.RowKit

theorem lwBig_no (l : List Int) (A : Option Addr) (c : Nat) (w : World) (hl : l.length ≤ 1048576) :
    Calls Tryz.prog 4 #[.slice A l.length c] w fun e w' => e = .returned (.bool false) ∧ w = w' := by
  go_enter Tryz.func4, Tryz.ntmps4
  go_wp2
  go_ret
  exact ⟨ret_bool (by simp; omega), rfl⟩
theorem lwBig_yes (l : List Int) (A : Option Addr) (c : Nat) (w : World) (hl : ¬ l.length ≤ 1048576) (hm : l.length ≤ maxLen) :
    Calls Tryz.prog 4 #[.slice A l.length c] w fun e w' => e = .returned (.bool true) ∧ w = w' := by
  unfold maxLen at hm
  go_enter Tryz.func4, Tryz.ntmps4
  go_wp2
  go_ret
  exact ⟨ret_bool (by simp; omega), rfl⟩

theorem lwSame_any (l m : List Int) (A A' : Option Addr) (c c' : Nat) (w : World) (h : Rd .u8 w w.heap.size A l) (h' : Rd .u8 w w.heap.size A' m) (b : B8 l) (b' : B8 m) :
    Calls Tryz.prog 35 #[.slice A l.length c, .slice A' m.length c'] w fun e w' => e = .returned (.bool (sameB l m)) ∧ w = w' := by
  have e1 := run_str (P := Tryz.prog) c 22 5 Tryz.underlying22 Tryz.underlying5 h 9 Tryz.underlying9
  have e2 := run_str (P := Tryz.prog) c' 22 5 Tryz.underlying22 Tryz.underlying5 h' 9 Tryz.underlying9
  go_enter Tryz.func35, Tryz.ntmps35
  go_wp2
  go_ret
  exact ⟨ret_bool (sameB_str b b'), rfl⟩

theorem lwBytes_same (a : Int) (l : List Int) (A A' : Option Addr) (c c' : Nat) (w : World) (h : Rd .u8 w w.heap.size A l) (h' : Rd .u8 w w.heap.size A' l) (b : B8 l) :
    Calls Tryz.prog 10 #[.agg #[.int .i64 a, .slice A l.length c], .agg #[.int .i64 a, .slice A' l.length c']] w fun e w' => e = .returned (.bool true) ∧ Below w.heap.size w w' := by
  go_enter Tryz.func10, Tryz.ntmps10
  go_wp2_with fail
  refine (lwSame_any l l A A' c c' _ ((h.alloc (Nat.le_refl _) _).alloc (by simp) _).lt ((h'.alloc (Nat.le_refl _) _).alloc (by simp) _).lt b b).mono ?_
  rintro e w1 ⟨rfl, rfl⟩
  go_wp2
  go_ret
  exact ⟨ret_bool (by unfold sameB; simp), by go_grown⟩

/-- A number below n comes back; nothing but the count of draws has turned. -/
def AtPost (n : Int) (w : World) (e : Ending) (w' : World) : Prop := ∃ (r : Int) (k : Nat), e = .returned (.int .i64 r) ∧ 0 ≤ r ∧ (r < n ∨ n ≤ 1 ∧ r = 0) ∧ w' = w.drewN k
/-- A choice out of n that the bytes make; it only reads. -/
theorem lwAt_any (i : Nat) (n : Int) (l : List Int) (A : Option Addr) (c : Nat) (w : World) (hi : i ≤ 100) (hn : n ≤ 1000000) (h0 : 0 ≤ n) (hl : l.length ≤ 1048576) (hr : Rd .u8 w w.heap.size A l) (b8 : B8 l) :
    Calls Tryz.prog 16 #[.slice A l.length c, .int .i64 i, .int .i64 n] w (AtPost n w) := by
  by_cases h1 : n ≤ 1
  · go_enter Tryz.func16, Tryz.ntmps16
    go_wp2
    go_ret
    exact ⟨0, 0, rfl, by omega, .inr ⟨by omega, rfl⟩, rfl⟩
  · by_cases hl0 : l.length = 0
    · have e0 : ((l.length : Int) == 0) = true := by rw [hl0]; rfl
      clear hl0
      go_enter Tryz.func16, Tryz.ntmps16
      go_wp2
      go_ret
      exact ⟨(i * 7) % n, 0, rfl, Int.emod_nonneg _ (by omega), .inl (Int.emod_lt_of_pos _ (by omega)), rfl⟩
    · have e0 : ((l.length : Int) == 0) = false := beq_eq_false_iff_ne.2 (by omega)
      have i0 : i % l.length < l.length := Nat.mod_lt _ (by omega)
      have i1 : (i + 1) % l.length < l.length := Nat.mod_lt _ (by omega)
      obtain ⟨b, off, rfl, hbg, hc⟩ := hr.all (by omega)
      have c0 := hc _ i0
      have c1 := hc _ i1
      have r0 := b8.get _ i0
      have r1 := b8.get _ i1
      obtain ⟨x0, hx0⟩ : ∃ x, x = l[i % l.length] := ⟨_, rfl⟩
      obtain ⟨x1, hx1⟩ : ∃ x, x = l[(i + 1) % l.length] := ⟨_, rfl⟩
      rw [← hx0] at c0 r0
      rw [← hx1] at c1 r1
      clear hx0 hx1 hc
      have n1 : (((i : Int) + 1) % (l.length : Int)).toNat = (i + 1) % l.length := by
        have : ((i : Int) + 1) = ((i + 1 : Nat) : Int) := by omega
        rw [this, ← Int.natCast_emod, Int.toNat_natCast]
      have m1 := Int.emod_nonneg ((i : Int) + 1) (show (l.length : Int) ≠ 0 by omega)
      have l1 := Int.emod_lt_of_pos ((i : Int) + 1) (show (0 : Int) < (l.length : Int) by omega)
      have d0 : 0 ≤ (i : Int) / (l.length : Int) := Int.ediv_nonneg (by omega) (by omega)
      have d1 : (i : Int) / (l.length : Int) ≤ 1000 := Int.le_trans (Int.ediv_le_self _ (by omega)) (by omega)
      obtain ⟨D, hD⟩ : ∃ D, (i : Int) / (l.length : Int) = D := ⟨_, rfl⟩
      rw [hD] at d0 d1
      by_cases h200 : n ≤ 200
      · go_enter Tryz.func16, Tryz.ntmps16
        go_wp2
        go_quiet (fail)
        go_wp2
        go_ret
        exact ⟨(x0 + D * 3) % n, _, rfl, Int.emod_nonneg _ (by omega), .inl (Int.emod_lt_of_pos _ (by omega)), rfl⟩
      · go_enter Tryz.func16, Tryz.ntmps16
        go_wp2
        go_quiet (fail)
        go_wp2
        go_ret
        exact ⟨((x0 + D * 3) * 251 + x1) % n, _, rfl, Int.emod_nonneg _ (by omega), .inl (Int.emod_lt_of_pos _ (by omega)), rfl⟩
end Go.Proofs.YtmnpiakcppcmgaaGreatDoor
