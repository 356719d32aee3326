/- Contracts of EventFault, in the program and in its model, and of the exact laws' helpers on one event. -/
import Derived.Test.YtmdaianbhpppfaaDoorEvBase
import Derived.Test.YtmdaianbhpppfaaDoorZig
import Derived.Lib.Hide
namespace Go.Proofs.YtmdaianbhpppfaaDoor
open Go.RowKit

/-- An event as a value. -/
abbrev evV (k a v : Int) : Value := .agg #[.int .i64 k, .int .i64 a, .int .i64 v]

theorem implEvF_any (k a v : Int) (w : World) :
    Calls Tryd.prog 29 #[evV k a v] w fun e w' => e = .returned (.int .i64 (evF ⟨k, a, v⟩)) ∧ Below w.heap.size w w' := by
  by_cases hk : k = 0 ∨ k = 1
  · by_cases ha : 0 ≤ a ∧ a ≤ 999999
    · by_cases hv : 0 ≤ v ∧ v ≤ 999999
      · rw [evF_ok (e := ⟨k, a, v⟩) hk (by simp only; omega)]
        rcases hk with rfl | rfl
        all_goals
          go_enter Tryd.func29, Tryd.ntmps29
          go_wp2_with fail
          refine (allWithin_one _ _ _ _ _ _ (by simp [go_sem]) ha).mono ?_
          rintro e w' ⟨rfl, rfl⟩
          go_wp2_with fail
          refine (allWithin_one _ _ _ _ _ _ (by simp [go_sem]) hv).mono ?_
          rintro e w' ⟨rfl, rfl⟩
          go_wp2
          go_ret
          exact ⟨rfl, by go_grown⟩
      · rw [evF_range (e := ⟨k, a, v⟩) hk (by simp only; omega)]
        have hv' : v < 0 ∨ 999999 < v := by omega
        clear hv
        rcases hk with rfl | rfl
        all_goals
          go_enter Tryd.func29, Tryd.ntmps29
          go_wp2_with fail
          refine (allWithin_one _ _ _ _ _ _ (by simp [go_sem]) ha).mono ?_
          rintro e w' ⟨rfl, rfl⟩
          go_wp2_with fail
          refine (allWithin_not _ _ _ _ _ _ (by simp [go_sem]) hv').mono ?_
          rintro e w' ⟨rfl, rfl⟩
          go_wp2
          go_ret
          exact ⟨rfl, by go_grown⟩
    · rw [evF_range (e := ⟨k, a, v⟩) hk (by simp only; omega)]
      have ha' : a < 0 ∨ 999999 < a := by omega
      clear ha
      rcases hk with rfl | rfl
      all_goals
        go_enter Tryd.func29, Tryd.ntmps29
        go_wp2_with fail
        refine (allWithin_not _ _ _ _ _ _ (by simp [go_sem]) ha').mono ?_
        rintro e w' ⟨rfl, rfl⟩
        go_wp2
        go_ret
        exact ⟨rfl, by go_grown⟩
  · rw [evF_form (e := ⟨k, a, v⟩) hk]
    have k0 : (k == 0) = false := beq_eq_false_iff_ne.2 (by omega)
    have k1 : (k == 1) = false := beq_eq_false_iff_ne.2 (by omega)
    have k2 : (k != 0) = true := bne_iff_ne.2 (by omega)
    have k3 : (k != 1) = true := bne_iff_ne.2 (by omega)
    clear hk
    go_enter Tryd.func29, Tryd.ntmps29
    go_wp2
    go_ret
    exact ⟨rfl, by go_grown⟩

theorem l1In_yes (n lo hi : Int) (w : World) (h : lo ≤ n ∧ n ≤ hi) :
    Calls Tryd.prog 23 #[.int .i64 n, .int .i64 lo, .int .i64 hi] w fun e w' => e = .returned (.bool true) ∧ w = w' := by
  obtain ⟨h1, h2⟩ := h
  go_enter Tryd.func23, Tryd.ntmps23
  go_wp2
  go_ret
  exact ⟨ret_bool (by simp), rfl⟩
theorem l1In_no (n lo hi : Int) (w : World) (h : n < lo ∨ hi < n) :
    Calls Tryd.prog 23 #[.int .i64 n, .int .i64 lo, .int .i64 hi] w fun e w' => e = .returned (.bool false) ∧ w = w' := by
  by_cases h1 : lo ≤ n
  · have h2 : hi < n := by omega
    clear h
    go_enter Tryd.func23, Tryd.ntmps23
    go_wp2
    go_ret
    exact ⟨ret_bool (by simp; omega), rfl⟩
  · clear h
    go_enter Tryd.func23, Tryd.ntmps23
    go_wp2
    go_ret
    exact ⟨rfl, rfl⟩

theorem specEvF_any (k a v : Int) (w : World) :
    Calls Tryd.prog 27 #[evV k a v] w fun e w' => e = .returned (.int .i64 (evF ⟨k, a, v⟩)) ∧ Below w.heap.size w w' := by
  by_cases hk : k = 0 ∨ k = 1
  · by_cases ha : 0 ≤ a ∧ a ≤ 999999
    · by_cases hv : 0 ≤ v ∧ v ≤ 999999
      · rw [evF_ok (e := ⟨k, a, v⟩) hk (by simp only; omega)]
        rcases hk with rfl | rfl
        all_goals
          go_enter Tryd.func27, Tryd.ntmps27
          go_wp2_with fail
          refine (l1In_yes _ _ _ _ ha).mono ?_
          rintro e w' ⟨rfl, rfl⟩
          go_wp2_with fail
          refine (l1In_yes _ _ _ _ hv).mono ?_
          rintro e w' ⟨rfl, rfl⟩
          go_wp2
          go_ret
          exact ⟨rfl, by go_grown⟩
      · rw [evF_range (e := ⟨k, a, v⟩) hk (by simp only; omega)]
        have hv' : v < 0 ∨ 999999 < v := by omega
        clear hv
        rcases hk with rfl | rfl
        all_goals
          go_enter Tryd.func27, Tryd.ntmps27
          go_wp2_with fail
          refine (l1In_yes _ _ _ _ ha).mono ?_
          rintro e w' ⟨rfl, rfl⟩
          go_wp2_with fail
          refine (l1In_no _ _ _ _ hv').mono ?_
          rintro e w' ⟨rfl, rfl⟩
          go_wp2
          go_ret
          exact ⟨rfl, by go_grown⟩
    · rw [evF_range (e := ⟨k, a, v⟩) hk (by simp only; omega)]
      have ha' : a < 0 ∨ 999999 < a := by omega
      clear ha
      rcases hk with rfl | rfl
      all_goals
        go_enter Tryd.func27, Tryd.ntmps27
        go_wp2_with fail
        refine (l1In_no _ _ _ _ ha').mono ?_
        rintro e w' ⟨rfl, rfl⟩
        go_wp2
        go_ret
        exact ⟨rfl, by go_grown⟩
  · rw [evF_form (e := ⟨k, a, v⟩) hk]
    have k0 : (k == 0) = false := beq_eq_false_iff_ne.2 (by omega)
    have k1 : (k == 1) = false := beq_eq_false_iff_ne.2 (by omega)
    have k2 : (k != 0) = true := bne_iff_ne.2 (by omega)
    have k3 : (k != 1) = true := bne_iff_ne.2 (by omega)
    clear hk
    go_enter Tryd.func27, Tryd.ntmps27
    go_wp2
    go_ret
    exact ⟨rfl, by go_grown⟩

theorem toEvent_any (k a v : Int) (w : World) :
    Calls Tryd.prog 11 #[evV k a v] w fun e w' => e = .returned (evV k a v) ∧ Below w.heap.size w w' := by
  go_enter Tryd.func11, Tryd.ntmps11
  go_wp2
  refine bodyPost_ret (v := evV k a v) (by simp [results, Tryd.results11, go_sem]) rfl ?_
  exact ⟨rfl, by go_grown⟩

theorem eqEvent_same (k a v : Int) (w : World) :
    Calls Tryd.prog 49 #[evV k a v, evV k a v] w fun e w' => e = .returned (.bool true) ∧ Below w.heap.size w w' := by
  go_enter Tryd.func49, Tryd.ntmps49
  go_wp2
  go_ret
  exact ⟨rfl, by go_grown⟩
end Go.Proofs.YtmdaianbhpppfaaDoor
