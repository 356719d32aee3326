/- Numbers as texts: the document's own functions. -/
import Derived.Test.YtmdaianbhpppfaaDoorStr
import Derived.Test.YtmdaianbhpppfaaDoorTxMath
import Derived.Test.YtmdaianbhpppfaaDoorProg
import Derived.StillTailTactics
namespace Go.Proofs.YtmdaianbhpppfaaDoor
open Go.RowKit

theorem l5Digit_any (c base : Int) (w : World) (h0 : 0 ≤ c) (h1 : c < 256) :
    Calls Tryd.prog 77 #[.int .u8 c, .int .i64 base] w fun e w' => e = .returned (.int .i64 (dgB base c)) ∧ w = w' := by
  by_cases a : 48 ≤ c ∧ c ≤ 57
  · obtain ⟨a1, a2⟩ := a
    have e0 : dgV c = c - 48 := by unfold dgV; rw [if_pos ⟨a1, a2⟩]
    unfold dgB
    rw [e0]
    have s1 : IntKind.u8.wrap (c - 48) = c - 48 := IntWalk.u8_in _ (by omega)
    by_cases hb : base ≤ c - 48
    · rw [if_pos hb]
      go_enter Tryd.func77, Tryd.ntmps77
      go_wp2
      go_ret
      exact ⟨rfl, rfl⟩
    · rw [if_neg hb]
      go_enter Tryd.func77, Tryd.ntmps77
      go_wp2
      go_ret
      exact ⟨rfl, rfl⟩
  · by_cases d : 97 ≤ c ∧ c ≤ 102
    · obtain ⟨d1, d2⟩ := d
      have e0 : dgV c = c - 97 + 10 := by unfold dgV; rw [if_neg a, if_pos ⟨d1, d2⟩]; omega
      unfold dgB
      rw [e0]
      have a1 : ¬ c ≤ 57 := by omega
      have a2 : 48 ≤ c := by omega
      by_cases hb : base ≤ c - 97 + 10
      · rw [if_pos hb]
        go_enter Tryd.func77, Tryd.ntmps77
        go_wp2
        go_ret
        exact ⟨rfl, rfl⟩
      · rw [if_neg hb]
        go_enter Tryd.func77, Tryd.ntmps77
        go_wp2
        go_ret
        exact ⟨rfl, rfl⟩
    · have e0 : dgV c = -1 := by unfold dgV; rw [if_neg a, if_neg d]
      have e1 : dgB base c = -1 := by unfold dgB; rw [e0]; split <;> rfl
      rw [e1]
      by_cases a1 : 48 ≤ c
      · have a2 : ¬ c ≤ 57 := by omega
        by_cases d1 : 97 ≤ c
        · have d2 : ¬ c ≤ 102 := by omega
          by_cases hb : base ≤ -1
          all_goals
            go_enter Tryd.func77, Tryd.ntmps77
            go_wp2
            go_ret
            exact ⟨rfl, rfl⟩
        · by_cases hb : base ≤ -1
          all_goals
            go_enter Tryd.func77, Tryd.ntmps77
            go_wp2
            go_ret
            exact ⟨rfl, rfl⟩
      · have d1 : ¬ 97 ≤ c := by omega
        by_cases hb : base ≤ -1
        all_goals
          go_enter Tryd.func77, Tryd.ntmps77
          go_wp2
          go_ret
          exact ⟨rfl, rfl⟩

/-- A number's signs, one behind the other: the number behind i of them. -/
theorem numV_take {base : Int} (hb : 0 ≤ base) {l : List Int} {i : Nat} (h : i < l.length) (h0 : 0 ≤ numV base 0 (l.take i)) :
    numV base 0 (l.take (i + 1)) = if dgB base l[i] < 0 then -1 else numV base 0 (l.take i) * base + dgB base l[i] := by
  rw [List.take_succ_eq_append_getElem h, numV_snoc base hb _ _ 0 (by omega), if_neg (by omega)]
theorem numV_neg {base : Int} (hb : 0 ≤ base) : ∀ (l : List Int) (a : Int), 0 ≤ a → numV base a l < 0 → numV base a l = -1
  | [], a, ha, h => by
    have : numV base a [] = a := rfl
    omega
  | x :: r, a, ha, h => by
    rw [numV_cons] at h ⊢
    by_cases hx : dgB base x < 0
    · rw [if_pos hx]
    · rw [if_neg hx] at h ⊢
      have h1 : 0 ≤ a * base := Int.mul_nonneg ha hb
      exact numV_neg hb r _ (by omega) h
theorem numV_bad {base : Int} (hb : 0 ≤ base) : ∀ (m l : List Int), numV base 0 l < 0 → numV base 0 (l ++ m) = -1
  | [], l, h => by
    rw [List.append_nil]
    exact numV_neg hb l 0 (by omega) h
  | c :: m, l, h => by
    rw [show l ++ c :: m = (l ++ [c]) ++ m by simp]
    refine numV_bad hb m (l ++ [c]) ?_
    rw [numV_snoc base hb _ _ 0 (by omega), if_pos h]
    omega
end Go.Proofs.YtmdaianbhpppfaaDoor
