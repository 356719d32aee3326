/- Reading a number: the program's numberIn. -/
import Derived.Test.YtmdaianbhpppfaaSig3
import Derived.Test.YtmdaianbhpppfaaTx3
import Derived.Test.YtmdaianbhpppfaaZig
namespace Go.Proofs.Ytmdaianbhpppfaa
open Go.RowKit

/-- The number that a word is, in a base; -1: none. -/
def nmV (base : Int) (l : List Int) : Int := if l.length < 1 ∨ l.getD 0 0 = 48 ∧ 1 < l.length then -1 else if numV base 0 l < 0 ∨ 999999 < numV base 0 l then -1 else numV base 0 l
theorem numV_mono {base : Int} (hb : 1 ≤ base) : ∀ (r : List Int) (a : Int), 0 ≤ a → numV base a r < 0 ∨ a ≤ numV base a r
  | [], a, ha => .inr (by rw [show numV base a [] = a from rfl]; omega)
  | c :: r, a, ha => by
    rw [numV_cons]
    by_cases h : dgB base c < 0
    · rw [if_pos h]; exact .inl (by omega)
    · rw [if_neg h]
      have h1 : a ≤ a * base := by
        have := Int.mul_le_mul_of_nonneg_left hb ha
        omega
      rcases numV_mono hb r (a * base + dgB base c) (by omega) with h2 | h2
      · exact .inl h2
      · exact .inr (by omega)
theorem numV_app {base : Int} : ∀ (m r : List Int) (a : Int), numV base a (m ++ r) = if numV base a m < 0 ∧ ¬ (m = []) then numV base a (m ++ r) else numV base (numV base a m) r
  | [], r, a => by simp [numV]
  | c :: m, r, a => by
    rw [List.cons_append, numV_cons, numV_cons]
    by_cases h : dgB base c < 0
    · rw [if_pos h, if_pos h, if_pos ⟨by omega, by simp⟩]
    · rw [if_neg h, if_neg h]
      by_cases h2 : numV base (a * base + dgB base c) m < 0
      · rw [if_pos ⟨h2, by simp⟩]
      · rw [if_neg (fun h => h2 h.1), numV_app m r, if_neg (fun h => h2 h.1)]
theorem nmV_short {base : Int} {l : List Int} (h : l.length < 1 ∨ l.getD 0 0 = 48 ∧ 1 < l.length) : nmV base l = -1 := by unfold nmV; rw [if_pos h]
theorem nmV_bad {base : Int} {l : List Int} (h : numV base 0 l < 0 ∨ 999999 < numV base 0 l) : nmV base l = -1 := by unfold nmV; rw [if_pos h]; split <;> rfl
theorem nmV_good {base : Int} {l : List Int} (h0 : ¬ (l.length < 1 ∨ l.getD 0 0 = 48 ∧ 1 < l.length)) (h : ¬ (numV base 0 l < 0 ∨ 999999 < numV base 0 l)) : nmV base l = numV base 0 l := by unfold nmV; rw [if_neg h0, if_neg h]
theorem nmV_over {base : Int} {l : List Int} (hb : 1 ≤ base) {j : Nat} (h0 : 999999 < numV base 0 (l.take j)) : nmV base l = -1 := by
  refine nmV_bad ?_
  have e := numV_app (base := base) (l.take j) (l.drop j) 0
  rw [if_neg (fun h => by omega), List.take_append_drop] at e
  rcases numV_mono hb (l.drop j) (numV base 0 (l.take j)) (by omega) with h | h
  · exact .inl (by omega)
  · exact .inr (by omega)
theorem nmV_range (base : Int) (l : List Int) : -1 ≤ nmV base l ∧ nmV base l ≤ 999999 := by
  unfold nmV
  split
  · omega
  · split
    · omega
    · omega
theorem nmV_dec (l : List Int) : numL 10 6 l = nmV 10 l := by
  have len : 0 ≤ numV 10 0 l → ¬ (l.length < 1 ∨ l.getD 0 0 = 48 ∧ 1 < l.length) → l = digL 10 (numV 10 0 l).toNat := fun h h0 => numV_one (b := 10) (by omega) (by omega) l.length l rfl (by omega) (fun h => h0 (.inr h)) h
  by_cases h0 : l.length < 1 ∨ l.getD 0 0 = 48 ∧ 1 < l.length
  · rw [nmV_short h0]
    unfold numL
    rw [if_pos (by rcases h0 with h | h; exact .inl h; exact .inr (.inr h))]
  · by_cases hv : numV 10 0 l < 0 ∨ 999999 < numV 10 0 l
    · rw [nmV_bad hv]
      unfold numL
      split
      · rfl
      · rename_i hq
        rcases hv with hv | hv
        · exact numV_neg (by omega) l 0 (by omega) hv
        · exfalso
          have hb := numL_back (b := 10) (most := 6) (n := (numV 10 0 l).toNat) (by omega) (by omega)
          have e := len (by omega) h0
          have hs : ∀ k : Nat, l.length ≤ k → ∀ x, 0 ≤ numV 10 0 (l.take x) → x ≤ l.length → numV 10 0 (l.take x) < 10 ^ x := by
            intro k _ x
            induction x with
            | zero => intro _ _; simp [numV]
            | succ i ih =>
              intro hp hi
              by_cases hn : numV 10 0 (l.take i) < 0
              · have : l.take (i + 1) = l.take i ++ [l[i]] := List.take_succ_eq_append_getElem (by omega)
                rw [this, numV_bad (by omega) _ _ hn] at hp
                omega
              · have h1 := ih (by omega) (by omega)
                rw [numV_take (by omega) (by omega) (by omega)] at hp ⊢
                by_cases hd : dgB 10 l[i] < 0
                · rw [if_pos hd] at hp; omega
                · rw [if_neg hd]
                  have h2 := (dgB_lt 10 l[i]).2 (by omega)
                  rw [Int.pow_succ]
                  omega
          have h6 := hs l.length (Nat.le_refl _) l.length (by rw [List.take_length]; omega) (Nat.le_refl _)
          rw [List.take_length] at h6
          have hp : (10 : Int) ^ l.length ≤ 10 ^ 6 := by
            have := Nat.pow_le_pow_right (n := 10) (by omega) (show l.length ≤ 6 by omega)
            exact_mod_cast this
          omega
    · rw [nmV_good h0 hv]
      have e := len (by omega) h0
      have h6 := digL_len (b := 10) (by omega) 5 (numV 10 0 l).toNat (by omega)
      rw [← e] at h6
      unfold numL
      rw [if_neg (by omega)]
theorem nmV_hex (l : List Int) : (if 999999 < numL 16 5 l then -1 else numL 16 5 l) = nmV 16 l := by
  have len : 0 ≤ numV 16 0 l → ¬ (l.length < 1 ∨ l.getD 0 0 = 48 ∧ 1 < l.length) → l = digL 16 (numV 16 0 l).toNat := fun h h0 => numV_one (b := 16) (by omega) (by omega) l.length l rfl (by omega) (fun h => h0 (.inr h)) h
  by_cases h0 : l.length < 1 ∨ l.getD 0 0 = 48 ∧ 1 < l.length
  · rw [nmV_short h0]
    have : numL 16 5 l = -1 := by unfold numL; rw [if_pos (by rcases h0 with h | h; exact .inl h; exact .inr (.inr h))]
    rw [this]; rfl
  · by_cases hv : numV 16 0 l < 0 ∨ 999999 < numV 16 0 l
    · rw [nmV_bad hv]
      unfold numL
      by_cases hq : l.length < 1 ∨ 5 < l.length ∨ l.getD 0 0 = 48 ∧ 1 < l.length
      · rw [if_pos hq]; rfl
      · rw [if_neg hq]
        rcases hv with hv | hv
        · rw [numV_neg (by omega) l 0 (by omega) hv]; rfl
        · rw [if_pos hv]
    · rw [nmV_good h0 hv]
      have e := len (by omega) h0
      have h6 := digL_len (b := 16) (by omega) 4 (numV 16 0 l).toNat (by omega)
      rw [← e] at h6
      have : numL 16 5 l = numV 16 0 l := by unfold numL; rw [if_neg (by omega)]
      rw [this, if_neg (by omega)]
end Go.Proofs.Ytmdaianbhpppfaa
