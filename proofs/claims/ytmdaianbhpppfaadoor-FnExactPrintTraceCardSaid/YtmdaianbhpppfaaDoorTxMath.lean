/- Plain mathematics of numbers as texts. No function of the program is named here. -/
import Derived.Test.YtmdaianbhpppfaaDoorBase
namespace Go.Proofs.YtmdaianbhpppfaaDoor
open Go.RowKit

/-- A digit's sign. -/
def dg (n : Nat) : Int := if n < 10 then 48 + n else 87 + n
/-- A number's signs in base b, at most f of them. -/
def digS (b : Nat) : Nat → Nat → List Int
  | 0, _ => []
  | f + 1, n => if n < b then [dg n] else digS b f (n / b) ++ [dg (n % b)]
def digL (b n : Nat) : List Int := digS b (n + 1) n
theorem digS_fuel {b : Nat} (hb : 2 ≤ b) : ∀ (f g n : Nat), n < f → n < g → digS b f n = digS b g n
  | 0, _, n, h, _ => by omega
  | f + 1, 0, n, _, h => by omega
  | f + 1, g + 1, n, h, h' => by
    unfold digS
    by_cases hn : n < b
    · rw [if_pos hn, if_pos hn]
    · have : n / b < n := Nat.div_lt_self (by omega) (by omega)
      rw [if_neg hn, if_neg hn, digS_fuel hb f g (n / b) (by omega) (by omega)]
theorem digL_few {b n : Nat} (h : n < b) : digL b n = [dg n] := by unfold digL digS; rw [if_pos h]
theorem digL_more {b n : Nat} (hb : 2 ≤ b) (h : ¬ n < b) : digL b n = digL b (n / b) ++ [dg (n % b)] := by
  have : n / b < n := Nat.div_lt_self (by omega) (by omega)
  conv => lhs; unfold digL digS
  rw [if_neg h, digS_fuel hb n (n / b + 1) (n / b) (by omega) (by omega)]
  rfl
theorem dg_B8 {n : Nat} (h : n < 16) : 0 ≤ dg n ∧ dg n < 256 := by unfold dg; split <;> omega
theorem digS_B8 {b : Nat} (hb : 2 ≤ b) (hb16 : b ≤ 16) : ∀ (f n : Nat), B8 (digS b f n)
  | 0, n => fun x hx => by simp [digS] at hx
  | f + 1, n => by
    unfold digS
    by_cases hn : n < b
    · rw [if_pos hn]; exact B8.one (dg_B8 (by omega)).1 (dg_B8 (by omega)).2
    · have := Nat.mod_lt n (show 0 < b by omega)
      rw [if_neg hn]; exact (digS_B8 hb hb16 f _).append (B8.one (dg_B8 (by omega)).1 (dg_B8 (by omega)).2)
theorem digL_B8 {b : Nat} (hb : 2 ≤ b) (hb16 : b ≤ 16) (n : Nat) : B8 (digL b n) := digS_B8 hb hb16 _ _
theorem digL_pos {b : Nat} (hb : 2 ≤ b) (n : Nat) : 0 < (digL b n).length := by
  by_cases h : n < b
  · rw [digL_few h]; simp
  · rw [digL_more hb h]; simp
theorem digL_len {b : Nat} (hb : 2 ≤ b) : ∀ (k n : Nat), n < b ^ (k + 1) → (digL b n).length ≤ k + 1
  | 0, n, h => by
    rw [Nat.zero_add, Nat.pow_one] at h
    rw [digL_few h]; simp
  | k + 1, n, h => by
    by_cases hn : n < b
    · rw [digL_few hn]; simp
    · rw [digL_more hb hn, List.length_append]
      have h1 : n / b < b ^ (k + 1) := by
        rw [Nat.div_lt_iff_lt_mul (by omega)]
        rw [Nat.pow_succ] at h
        exact h
      have := digL_len hb k (n / b) h1
      simp only [List.length_cons, List.length_nil]
      omega
/-- The first sign of a number that is not 0 is no 0. -/
theorem digL_head {b : Nat} (hb : 2 ≤ b) (hb16 : b ≤ 16) : ∀ (f n : Nat), n < f → 1 ≤ n → (digL b n).getD 0 0 ≠ 48
  | 0, n, h, _ => by omega
  | f + 1, n, h, h1 => by
    by_cases hn : n < b
    · rw [digL_few hn]
      simp only [List.getD_cons_zero]
      unfold dg
      split <;> omega
    · have hd : n / b < n := Nat.div_lt_self (by omega) (by omega)
      have hp : 1 ≤ n / b := by rw [Nat.le_div_iff_mul_le (by omega)]; omega
      rw [digL_more hb hn]
      have hl := digL_pos hb (n / b)
      rw [List.getD_eq_getElem?_getD, List.getElem?_append_left hl, ← List.getD_eq_getElem?_getD]
      exact digL_head hb hb16 f (n / b) (by omega) hp

/-- What a sign is, in a base; -1: it is no digit. -/
def dgV (c : Int) : Int := if 48 ≤ c ∧ c ≤ 57 then c - 48 else if 97 ≤ c ∧ c ≤ 102 then c - 87 else -1
def dgB (base c : Int) : Int := if base ≤ dgV c then -1 else dgV c
/-- What signs are, behind the number a; -1: they are none. -/
def numV (base : Int) : Int → List Int → Int
  | a, [] => a
  | a, c :: r => if dgB base c < 0 then -1 else numV base (a * base + dgB base c) r
def numL (base : Int) (most : Nat) (l : List Int) : Int := if l.length < 1 ∨ most < l.length ∨ l.getD 0 0 = 48 ∧ 1 < l.length then -1 else numV base 0 l
theorem dgB_dg {b n : Nat} (hb16 : b ≤ 16) (h : n < b) : dgB b (dg n) = n := by
  have h1 : dgV (dg n) = n := by
    unfold dg dgV
    by_cases h10 : n < 10
    · rw [if_pos h10, if_pos (by omega)]; omega
    · rw [if_neg h10, if_neg (by omega), if_pos (by omega)]; omega
  unfold dgB
  rw [h1, if_neg (by omega)]
theorem dgB_back {base c : Int} (h : 0 ≤ dgB base c) : dg (dgB base c).toNat = c ∧ dgB base c < base ∧ dgB base c < 16 := by
  unfold dgB at h ⊢
  by_cases h1 : base ≤ dgV c
  · rw [if_pos h1] at h; omega
  · rw [if_neg h1] at h ⊢
    unfold dgV at h h1 ⊢
    by_cases h2 : 48 ≤ c ∧ c ≤ 57
    · rw [if_pos h2] at h1 ⊢
      refine ⟨?_, by omega, by omega⟩
      unfold dg
      rw [if_pos (by omega)]; omega
    · rw [if_neg h2] at h h1 ⊢
      by_cases h3 : 97 ≤ c ∧ c ≤ 102
      · rw [if_pos h3] at h1 ⊢
        refine ⟨?_, by omega, by omega⟩
        unfold dg
        rw [if_neg (by omega)]; omega
      · rw [if_neg h3] at h; omega
theorem numV_cons (base a x : Int) (r : List Int) : numV base a (x :: r) = if dgB base x < 0 then -1 else numV base (a * base + dgB base x) r := by rw [numV]
theorem numV_snoc (base : Int) (hb : 0 ≤ base) (c : Int) : ∀ (l : List Int) (a : Int), 0 ≤ a → numV base a (l ++ [c]) = if numV base a l < 0 then -1 else if dgB base c < 0 then -1 else numV base a l * base + dgB base c
  | [], a, ha => by
    rw [List.nil_append, numV_cons]
    rw [show numV base a [] = a from rfl, if_neg (show ¬ a < 0 by omega)]
    by_cases hx : dgB base c < 0
    · rw [if_pos hx, if_pos hx]
    · rw [if_neg hx, if_neg hx]; rfl
  | x :: r, a, ha => by
    rw [List.cons_append, numV_cons, numV_cons]
    by_cases hx : dgB base x < 0
    · rw [if_pos hx, if_pos hx]; rfl
    · rw [if_neg hx, if_neg hx]
      have h1 : 0 ≤ a * base := Int.mul_nonneg ha hb
      exact numV_snoc base hb c r _ (by omega)
theorem numV_back {b : Nat} (hb : 2 ≤ b) (hb16 : b ≤ 16) : ∀ (f n : Nat), n < f → numV b 0 (digL b n) = n
  | 0, n, h => by omega
  | f + 1, n, h => by
    by_cases hn : n < b
    · rw [digL_few hn]
      simp only [numV]
      rw [dgB_dg hb16 hn, if_neg (by omega)]
      omega
    · have hd : n / b < n := Nat.div_lt_self (by omega) (by omega)
      have hm := Nat.mod_lt n (show 0 < b by omega)
      rw [digL_more hb hn, numV_snoc b (by omega) _ _ 0 (by omega), numV_back hb hb16 f (n / b) (by omega), dgB_dg hb16 hm, if_neg (by have := Int.natCast_nonneg (n / b); omega), if_neg (by have := Int.natCast_nonneg (n % b); omega)]
      have h1 := Nat.div_add_mod n b
      generalize n / b = q at h1
      generalize n % b = m at h1
      rw [← h1, Int.natCast_add, Int.natCast_mul, Int.mul_comm]
/-- A number's text is read back. -/
theorem numL_back {b most n : Nat} (hb : 2 ≤ b) (hb16 : b ≤ 16) (h : (digL b n).length ≤ most) : numL b most (digL b n) = n := by
  unfold numL
  rw [if_neg, numV_back hb hb16 (n + 1) n (by omega)]
  rintro (h1 | h1 | ⟨h1, h2⟩)
  · have := digL_pos hb n; omega
  · omega
  · by_cases hn : 1 ≤ n
    · exact digL_head hb hb16 (n + 1) n (by omega) hn h1
    · rw [digL_few (by omega)] at h2; simp at h2
theorem numV_one {b : Nat} (hb : 2 ≤ b) (hb16 : b ≤ 16) : ∀ (k : Nat) (l : List Int), l.length = k → 0 < k → ¬ (l.getD 0 0 = 48 ∧ 1 < l.length) → 0 ≤ numV b 0 l → l = digL b (numV b 0 l).toNat
  | 0, l, _, h, _, _ => by omega
  | k + 1, l, hl, _, h0, hv => by
    obtain ⟨x, c, rfl⟩ : ∃ x c, l = x ++ [c] := ⟨l.dropLast, l.getLast (by intro e; rw [e] at hl; simp at hl), (List.dropLast_concat_getLast _).symm⟩
    rw [numV_snoc b (by omega) c x 0 (by omega)] at hv ⊢
    by_cases h1 : numV b 0 x < 0
    · rw [if_pos h1] at hv; omega
    · rw [if_neg h1] at hv ⊢
      by_cases h2 : dgB b c < 0
      · rw [if_pos h2] at hv; omega
      · rw [if_neg h2] at hv ⊢
        obtain ⟨c1, c2, _⟩ := dgB_back (show 0 ≤ dgB b c by omega)
        obtain ⟨d, hd⟩ := Int.eq_ofNat_of_zero_le (show 0 ≤ dgB b c by omega)
        rw [hd] at c1 c2 ⊢
        rw [Int.toNat_natCast] at c1
        rcases hx : x with _ | ⟨y, r⟩
        · simp only [numV, List.nil_append]
          rw [show ((0 : Int) * b + d).toNat = d by omega, digL_few (by omega), c1]
        · have hxl : 0 < x.length := by rw [hx]; simp
          simp only [List.length_append, List.length_cons, List.length_nil] at hl h0
          have hg : (x ++ [c]).getD 0 0 = x.getD 0 0 := by rw [hx]; rfl
          have hx0 : x.getD 0 0 ≠ 48 := fun e => h0 ⟨by rw [hg]; exact e, by omega⟩
          have ih := numV_one hb hb16 k x (by omega) (by omega) (fun h => hx0 h.1) (by omega)
          obtain ⟨v, hv2⟩ := Int.eq_ofNat_of_zero_le (show 0 ≤ numV b 0 x by omega)
          rw [← hx]
          rw [hv2] at ih ⊢
          rw [Int.toNat_natCast] at ih
          have hv1 : 1 ≤ v := by
            rcases v with _ | v
            · exfalso
              rw [ih, digL_few (by omega)] at hx0
              exact hx0 rfl
            · omega
          have e : ((v : Int) * (b : Int) + (d : Int)).toNat = b * v + d := by
            rw [show (v : Int) * (b : Int) + (d : Int) = ((b * v + d : Nat) : Int) by rw [Int.natCast_add, Int.natCast_mul, Int.mul_comm]]
            exact Int.toNat_natCast _
          have hge : b ≤ b * v := Nat.le_mul_of_pos_right b (by omega)
          have hdv : (b * v + d) / b = v := by rw [Nat.mul_add_div (by omega), Nat.div_eq_of_lt (by omega), Nat.add_zero]
          have hdm : (b * v + d) % b = d := by rw [Nat.mul_add_mod, Nat.mod_eq_of_lt (by omega)]
          rw [e, digL_more hb (by omega), hdv, hdm, ← ih, c1]
/-- What is read has one text. -/
theorem numL_one {b most : Nat} (hb : 2 ≤ b) (hb16 : b ≤ 16) {l : List Int} (h : 0 ≤ numL b most l) : l = digL b (numL b most l).toNat ∧ l.length ≤ most := by
  unfold numL at h ⊢
  by_cases h1 : l.length < 1 ∨ most < l.length ∨ l.getD 0 0 = 48 ∧ 1 < l.length
  · rw [if_pos h1] at h; omega
  · rw [if_neg h1] at h ⊢
    exact ⟨numV_one hb hb16 l.length l rfl (by omega) (fun h => h1 (.inr (.inr h))) h, by omega⟩
end Go.Proofs.YtmdaianbhpppfaaDoor
