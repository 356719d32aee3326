/- Plain mathematics of reading a number back from its bytes. No program is named here. -/
import Derived.Test.YtmdaianbhpppfaaDoorPutMath
import Derived.Lib.EndianBits
import Derived.WalkKit
namespace Go.Proofs.YtmdaianbhpppfaaDoor
open Go.RowKit

/-- The number that groups of seven bits make, the lowest one first. -/
def valL : List Int → Int
  | [] => 0
  | b :: r => b % 128 + 128 * valL r
/-- How many bytes go on. -/
def rdK : List Int → Nat
  | [] => 0
  | b :: r => if 128 ≤ b then rdK r + 1 else 0
def rdGood (l : List Int) : Prop := ∃ h : rdK l < l.length, rdK l < 9 ∧ (rdK l = 0 ∨ l[rdK l] ≠ 0)
open Classical in
noncomputable def rdC (l : List Int) : Int := if rdGood l then 0 else 5
open Classical in
noncomputable def rdV (l : List Int) : Int := if rdGood l then valL (l.take (rdK l + 1)) else 0
open Classical in
noncomputable def rdZ (l : List Int) : Int := if rdGood l then rdK l + 1 else 0
theorem rd_good {l : List Int} (h : rdGood l) : rdC l = 0 ∧ rdV l = valL (l.take (rdK l + 1)) ∧ rdZ l = rdK l + 1 := ⟨if_pos h, if_pos h, if_pos h⟩
theorem rd_bad {l : List Int} (h : ¬ rdGood l) : rdC l = 5 ∧ rdV l = 0 ∧ rdZ l = 0 := ⟨if_neg h, if_neg h, if_neg h⟩

theorem rdK_le : ∀ l : List Int, rdK l ≤ l.length
  | [] => by simp [rdK]
  | b :: r => by simp only [rdK]; split <;> simp [rdK_le r]
/-- Where all ahead of j go on, the count is at least j; where the one at j does not, it is j. -/
theorem rdK_ge : ∀ (l : List Int) (j : Nat), j ≤ l.length → (∀ i, (h : i < l.length) → i < j → 128 ≤ l[i]) → j ≤ rdK l
  | _, 0, _, _ => Nat.zero_le _
  | [], j + 1, h, _ => by simp at h
  | b :: r, j + 1, hj, h => by
    have h0 : 128 ≤ b := h 0 (by simp) (by omega)
    simp only [rdK, h0, if_true]
    have := rdK_ge r j (by simpa using hj) (fun i hi hij => by have := h (i + 1) (by simpa using hi) (by omega); simpa using this)
    omega
theorem rdK_eq : ∀ (l : List Int) (j : Nat) (hj : j < l.length), (∀ i, (h : i < l.length) → i < j → 128 ≤ l[i]) → l[j] < 128 → rdK l = j
  | [], j, hj, _, _ => by simp at hj
  | b :: r, 0, _, _, h0 => by
    have : ¬ 128 ≤ b := by simp at h0; omega
    simp [rdK, this]
  | b :: r, j + 1, hj, h, hl => by
    have h0 : 128 ≤ b := h 0 (by simp) (by omega)
    simp only [rdK, h0, if_true]
    rw [rdK_eq r j (by simpa using hj) (fun i hi hij => by have := h (i + 1) (by simpa using hi) (by omega); simpa using this) (by simpa using hl)]
theorem rdK_at : ∀ (l : List Int) (h : rdK l < l.length), l[rdK l] < 128
  | [], h => by simp at h
  | b :: r, h => by
    by_cases hb : 128 ≤ b
    · have e : rdK (b :: r) = rdK r + 1 := by simp [rdK, hb]
      have h' : rdK r < r.length := by rw [e] at h; simpa using h
      have := rdK_at r h'
      simp only [e, List.getElem_cons_succ]
      exact this
    · have e : rdK (b :: r) = 0 := by simp [rdK, hb]
      simp only [e, List.getElem_cons_zero]
      omega
theorem rdK_lt : ∀ (l : List Int) (i : Nat) (h : i < l.length), i < rdK l → 128 ≤ l[i]
  | [], i, h, _ => by simp at h
  | b :: r, i, h, hi => by
    by_cases hb : 128 ≤ b
    · simp only [rdK, hb, if_true] at hi
      match i, h, hi with
      | 0, _, _ => simpa using hb
      | i + 1, h, hi => simpa using rdK_lt r i (by simpa using h) (by omega)
    · simp [rdK, hb] at hi

theorem valL_nonneg {l : List Int} (_h : B8 l) : 0 ≤ valL l := by
  induction l with
  | nil => simp [valL]
  | cons b r ih =>
    simp only [valL]
    have := ih (fun x hx => _h x (List.mem_cons_of_mem _ hx))
    omega
theorem valL_snoc : ∀ (l : List Int) (b : Int), valL (l ++ [b]) = valL l + (b % 128) * 128 ^ l.length
  | [], b => by simp [valL]
  | a :: r, b => by
    simp only [List.cons_append, valL, valL_snoc r b, List.length_cons]
    rw [Int.pow_succ, Int.mul_add, ← Int.mul_assoc, ← Int.mul_assoc]
    rw [show (128 : Int) * (b % 128) * 128 ^ r.length = b % 128 * 128 ^ r.length * 128 by
      rw [Int.mul_comm 128 (b % 128), Int.mul_assoc, Int.mul_assoc, Int.mul_comm 128]]
    omega
theorem valL_lt : ∀ (l : List Int), valL l < 128 ^ l.length
  | [] => by simp [valL]
  | b :: r => by
    simp only [valL, List.length_cons, Int.pow_succ]
    have := valL_lt r
    omega
theorem wraps_i64_63 (n : Int) (h₀ : 0 ≤ n) (h₁ : n < 2 ^ 63) : IntKind.i64.wrap n = n := by rw [IntKind.wrap_i64]; omega
/-- One more group of seven bits, laid above those that are there. -/
theorem or_group (v x : Int) (j : Nat) (hj : j ≤ 8) (hv0 : 0 ≤ v) (hv : v < 128 ^ j) (hx0 : 0 ≤ x) (hx : x < 128) : bits .or .i64 v (wrap64 (x * 2 ^ (7 * j))) = v + x * 128 ^ j := by
  have e : (128 : Int) ^ j = 2 ^ (7 * j) := by rw [Int.pow_mul]; rfl
  rw [e] at hv ⊢
  have hc : j = 0 ∨ j = 1 ∨ j = 2 ∨ j = 3 ∨ j = 4 ∨ j = 5 ∨ j = 6 ∨ j = 7 ∨ j = 8 := by omega
  have hw : wrap64 (x * 2 ^ (7 * j)) = x * 2 ^ (7 * j) := by
    unfold wrap64
    rcases hc with rfl | rfl | rfl | rfl | rfl | rfl | rfl | rfl | rfl <;> omega
  rw [hw]
  refine bits_join_low .i64 63 (by decide) wraps_i64_63 (7 * j) v _ hv0 hv ?_ ?_ (Int.mul_emod_left _ _) ?_
  all_goals rcases hc with rfl | rfl | rfl | rfl | rfl | rfl | rfl | rfl | rfl <;> omega
/-- The same, as the round of the loop says it. -/
theorem or_take {l : List Int} (b : B8 l) (j : Nat) (hj : j < l.length) (h8 : j ≤ 8) : bits .or .i64 (valL (l.take j)) (wrap64 (l[j] % 128 * 2 ^ (7 * j))) = valL (l.take (j + 1)) := by
  have h0 := valL_nonneg (b.take j)
  have h1 := valL_lt (l.take j)
  rw [List.length_take, Nat.min_eq_left (by omega)] at h1
  have := b.get j hj
  rw [or_group _ _ j h8 h0 h1 (by omega) (by omega), List.take_succ_eq_append_getElem hj, valL_snoc, List.length_take, Nat.min_eq_left (by omega)]
/-- All ahead of j go on. -/
def Cont (l : List Int) (j : Nat) : Prop := ∀ i, (h : i < l.length) → i < j → 128 ≤ l[i]
theorem Cont.zero (l : List Int) : Cont l 0 := fun i _ hi => by omega
theorem Cont.step {l : List Int} {j : Nat} (h : Cont l j) (hj : j < l.length) (hb : 128 ≤ l[j]) : Cont l (j + 1) := fun i hi hij => by
  by_cases e : i = j
  · subst e; exact hb
  · exact h i hi (by omega)
theorem rd_at {l : List Int} {j : Nat} (hj : j < l.length) (hc : Cont l j) (h : l[j] < 128) (h9 : j < 9) (hz : j = 0 ∨ l[j] ≠ 0) : rdC l = 0 ∧ rdV l = valL (l.take (j + 1)) ∧ rdZ l = j + 1 := by
  have hk := rdK_eq l j hj hc h
  have hg : rdGood l := by
    refine ⟨by omega, by omega, ?_⟩
    simp only [hk]
    exact hz
  have := rd_good hg
  rw [hk] at this
  exact this
theorem rd_zero {l : List Int} {j : Nat} (hj : j < l.length) (hc : Cont l j) (h : l[j] = 0) (h0 : 0 < j) : rdC l = 5 ∧ rdV l = 0 ∧ rdZ l = 0 := by
  have hk := rdK_eq l j hj hc (by omega)
  apply rd_bad
  rintro ⟨a, _, c⟩
  simp only [hk] at c
  omega
theorem rd_end {l : List Int} {j : Nat} (hj : j ≤ l.length) (hc : Cont l j) (h : j = l.length ∨ 9 ≤ j) : rdC l = 5 ∧ rdV l = 0 ∧ rdZ l = 0 := by
  have hk := rdK_ge l j hj hc
  apply rd_bad
  rintro ⟨a, b, _⟩
  omega
theorem or_take0 {l : List Int} (b : B8 l) (j : Nat) (hj : j < l.length) (h8 : j ≤ 8) (hz : l[j] = 0) : bits .or .i64 (valL (l.take j)) (wrap64 0) = valL (l.take (j + 1)) := by
  have := or_take b j hj h8
  rw [hz] at this
  simpa using this
/-- The last byte of a number that is not 0 is not 0. -/
theorem putL_last : ∀ (f : Nat) (q : Int), 1 ≤ q → q.toNat ≤ f → ∀ x, (putL q).getLast? = some x → x ≠ 0
  | 0, q, h, hf, _, _ => by omega
  | f + 1, q, h, hf, x, hx => by
    by_cases hq : q < 128
    · rw [putL_small hq] at hx
      simp at hx
      omega
    · rw [putL_big (by omega), List.getLast?_cons_of_ne_nil (by have := putL_pos (q / 128); intro e; rw [e] at this; simp at this)] at hx
      exact putL_last f (q / 128) (by omega) (by omega) x hx
/-- All but the last go on; the last does not. -/
def Form : List Int → Prop
  | [] => False
  | [b] => 0 ≤ b ∧ b < 128
  | b :: r => 128 ≤ b ∧ b < 256 ∧ Form r
theorem Form.nonneg : ∀ {m : List Int}, Form m → 0 ≤ valL m
  | [], h => h.elim
  | [b], h => by simp only [valL]; omega
  | b :: c :: r, h => by have := Form.nonneg h.2.2; simp only [valL] at this ⊢; omega
theorem Form.pos : ∀ {m : List Int}, Form m → (∀ x, m.getLast? = some x → x ≠ 0) → 1 ≤ valL m
  | [], h, _ => h.elim
  | [b], h, hx => by
    have := hx b (by simp)
    simp only [valL]
    have h1 := h.1
    have h2 := h.2
    omega
  | b :: c :: r, h, hx => by
    have := Form.pos h.2.2 (fun x hh => hx x (by rw [List.getLast?_cons_of_ne_nil (by simp)]; exact hh))
    simp only [valL] at this ⊢
    omega
theorem Form.put : ∀ {m : List Int}, Form m → (m.length = 1 ∨ ∀ x, m.getLast? = some x → x ≠ 0) → putL (valL m) = m
  | [], h, _ => h.elim
  | [b], h, _ => by
    have h1 := h.1
    have h2 := h.2
    have e : valL [b] = b := by simp only [valL]; omega
    rw [e, putL_small h2]
  | b :: c :: r, h, hx => by
    have h1 := h.1
    have h2 := h.2.1
    have hl : ∀ x, (c :: r).getLast? = some x → x ≠ 0 := by
      rcases hx with hx | hx
      · simp at hx
      · exact fun x hh => hx x (by rw [List.getLast?_cons_of_ne_nil (by simp)]; exact hh)
    have hp := Form.pos h.2.2 hl
    have ih := Form.put h.2.2 (.inr hl)
    have e : valL (b :: c :: r) = b % 128 + 128 * valL (c :: r) := by simp only [valL]
    rw [e, putL_big (by omega), show (b % 128 + 128 * valL (c :: r)) / 128 = valL (c :: r) by omega, ih]
    congr 1
    omega
theorem Form.put_not {m : List Int} (h : Form m) (h1 : 1 < m.length) (hz : m.getLast? = some 0) : putL (valL m) ≠ m := by
  intro e
  by_cases h0 : 1 ≤ valL m
  · exact putL_last _ _ h0 (Nat.le_refl _) 0 (by rw [e]; exact hz) rfl
  · have hv : valL m = 0 := by have := h.nonneg; omega
    rw [hv, putL_small (by omega)] at e
    rw [← e] at h1
    simp at h1
theorem Form.of_take : ∀ (l : List Int) (j : Nat) (hj : j < l.length), B8 l → Cont l j → l[j] < 128 → Form (l.take (j + 1))
  | [], j, hj, _, _, _ => by simp at hj
  | b :: r, 0, _, h8, _, hl => by
    have := h8 b (by simp)
    simp at hl
    simp [Form]
    omega
  | b :: r, j + 1, hj, h8, hc, hl => by
    have h0 := hc 0 (by simp) (by omega)
    have h1 := h8 b (by simp)
    have ih := Form.of_take r j (by simpa using hj) (fun x hx => h8 x (List.mem_cons_of_mem _ hx)) (fun i hi hij => by have := hc (i + 1) (by simpa using hi) (by omega); simpa using this) (by simpa using hl)
    match r, hj, ih with
    | [], hj, _ => simp at hj
    | c :: r, _, ih => simp only [List.take_succ_cons] at ih ⊢; exact ⟨by simpa using h0, h1.2, ih⟩
theorem last_take (l : List Int) (j : Nat) (hj : j < l.length) : (l.take (j + 1)).getLast? = some l[j] := by
  rw [List.take_succ_eq_append_getElem hj, List.getLast?_concat]
/-- What is read is what was put, just if the bytes are those that a number is put into. -/
theorem rd_put {l : List Int} {j : Nat} (hj : j < l.length) (h8 : B8 l) (hc : Cont l j) (hl : l[j] < 128) (hz : j = 0 ∨ l[j] ≠ 0) : putL (valL (l.take (j + 1))) = l.take (j + 1) := by
  refine (Form.of_take l j hj h8 hc hl).put ?_
  rcases hz with rfl | hz
  · exact .inl (by simp; omega)
  · right
    intro x hx
    rw [last_take l j hj] at hx
    simp at hx
    omega
theorem rd_put_not {l : List Int} {j : Nat} (hj : j < l.length) (h8 : B8 l) (hc : Cont l j) (h0 : 0 < j) (hz : l[j] = 0) : putL (valL (l.take (j + 1))) ≠ l.take (j + 1) :=
  (Form.of_take l j hj h8 hc (by omega)).put_not (by simp; omega) (by rw [last_take l j hj, hz])
/-- What the bytes from q to j make. -/
def segV (l : List Int) (j q : Nat) : Int := valL ((l.take (j + 1)).drop q)
theorem segV_end (l : List Int) (j : Nat) : segV l j (j + 1) = 0 := by
  unfold segV
  rw [List.drop_of_length_le (by simp; omega)]
  rfl
theorem segV_all (l : List Int) (j : Nat) : segV l j 0 = valL (l.take (j + 1)) := by simp [segV]
theorem segV_step (l : List Int) (j q : Nat) (hj : j < l.length) (hq : q ≤ j) : segV l j q = segV l j (q + 1) * 128 + l[q] % 128 := by
  unfold segV
  rw [List.drop_eq_getElem_cons (by simp; omega)]
  simp only [valL, List.getElem_take]
  omega
theorem segV_nonneg {l : List Int} (b : B8 l) (j q : Nat) : 0 ≤ segV l j q := valL_nonneg ((b.take _).drop _)
theorem pow128_le {a b : Nat} (h : a ≤ b) : (128 : Int) ^ a ≤ 128 ^ b := by
  have := Nat.pow_le_pow_right (show 0 < 128 by omega) h
  exact_mod_cast this
theorem segV_lt (l : List Int) (j q : Nat) (hj : j ≤ 8) (hq : 1 ≤ q) : segV l j q < 72057594037927936 := by
  have h1 := valL_lt ((l.take (j + 1)).drop q)
  have h2 : ((l.take (j + 1)).drop q).length ≤ 8 := by simp; omega
  have h3 := pow128_le h2
  unfold segV
  omega
theorem segV_max {l : List Int} (b : B8 l) (j : Nat) (hj : j ≤ 8) (hl : j < l.length) : segV l j 0 ≤ 9223372036854775807 := by
  have h0 : segV l j 0 = segV l j 1 * 128 + l[0] % 128 := segV_step l j 0 hl (by omega)
  have h1 := segV_lt l j 1 hj (by omega)
  have h2 := b.get 0 (by omega)
  omega
end Go.Proofs.YtmdaianbhpppfaaDoor
