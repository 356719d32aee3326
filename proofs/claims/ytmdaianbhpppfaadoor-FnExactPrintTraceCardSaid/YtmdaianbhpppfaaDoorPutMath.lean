/- Plain mathematics of numbers in groups of seven bits. No program is named here. -/
import Derived.Test.YtmdaianbhpppfaaDoorBase
namespace Go.Proofs.YtmdaianbhpppfaaDoor

def putF : Nat → Int → List Int
  | 0, q => [q]
  | f + 1, q => if q < 128 then [q] else (q % 128 + 128) :: putF f (q / 128)
/-- The bytes of a number: groups of seven bits, the lowest ones first, 128 more in all but the last. -/
def putL (q : Int) : List Int := putF q.toNat q

theorem putF_ext : ∀ (f g : Nat) (q : Int), 0 ≤ q → q.toNat ≤ f → q.toNat ≤ g → putF f q = putF g q
  | 0, 0, _, _, _, _ => rfl
  | 0, g + 1, q, h0, h1, _ => by
    have : q < 128 := by omega
    simp [putF, this]
  | f + 1, 0, q, h0, _, h2 => by
    have : q < 128 := by omega
    simp [putF, this]
  | f + 1, g + 1, q, h0, h1, h2 => by
    by_cases h : q < 128
    · simp [putF, h]
    · simp only [putF, h, if_false]
      rw [putF_ext f g (q / 128) (by omega) (by omega) (by omega)]
theorem putL_small {q : Int} (h : q < 128) : putL q = [q] := by
  unfold putL
  rcases q.toNat with _ | f
  · rfl
  · simp [putF, h]
theorem putL_big {q : Int} (h : 128 ≤ q) : putL q = (q % 128 + 128) :: putL (q / 128) := by
  unfold putL
  obtain ⟨f, hf⟩ : ∃ f, q.toNat = f + 1 := ⟨q.toNat - 1, by omega⟩
  rw [hf]
  have h' : ¬ q < 128 := by omega
  simp only [putF, h', if_false]
  rw [putF_ext f (q / 128).toNat (q / 128) (by omega) (by omega) (by omega)]
theorem putL_pos (q : Int) : 0 < (putL q).length := by
  unfold putL
  rcases q.toNat with _ | f
  · simp [putF]
  · simp only [putF]; split <;> simp
theorem putL_len_step {B : Int} {k : Nat} (h : ∀ q : Int, 0 ≤ q → q < B → (putL q).length ≤ k) : ∀ q : Int, 0 ≤ q → q < 128 * B → (putL q).length ≤ k + 1 := by
  intro q h0 h1
  by_cases hq : q < 128
  · rw [putL_small hq]; simp
  · rw [putL_big (by omega)]
    have := h (q / 128) (by omega) (by omega)
    simpa using this
theorem putL_len {q : Int} (h0 : 0 ≤ q) (h1 : q ≤ 9223372036854775807) : (putL q).length ≤ 9 := by
  have a1 : ∀ q : Int, 0 ≤ q → q < 128 → (putL q).length ≤ 1 := fun q _ h => by rw [putL_small h]; simp
  have a2 := putL_len_step a1
  have a3 := putL_len_step a2
  have a4 := putL_len_step a3
  have a5 := putL_len_step a4
  have a6 := putL_len_step a5
  have a7 := putL_len_step a6
  have a8 := putL_len_step a7
  have a9 := putL_len_step a8
  exact a9 q h0 (by omega)
theorem putL_B8 : ∀ (f : Nat) (q : Int), 0 ≤ q → q.toNat ≤ f → B8 (putL q)
  | f, q, h0, hf => by
    by_cases hq : q < 128
    · rw [putL_small hq]; exact B8.one h0 (by omega)
    · rw [putL_big (by omega)]
      match f with
      | 0 => omega
      | f + 1 =>
        intro x hx
        rcases List.mem_cons.1 hx with rfl | hx
        · omega
        · exact putL_B8 f (q / 128) (by omega) (by omega) x hx
/-- The code and the bytes that a number is put into. -/
def putC (n : Int) : Int := if n < 0 then 3 else 0
def putB (n : Int) : List Int := if n < 0 then [] else putL n
theorem put_neg {n : Int} (h : n < 0) : putC n = 3 ∧ putB n = [] := ⟨if_pos h, if_pos h⟩
theorem put_pos {n : Int} (h : 0 ≤ n) : putC n = 0 ∧ putB n = putL n := ⟨if_neg (by omega), if_neg (by omega)⟩
theorem putB_len {n : Int} (h1 : n ≤ 9223372036854775807) : (putB n).length ≤ 9 := by
  by_cases h : n < 0
  · rw [(put_neg h).2]; simp
  · rw [(put_pos (by omega)).2]; exact putL_len (by omega) h1
theorem putB_B8 (n : Int) : B8 (putB n) := by
  by_cases h : n < 0
  · rw [(put_neg h).2]; intro x hx; simp at hx
  · rw [(put_pos (by omega)).2]; exact putL_B8 _ n (by omega) (Nat.le_refl _)
end Go.Proofs.YtmdaianbhpppfaaDoor
