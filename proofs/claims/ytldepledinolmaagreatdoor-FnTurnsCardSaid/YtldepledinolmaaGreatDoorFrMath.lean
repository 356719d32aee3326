/- Plain mathematics of frames. No function of the program is named here. -/
import Derived.Test.YtldepledinolmaaGreatDoorGFr2
import Derived.Test.YtldepledinolmaaGreatDoorFour
namespace Go.Proofs.YtldepledinolmaaGreatDoor
open Go.RowKit

/-- What stands ahead of a frame's sum. -/
def hdL (k : Int) (p : List Int) : List Int := ([66, k] ++ putL p.length) ++ p
/-- A frame's bytes. -/
def frL (k : Int) (p : List Int) : List Int := hdL k p ++ fourL (crcV (hdL k p))
noncomputable def frB (k : Int) (es : List Ev) : List Int := if frF k es = 0 then frL k (packL 0 es) else []
theorem frB_ok {k : Int} {es : List Ev} (h : frF k es = 0) : frB k es = frL k (packL 0 es) := if_pos h
theorem frB_bad {k : Int} {es : List Ev} (h : ¬ frF k es = 0) : frB k es = [] := if_neg h
theorem frF_zero {k : Int} {es : List Ev} (h : frF k es = 0) : 0 ≤ k ∧ k ≤ 3 ∧ 0 < es.length ∧ stF es = 0 := by
  by_cases hk : 0 ≤ k ∧ k ≤ 3
  · by_cases h0 : es.length = 0
    · rw [frF_none hk h0] at h; omega
    · rw [frF_in hk h0] at h; exact ⟨hk.1, hk.2, by omega, h⟩
  · rw [frF_out hk] at h; omega
theorem frF_of {k : Int} {es : List Ev} (h0 : 0 ≤ k) (h1 : k ≤ 3) (h2 : 0 < es.length) (h3 : stF es = 0) : frF k es = 0 := by
  rw [frF_in ⟨h0, h1⟩ (by omega)]; exact h3
theorem packL_len8 {es : List Ev} (h : stF es = 0) : (packL 0 es).length ≤ 144 := by
  have h1 := stF_zero h
  have := packL_len es 0 h1.2 (by omega)
  omega
theorem putL_short {q : Int} (h0 : 0 ≤ q) (h : q ≤ 144) : (putL q).length ≤ 2 := by
  by_cases h1 : q < 128
  · rw [putL_small h1]; simp
  · rw [putL_big (by omega), putL_small (by omega)]; simp
theorem hdL_len {k : Int} {p : List Int} (h : p.length ≤ 144) : (hdL k p).length ≤ 148 := by
  have := putL_short (q := (p.length : Int)) (by omega) (by omega)
  unfold hdL
  rw [List.length_append, List.length_append]
  simp only [List.length_cons, List.length_nil]
  omega
theorem hdL_B8 {k : Int} {p : List Int} (h0 : 0 ≤ k) (h1 : k ≤ 3) (b : B8 p) : B8 (hdL k p) := by
  unfold hdL
  refine (B8.append ?_ (putL_B8 _ _ (by omega) (Nat.le_refl _))).append b
  intro x hx
  simp at hx
  omega
theorem frL_len {k : Int} {p : List Int} (h : p.length ≤ 144) : (frL k p).length ≤ 152 := by
  have := hdL_len (k := k) h
  unfold frL
  rw [List.length_append, fourL_length]
  omega
theorem frL_B8 {k : Int} {p : List Int} (h0 : 0 ≤ k) (h1 : k ≤ 3) (b : B8 p) : B8 (frL k p) := by
  have := hdL_B8 h0 h1 b
  exact this.append (fourL_B8 (crcV_bd this))
theorem frB_len (k : Int) (es : List Ev) : (frB k es).length ≤ 152 := by
  by_cases h : frF k es = 0
  · rw [frB_ok h]; exact frL_len (packL_len8 (frF_zero h).2.2.2)
  · rw [frB_bad h]; simp
theorem frB_B8 (k : Int) (es : List Ev) : B8 (frB k es) := by
  by_cases h : frF k es = 0
  · rw [frB_ok h]
    obtain ⟨h0, h1, _, h3⟩ := frF_zero h
    exact frL_B8 h0 h1 (packL_B8 es 0 (stF_zero h3).2 (by omega))
  · rw [frB_bad h]; intro x hx; simp at hx

/-- Where a frame's events begin in data, and where its sum does. -/
noncomputable def frFrom (d : List Int) : Nat := 2 + (rdZ (d.drop 2)).toNat
noncomputable def frTo (d : List Int) : Nat := frFrom d + (rdV (d.drop 2)).toNat
/-- Data begins with what a frame is laid out as. -/
def frHd (d : List Int) : Prop := 2 ≤ d.length ∧ d.getD 0 0 = 66 ∧ d.getD 1 0 < 4 ∧ rdC (d.drop 2) = 0 ∧ 1 ≤ rdV (d.drop 2) ∧ rdV (d.drop 2) ≤ 200 ∧ frTo d + 4 ≤ d.length
noncomputable def frPay (d : List Int) : List Int := (d.take (frTo d)).drop (frFrom d)
def frSum (d : List Int) : Prop := fourL (crcV (d.take (frTo d))) = (d.drop (frTo d)).take 4
open Classical in
/-- The code of a reading. -/
noncomputable def frC (d : List Int) : Int := if frHd d then (if frSum d then (if unC (frPay d) = 0 then 0 else 1) else 6) else 5
open Classical in
noncomputable def frE (d : List Int) : List Ev := if frC d = 0 then unE (frPay d) else []
open Classical in
noncomputable def frK (d : List Int) : Int := if frC d = 0 then d.getD 1 0 else 0
open Classical in
noncomputable def frZ (d : List Int) : Int := if frC d = 0 then frTo d + 4 else 0
theorem frC_text {d : List Int} (h : ¬ frHd d) : frC d = 5 := if_neg h
theorem frC_sum {d : List Int} (h : frHd d) (h1 : ¬ frSum d) : frC d = 6 := by unfold frC; rw [if_pos h, if_neg h1]
theorem frC_form {d : List Int} (h : frHd d) (h1 : frSum d) (h2 : ¬ unC (frPay d) = 0) : frC d = 1 := by unfold frC; rw [if_pos h, if_pos h1, if_neg h2]
theorem frC_ok {d : List Int} (h : frHd d) (h1 : frSum d) (h2 : unC (frPay d) = 0) : frC d = 0 := by unfold frC; rw [if_pos h, if_pos h1, if_pos h2]
theorem frC_zero {d : List Int} (h : frC d = 0) : frHd d ∧ frSum d ∧ unC (frPay d) = 0 := by
  by_cases h0 : frHd d
  · by_cases h1 : frSum d
    · by_cases h2 : unC (frPay d) = 0
      · exact ⟨h0, h1, h2⟩
      · rw [frC_form h0 h1 h2] at h; omega
    · rw [frC_sum h0 h1] at h; omega
  · rw [frC_text h0] at h; omega
theorem frC_not {d : List Int} (h : ¬ frC d = 0) : frE d = [] ∧ frK d = 0 ∧ frZ d = 0 := ⟨if_neg h, if_neg h, if_neg h⟩
theorem frC_yes {d : List Int} (h : frC d = 0) : frE d = unE (frPay d) ∧ frK d = d.getD 1 0 ∧ frZ d = frTo d + 4 := ⟨if_pos h, if_pos h, if_pos h⟩
theorem frPay_len (d : List Int) (h : frHd d) : (frPay d).length = (rdV (d.drop 2)).toNat := by
  obtain ⟨h0, h1, h2, h3, h4, h5, h6⟩ := h
  unfold frPay
  rw [List.length_drop, List.length_take]
  unfold frTo at h6 ⊢
  omega
theorem frE_len {d : List Int} (b : B8 d) : (frE d).length ≤ 8 := by
  by_cases h : frC d = 0
  · rw [(frC_yes h).1]; exact unE_len ((b.take _).drop _)
  · rw [(frC_not h).1]; simp
end Go.Proofs.YtldepledinolmaaGreatDoor
