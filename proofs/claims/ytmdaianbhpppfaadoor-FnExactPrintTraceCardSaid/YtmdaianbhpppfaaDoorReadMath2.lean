/- Plain mathematics: a number is read back from its bytes, whatever stands behind them. No program is named here. -/
import Derived.Test.YtmdaianbhpppfaaDoorReadMath
namespace Go.Proofs.YtmdaianbhpppfaaDoor

theorem putL_form : ∀ (f : Nat) (q : Int), 0 ≤ q → q.toNat ≤ f → Form (putL q) ∧ valL (putL q) = q
  | f, q, h0, hf => by
    by_cases hq : q < 128
    · rw [putL_small hq]
      refine ⟨⟨h0, hq⟩, ?_⟩
      simp only [valL]
      omega
    · rw [putL_big (by omega)]
      match f with
      | 0 => omega
      | f + 1 =>
        obtain ⟨h1, h2⟩ := putL_form f (q / 128) (by omega) (by omega)
        have hp := putL_pos (q / 128)
        match hm : putL (q / 128), h1, h2, hp with
        | [], _, _, hp => simp at hp
        | b :: r, h1, h2, _ =>
          refine ⟨⟨by omega, by omega, h1⟩, ?_⟩
          simp only [valL] at h2 ⊢
          omega
theorem rdK_app : ∀ (m r : List Int), Form m → rdK (m ++ r) + 1 = m.length
  | [], _, h => h.elim
  | [b], r, h => by
    have : ¬ 128 ≤ b := by have := h.2; omega
    simp [rdK, this]
  | b :: c :: t, r, h => by
    have ih := rdK_app (c :: t) r h.2.2
    have h0 := h.1
    simp only [List.cons_append, List.length_cons] at ih ⊢
    rw [rdK, if_pos h0]
    omega
/-- What is put is read, whatever stands behind it. -/
theorem rd_app (n : Int) (r : List Int) (h0 : 0 ≤ n) (h1 : n ≤ 9223372036854775807) : rdC (putL n ++ r) = 0 ∧ rdV (putL n ++ r) = n ∧ rdZ (putL n ++ r) = (putL n).length := by
  obtain ⟨hf, hv⟩ := putL_form _ n h0 (Nat.le_refl _)
  have hk := rdK_app (putL n) r hf
  have hl := putL_len h0 h1
  have hp := putL_pos n
  have hlast : n < 128 ∨ ∀ x, (putL n).getLast? = some x → x ≠ 0 := by
    by_cases h : n < 128
    · exact .inl h
    · exact .inr (putL_last _ n (by omega) (Nat.le_refl _))
  have hg : rdGood (putL n ++ r) := by
    refine ⟨by simp; omega, by omega, ?_⟩
    rcases hlast with h | h
    · left
      rw [putL_small h] at hk
      simp at hk
      rw [putL_small h]
      exact hk
    · right
      apply h
      rw [List.getElem_append_left (by omega), List.getLast?_eq_getElem?]
      rw [show (putL n).length - 1 = rdK (putL n ++ r) by omega]
      exact List.getElem?_eq_getElem (by omega)
  have := rd_good hg
  rw [hk, List.take_left] at this
  exact ⟨this.1, this.2.1.trans hv, by rw [this.2.2]; omega⟩
/-- What is read was put just so. -/
theorem rd_back {l : List Int} (b : B8 l) (h : rdC l = 0) : 1 ≤ rdZ l ∧ rdZ l ≤ l.length ∧ 0 ≤ rdV l ∧ rdV l ≤ 9223372036854775807 ∧ putL (rdV l) = l.take (rdZ l).toNat := by
  by_cases hg : rdGood l
  · obtain ⟨h1, h2, h3⟩ := hg
    have R := rd_good ⟨h1, h2, h3⟩
    have hc : Cont l (rdK l) := fun i hi hik => rdK_lt l i hi hik
    have hp := rd_put h1 b hc (rdK_at l h1) h3
    have hv := segV_max b (rdK l) (by omega) h1
    rw [segV_all] at hv
    rw [R.2.1, R.2.2]
    refine ⟨by omega, by omega, valL_nonneg (b.take _), hv, ?_⟩
    rw [show ((rdK l : Int) + 1).toNat = rdK l + 1 by omega]
    exact hp
  · rw [(rd_bad hg).1] at h
    omega
end Go.Proofs.YtmdaianbhpppfaaDoor
