/- Numbers as texts: reading a word. -/
import Derived.Test.YtmdaianbhpppfaaDoorTx
import Derived.Lib.Hide
namespace Go.Proofs.YtmdaianbhpppfaaDoor
open Go.RowKit

theorem dgB_lt (base c : Int) : -1 ≤ dgB base c ∧ (0 ≤ dgB base c → dgB base c < base) := by
  unfold dgB dgV
  split
  · constructor
    · omega
    · intro h; omega
  · split
    · constructor
      · omega
      · intro; omega
    · split
      · constructor
        · omega
        · intro; omega
      · constructor
        · omega
        · intro h; omega
/-- What i signs are is small. -/
theorem numV_lt {base : Int} (hb : 0 ≤ base) (hb16 : base ≤ 16) {l : List Int} : ∀ (i : Nat), i ≤ l.length → 0 ≤ numV base 0 (l.take i) → numV base 0 (l.take i) < 16 ^ i
  | 0, _, _ => by simp [numV]
  | i + 1, hi, h => by
    by_cases h0 : numV base 0 (l.take i) < 0
    · have : l.take (i + 1) = l.take i ++ [l[i]] := List.take_succ_eq_append_getElem (by omega)
      rw [this, numV_bad hb _ _ h0] at h
      omega
    · have ih := numV_lt hb hb16 (l := l) i (by omega) (by omega)
      rw [numV_take hb (by omega) (by omega)] at h ⊢
      by_cases h1 : dgB base l[i] < 0
      · rw [if_pos h1] at h; omega
      · rw [if_neg h1]
        have h2 := (dgB_lt base l[i]).2 (by omega)
        have h3 : numV base 0 (l.take i) * base ≤ numV base 0 (l.take i) * 16 := Int.mul_le_mul_of_nonneg_left hb16 (by omega)
        rw [Int.pow_succ]
        omega

theorem numL_short {base : Int} {most : Nat} {l : List Int} (h : l.length < 1 ∨ most < l.length ∨ l.getD 0 0 = 48 ∧ 1 < l.length) : numL base most l = -1 := by unfold numL; rw [if_pos h]
theorem numL_long {base : Int} {most : Nat} {l : List Int} (h : ¬ (l.length < 1 ∨ most < l.length ∨ l.getD 0 0 = 48 ∧ 1 < l.length)) : numL base most l = numV base 0 l := by unfold numL; rw [if_neg h]

set_option maxRecDepth 100000 in
set_option maxHeartbeats 800000 in
theorem l5Number_any (l : List Int) (base : Int) (most : Nat) (w : World) (hb : 0 ≤ base) (hb16 : base ≤ 16) (hm : most ≤ 6) (b8 : B8 l) (hl : l.length ≤ maxLen) :
    Calls Tryd.prog 65 #[.string (strOfNums l), .int .i64 base, .int .i64 most] w fun e w' => e = .returned (.int .i64 (numL base most l)) ∧ w = w' := by
  unfold maxLen at hl
  have z0 := strOfNums_size l
  by_cases a : l.length < 1
  · rw [numL_short (.inl a)]
    go_enter Tryd.func65, Tryd.ntmps65
    go_wp2
    go_ret
    exact ⟨rfl, rfl⟩
  · by_cases b : most < l.length
    · rw [numL_short (.inr (.inl b))]
      go_enter Tryd.func65, Tryd.ntmps65
      go_wp2
      go_ret
      exact ⟨rfl, rfl⟩
    · have hG : l.getD 0 0 = l[0] := by simp [List.getD, show 0 < l.length by omega]
      have p1 := fun (k : IntKind) (w : World) => run_sget (P := Tryd.prog) Tryd.underlying9 b8 (i := 0) (by omega) k (z := 0) rfl w
      by_cases c : l[0] = 48 ∧ 1 < l.length
      · rw [numL_short (.inr (.inr (by rw [hG]; exact c)))]
        obtain ⟨c0, c1⟩ := c
        rw [c0] at p1
        go_enter Tryd.func65, Tryd.ntmps65
        go_wp2
        go_ret
        exact ⟨rfl, rfl⟩
      · have HE := hide (numL_long (base := base) (by rintro (h | h | h) <;> first | omega | (rw [hG] at h; exact c h)) : numL base most l = numV base 0 l)
        go_enter Tryd.func65, Tryd.ntmps65
        have c' : l[0] = 48 → ¬ 1 < l.length := fun h h' => c ⟨h, h'⟩
        clear c
        have s7 : l[0] ≠ 48 ∨ l[0] = 48 ∧ ¬ 1 < l.length := by
          by_cases h : l[0] = 48
          · exact .inr ⟨h, c' h⟩
          · exact .inl h
        rcases s7 with s7 | ⟨s7, s8⟩
        all_goals
          try rw [s7] at p1
          go_wp2
          clear p1 c' s7
          go_loop [7, 8] (fun v i => ∃ j : Nat, j ≤ l.length ∧ i = .int .i64 j ∧ v = .int .i64 (numV base 0 (l.take j)) ∧ 0 ≤ numV base 0 (l.take j)) (fun _ i => l.length - (intOf i).toNat)
          case atStart => exact ⟨0, by omega, rfl, rfl, by simp [numV]⟩
          case round =>
            obtain ⟨j, hj, rfl, rfl, hn⟩ := hrel
            have hlt := numV_lt hb hb16 j hj hn
            have hpow : (16 : Int) ^ j ≤ 16 ^ 6 := by
              have := Nat.pow_le_pow_right (n := 16) (by omega) (show j ≤ 6 by omega)
              exact_mod_cast this
            generalize hV : numV base 0 (l.take j) = V at hn hlt ⊢
            by_cases hj' : j < l.length
            · have p1 := fun (k : IntKind) (w : World) => run_sget (P := Tryd.prog) Tryd.underlying9 b8 (i := j) hj' k (z := j) rfl w
              have hg := b8.get j hj'
              have hT := numV_take hb hj' (by rw [hV]; exact hn)
              rw [hV] at hT
              obtain ⟨D, hD⟩ : ∃ D, D = dgB base l[j] := ⟨_, rfl⟩
              have hd := dgB_lt base l[j]
              have hC := fun w => l5Digit_any l[j] base w hg.1 hg.2
              rw [← hD] at hd hT
              simp only [← hD] at hC
              by_cases h0 : D < 0
              · rw [if_pos h0] at hT
                have HB := hide (numV_bad hb (l.drop (j + 1)) (l.take (j + 1)) (by rw [hT]; omega))
                go_wp2_with fail
                refine (hC _).mono ?_
                rintro e w2 ⟨rfl, rfl⟩
                go_wp2
                go_ret
                exact ⟨ret_int (by rw [HE.out, ← HB.out, List.take_append_drop]), rfl⟩
              · rw [if_neg h0] at hT
                have h3 : V * base ≤ V * 16 := Int.mul_le_mul_of_nonneg_left hb16 hn
                have h4 : 0 ≤ V * base := Int.mul_nonneg hn hb
                have h5 := hd.2 (by omega)
                have s1 : IntKind.i64.wrap (V * base) = V * base := IntWalk.i64_in _ (by omega)
                have s2 : IntKind.i64.wrap (V * base + D) = V * base + D := IntWalk.i64_in _ (by omega)
                have HT := hide hT
                clear hT hd hD
                go_wp2_with fail
                refine (hC _).mono ?_
                rintro e w2 ⟨rfl, rfl⟩
                go_wp2
                go_round
                case rel => exact ⟨j + 1, by omega, by go_num, by rw [HT.out], by rw [HT.out]; omega⟩
                case measure => simp [intOf]; omega
            · have e1 : l.take j = l := List.take_of_length_le (by omega)
              rw [e1] at hV
              go_wp2
              go_ret
              exact ⟨ret_int (by rw [HE.out, hV]), rfl⟩
end Go.Proofs.YtmdaianbhpppfaaDoor
