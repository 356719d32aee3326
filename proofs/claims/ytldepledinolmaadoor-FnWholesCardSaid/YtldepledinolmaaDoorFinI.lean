/- The contract of the program's FramesIn. -/
import Derived.Test.YtldepledinolmaaDoorFilS2
namespace Go.Proofs.YtldepledinolmaaDoor
open Go.RowKit

theorem ceil_step {n b : Nat} (hb : 1 ≤ b) (h : 0 < n) : (n + b - 1) / b = 1 + ((n - b) + b - 1) / b := by
  by_cases hn : b ≤ n
  · rw [show n + b - 1 = (n - b + b - 1) + b by omega, Nat.add_div_right _ (by omega)]
    omega
  · rw [show n + b - 1 = (n - 1) + b by omega, Nat.add_div_right _ (by omega), Nat.div_eq_of_lt (by omega), show n - b + b - 1 = b - 1 by omega, Nat.div_eq_of_lt (by omega)]
theorem chop_count {b : Nat} (hb : 1 ≤ b) : ∀ (f : Nat) (es : List Ev), es.length ≤ f → (chop b f es).length = (es.length + b - 1) / b
  | 0, es, h => by
    have : es = [] := List.eq_nil_of_length_eq_zero (by omega)
    subst this
    simp only [chop, List.length_nil]
    rw [Nat.div_eq_of_lt (by omega)]
  | f + 1, [], _ => by
    simp only [chop, List.length_nil]
    rw [Nat.div_eq_of_lt (by omega)]
  | f + 1, e :: r, h => by
    have hl : ((e :: r).drop b).length ≤ f := by rw [List.length_drop]; simp only [List.length_cons] at h ⊢; omega
    unfold chop
    rw [List.length_cons, chop_count hb f _ hl, List.length_drop, ceil_step hb (n := (e :: r).length) (by simp), Nat.add_comm]
theorem chopA_count {b : Nat} (hb : 1 ≤ b) (es : List Ev) : (chopA b es).length = (es.length + b - 1) / b := chop_count hb _ _ (Nat.le_refl _)
theorem filN_le (b : Nat) (t : List (List Ev)) (k : Nat) : filN b (t.take k) ≤ filN b t := by
  induction t generalizing k with
  | nil => simp
  | cons l r ih =>
    rcases k with _ | k
    · simp [filN]
    · have := ih k
      simp only [List.take_succ_cons, filN]
      omega
theorem filN_snoc (b : Nat) (t : List (List Ev)) (l : List Ev) : filN b (t ++ [l]) = filN b t + (chopA b l).length := by
  induction t with
  | nil => simp [filN]
  | cons x r ih => simp only [List.cons_append, filN, ih]; omega
theorem filN_take (b : Nat) (t : List (List Ev)) (k : Nat) (h : k < t.length) : filN b (t.take (k + 1)) = filN b (t.take k) + (chopA b t[k]).length := by
  rw [List.take_succ_eq_append_getElem h, filN_snoc]
theorem quo_nat (n b : Nat) (hb : 1 ≤ b) : ((n : Int) + b - 1).tdiv b = ((n + b - 1) / b : Nat) := by
  rw [show ((n : Int) + b - 1) = ((n + b - 1 : Nat) : Int) by omega]
  exact Int.ofNat_tdiv ..

set_option maxRecDepth 100000 in
set_option maxHeartbeats 800000 in
theorem implFin_any (t : List (List Ev)) (b : Int) (A : Option Addr) (c : Nat) (w : World) (hm : t.length ≤ maxLen) (h : RdT w w.heap.size A t) :
    Calls Tryd.prog 25 #[.slice A t.length c, .int .i64 b] w fun e w' => e = .returned (.agg #[.int .i64 (fcC t b), .int .i64 (fcN t b)]) ∧ Below w.heap.size w w' := by
  obtain ⟨W, hW⟩ : ∃ W, W = w.alloc (Obj.cells #[Value.int .i64 0, .int .i64 0] 48) := ⟨_, rfl⟩
  have HW := hide hW
  have hR : RdT W W.heap.size A t := by subst hW; exact (h.alloc (Nat.le_refl _) _).lt
  clear hW h
  have TF := hide (implTrF_any t A c W hm hR)
  by_cases h0 : trF t = 0
  · rw [h0] at TF
    by_cases hb : 1 ≤ b ∧ b ≤ 8
    · obtain ⟨B, rfl⟩ := Int.eq_ofNat_of_zero_le (show 0 ≤ b by omega)
      have HB : fcN t (B : Int) = (filN B t : Nat) := by unfold fcN; rw [if_pos (fcC_in h0 hb)]; rfl
      rw [fcC_in h0 hb, HB]
      obtain ⟨ht1, ht4, hall⟩ := trF_zero h0
      have hfl := (filF_len (b := B) (by omega) 0 t hall).2
      have hsum := sumT_few hall
      have h8 : ∀ k (hk : k < t.length), t[k].length ≤ 8 := fun k hk => (stF_zero (hall _ (List.getElem_mem hk))).1
      have SN := hide (fun (k : Nat) (hk : k < t.length) => filN_take B t k hk)
      have SL := hide (fun (k : Nat) => filN_le B t k)
      have CN := hide (fun (k : Nat) (hk : k < t.length) => chopA_count (b := B) (by omega) t[k])
      have TE : t.take t.length = t := List.take_length
      clear h0 HB hall
      go_enter Tryd.func25, Tryd.ntmps25
      go_wp2_with fail
      rw [← HW.out]
      refine TF.out.mono ?_
      rintro e w1 ⟨rfl, b1⟩
      go_wp2_with fail
      refine (allWithin_one _ _ _ _ _ _ (by simp [go_sem]) hb).mono ?_
      rintro e w2 ⟨rfl, rfl⟩
      have b2 := b1.alloc b1.size (Obj.cells #[.int .i64 B] 2)
      go_wp2_with fail
      go_loopw [6, 22] (fun v i wr => ∃ k : Nat, k ≤ t.length ∧ i = .int .i64 k ∧ v = .int .i64 (filN B (t.take k) : Nat) ∧ Below W.heap.size W wr) (fun _ i _ => t.length - (intOf i).toNat)
      case atStart => exact ⟨0, Nat.zero_le _, rfl, rfl, b2⟩
      case round =>
        obtain ⟨k, hk, rfl, rfl, bk⟩ := hrel
        by_cases hlt : k < t.length
        · obtain ⟨g, off, a, d, rfl, hbb, hc0, hle, hcm, hr⟩ := (hR.below bk).get hlt
          have k8 := h8 k hlt
          have kN := SL.out k
          have sN := SN.out k hlt
          rw [CN.out k hlt] at sN
          have hq := quo_nat t[k].length B (by omega)
          have hd8 : (t[k].length + B - 1) / B ≤ 15 := Nat.le_trans (Nat.div_le_self _ _) (by omega)
          have hz : ((B : Int) == 0) = false := by simp; omega
          obtain ⟨n, hn⟩ : ∃ n, n = t[k].length := ⟨_, rfl⟩
          obtain ⟨q, hqq⟩ : ∃ q, q = (n + B - 1) / B := ⟨_, rfl⟩
          rw [← hn] at hc0 sN hq hd8 k8 hle
          rw [← hqq] at sN hq hd8
          clear hn hqq
          go_wp2
          go_roundw
          case rel => exact ⟨k + 1, by omega, by go_num, by rw [sN]; go_num, bk⟩
          case measure => simp [intOf]; omega
        · obtain rfl : k = t.length := by omega
          rw [TE]
          have q0 := W_cell HW.out bk 0
          have q1 := W_cell HW.out bk 1
          have f0 := W_frozen HW.out bk 0
          have f1 := W_frozen HW.out bk 1
          simp at q0 q1
          go_wp2
          refine bodyPost_ret (v := .agg #[.int .i64 0, .int .i64 (filN B t : Nat)]) (by simp [results, Tryd.results25, go_sem, q0, q1]) rfl ?_
          exact ⟨rfl, ((W_below HW.out bk).setCell (Nat.le_refl _) _).setCell (Nat.le_refl _) _⟩
    · have HB : fcN t b = 0 := if_neg (by rw [fcC_out h0 hb]; decide)
      rw [fcC_out h0 hb, HB]
      have hb' : b < 1 ∨ 8 < b := by omega
      clear h0 HB hb
      go_enter Tryd.func25, Tryd.ntmps25
      go_wp2_with fail
      rw [← HW.out]
      refine TF.out.mono ?_
      rintro e w1 ⟨rfl, b1⟩
      go_wp2_with fail
      refine (allWithin_not _ _ _ _ _ _ (by simp [go_sem]) hb').mono ?_
      rintro e w2 ⟨rfl, rfl⟩
      have b2 := b1.alloc b1.size (Obj.cells #[.int .i64 b] 2)
      have q0 := W_cell HW.out b2 0
      have q1 := W_cell HW.out b2 1
      have f0 := W_frozen HW.out b2 0
      have f1 := W_frozen HW.out b2 1
      simp at q0 q1
      go_wp2
      refine bodyPost_ret (v := .agg #[.int .i64 3, .int .i64 0]) (by simp [results, Tryd.results25, go_sem, q0, q1]) rfl ?_
      exact ⟨rfl, ((W_below HW.out b2).setCell (Nat.le_refl _) _).setCell (Nat.le_refl _) _⟩
  · have HB : fcN t b = 0 := if_neg (by rw [fcC_bad h0]; exact h0)
    rw [fcC_bad h0, HB]
    obtain ⟨F, hF⟩ : ∃ F, F = trF t := ⟨_, rfl⟩
    rw [← hF] at TF h0 ⊢
    have g0 : (F != 0) = true := bne_iff_ne.2 h0
    have g1 : (F == 0) = false := beq_eq_false_iff_ne.2 h0
    clear hF h0 HB
    go_enter Tryd.func25, Tryd.ntmps25
    go_wp2_with fail
    rw [← HW.out]
    refine TF.out.mono ?_
    rintro e w1 ⟨rfl, hb⟩
    have q0 := W_cell HW.out hb 0
    have q1 := W_cell HW.out hb 1
    have f0 := W_frozen HW.out hb 0
    have f1 := W_frozen HW.out hb 1
    simp at q0 q1
    go_wp2
    refine bodyPost_ret (v := .agg #[.int .i64 F, .int .i64 0]) (by simp [results, Tryd.results25, go_sem, q0, q1]) rfl ?_
    exact ⟨rfl, ((W_below HW.out hb).setCell (Nat.le_refl _) _).setCell (Nat.le_refl _) _⟩
end Go.Proofs.YtldepledinolmaaDoor
