/- Contracts of the exact laws' own helpers on slices of slices of events: measured, copied, compared. Contracts of TraceFault, in the program and in its model. -/
import Derived.Test.YtnnfkmjhaljplaaGEv
import Derived.Test.YtnnfkmjhaljplaaGBase
namespace Go.Proofs.Ytnnfkmjhaljplaa
open Go.RowKit

theorem info_events : (Try.prog.info? 79).map (fun i => (i.zero, i.size, i.bytes)) = some (some (.slice none 0 0), 1, 24) := by kernel_rfl

/-- A result of at most minus one, or whatever. -/
def Neg1 (w : World) (e : Ending) (w' : World) : Prop := e = .returned (.int .i64 (-1)) ∧ w = w'
/-- After k rounds of a copy. -/
def HalfT (w wr : World) (t : List (List Ev)) (k : Nat) (vs : List Value) : Prop :=
  ∀ i, i < k → (h : i < t.length) → ∃ a c, vs[i]? = some (.slice a t[i].length c) ∧ t[i].length ≤ c ∧ c ≤ maxLen ∧ RdE wr wr.heap.size a t[i] ∧ ∀ x, a = some x → w.heap.size < x.block
end Go.Proofs.Ytnnfkmjhaljplaa
namespace Go.Proofs.Ytnnfkmjhaljplaa
open Go.RowKit

theorem trF_few {t : List (List Ev)} (h : 1 ≤ t.length ∧ t.length ≤ 4) : trF t = stsF t := if_pos h
theorem trF_many {t : List (List Ev)} (h : ¬ (1 ≤ t.length ∧ t.length ≤ 4)) : trF t = 2 := if_neg h

set_option maxRecDepth 100000 in
set_option maxHeartbeats 400000 in
theorem implTrF_any (t : List (List Ev)) (A : Option Addr) (c : Nat) (w : World) (hm : t.length ≤ maxLen) (h : RdT w w.heap.size A t) :
    Calls Try.prog 41 #[.slice A t.length c] w fun e w' => e = .returned (.int .i64 (trF t)) ∧ Below w.heap.size w w' := by
  unfold maxLen at hm
  by_cases h14 : 1 ≤ (t.length : Int) ∧ (t.length : Int) ≤ 4
  · have HF := hide (trF_few (t := t) (by omega))
    go_enter Try.func41, Try.ntmps41
    go_wp2_with fail
    refine (allWithin_one _ _ _ _ _ _ (by simp [go_sem]) h14).mono ?_
    rintro e w' ⟨rfl, rfl⟩
    go_wp2
    go_loopw [13] (fun i wr => ∃ k : Nat, k ≤ t.length ∧ i = .int .i64 k ∧ Below w.heap.size w wr ∧ Hid (stsF t = stsF (t.drop k))) (fun i _ => t.length - (intOf i).toNat)
    case atStart => exact ⟨0, Nat.zero_le _, rfl, (Below.refl _ _).alloc (Nat.le_refl _) _, hide rfl⟩
    case round =>
      obtain ⟨k, hk, rfl, hb, HR⟩ := hrel
      by_cases hlt : k < t.length
      · obtain ⟨b, off, a, d, rfl, hbb, hc0, hle, hcm, hr⟩ := (h.below hb).get hlt
        have IM := hide (fun W => implStF_any t[k] a d W (by omega))
        by_cases h0 : stF t[k] = 0
        · have HN := hide (stsF_next hlt h0)
          rw [h0] at IM
          clear h0
          go_wp2_with fail
          refine (IM.out _ hr.lt).mono ?_
          rintro e w2 ⟨rfl, hb2⟩
          have hb3 := hb.trans (hb2.mono hb.size)
          go_wp2
          go_roundw
          case rel => exact ⟨k + 1, by omega, by go_num, hb3, hide (HR.out.trans HN.out)⟩
          case measure => simp [intOf]; omega
        · have HN := hide (stsF_stop hlt h0)
          obtain ⟨F, hF⟩ : ∃ F, F = stF t[k] := ⟨_, rfl⟩
          rw [← hF] at h0 HN IM
          have f0 : (F != 0) = true := bne_iff_ne.2 h0
          have f1 : (F == 0) = false := beq_eq_false_iff_ne.2 h0
          clear h0 hF
          go_wp2_with fail
          refine (IM.out _ hr.lt).mono ?_
          rintro e w2 ⟨rfl, hb2⟩
          have hb3 := hb.trans (hb2.mono hb.size)
          go_wp2
          go_ret
          exact ⟨ret_int (by rw [HF.out, HR.out, HN.out]), hb3⟩
      · have HN := hide (stsF_end hlt)
        go_wp2
        go_ret
        exact ⟨ret_int (by rw [HF.out, HR.out, HN.out]), hb⟩
  · rw [trF_many (by omega)]
    have h14' : (t.length : Int) < 1 ∨ 4 < (t.length : Int) := by omega
    clear h14
    go_enter Try.func41, Try.ntmps41
    go_wp2_with fail
    refine (allWithin_not _ _ _ _ _ _ (by simp [go_sem]) h14').mono ?_
    rintro e w' ⟨rfl, rfl⟩
    go_wp2
    go_ret
    exact ⟨rfl, by go_grown⟩

set_option maxRecDepth 100000 in
set_option maxHeartbeats 400000 in
theorem specTrF_any (t : List (List Ev)) (A : Option Addr) (c : Nat) (w : World) (hm : t.length ≤ maxLen) (h : RdT w w.heap.size A t) :
    Calls Try.prog 44 #[.slice A t.length c] w fun e w' => e = .returned (.int .i64 (trF t)) ∧ Below w.heap.size w w' := by
  unfold maxLen at hm
  by_cases h14 : 1 ≤ (t.length : Int) ∧ (t.length : Int) ≤ 4
  · have HF := hide (trF_few (t := t) (by omega))
    obtain ⟨h1, h4⟩ := h14
    go_enter Try.func44, Try.ntmps44
    go_wp2
    go_loopw [15] (fun i wr => ∃ k : Nat, k ≤ t.length ∧ i = .int .i64 k ∧ Below w.heap.size w wr ∧ Hid (stsF t = stsF (t.drop k))) (fun i _ => t.length - (intOf i).toNat)
    case atStart => exact ⟨0, Nat.zero_le _, rfl, Below.refl _ _, hide rfl⟩
    case round =>
      obtain ⟨k, hk, rfl, hb, HR⟩ := hrel
      by_cases hlt : k < t.length
      · obtain ⟨b, off, a, d, rfl, hbb, hc0, hle, hcm, hr⟩ := (h.below hb).get hlt
        have IM := hide (fun W => specStF_any t[k] a d W (by omega))
        by_cases h0 : stF t[k] = 0
        · have HN := hide (stsF_next hlt h0)
          rw [h0] at IM
          clear h0
          go_wp2_with fail
          refine (IM.out _ hr.lt).mono ?_
          rintro e w2 ⟨rfl, hb2⟩
          have hb3 := hb.trans (hb2.mono hb.size)
          go_wp2
          go_roundw
          case rel => exact ⟨k + 1, by omega, by go_num, hb3, hide (HR.out.trans HN.out)⟩
          case measure => simp [intOf]; omega
        · have HN := hide (stsF_stop hlt h0)
          obtain ⟨F, hF⟩ : ∃ F, F = stF t[k] := ⟨_, rfl⟩
          rw [← hF] at h0 HN IM
          have f0 : (F != 0) = true := bne_iff_ne.2 h0
          have f1 : (F == 0) = false := beq_eq_false_iff_ne.2 h0
          clear h0 hF
          go_wp2_with fail
          refine (IM.out _ hr.lt).mono ?_
          rintro e w2 ⟨rfl, hb2⟩
          have hb3 := hb.trans (hb2.mono hb.size)
          go_wp2
          go_ret
          exact ⟨ret_int (by rw [HF.out, HR.out, HN.out]), hb3⟩
      · have HN := hide (stsF_end hlt)
        go_wp2
        go_ret
        exact ⟨ret_int (by rw [HF.out, HR.out, HN.out]), hb⟩
  · rw [trF_many (by omega)]
    by_cases h1 : 1 ≤ t.length
    · have h4 : 4 < t.length := by omega
      clear h14
      go_enter Try.func44, Try.ntmps44
      go_wp2
      go_ret
      exact ⟨rfl, Below.refl _ _⟩
    · have h4 : t.length < 1 := by omega
      clear h14
      go_enter Try.func44, Try.ntmps44
      go_wp2
      go_ret
      exact ⟨rfl, Below.refl _ _⟩
end Go.Proofs.Ytnnfkmjhaljplaa
