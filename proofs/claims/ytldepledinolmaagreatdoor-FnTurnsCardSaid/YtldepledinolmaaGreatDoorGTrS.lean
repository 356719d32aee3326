/- Contracts of the exact laws' own helpers on slices of slices of events: measured, copied, compared. Contracts of TraceFault, in the program and in its model. -/
import Derived.Test.YtldepledinolmaaGreatDoorGEv
import Derived.Test.YtldepledinolmaaGreatDoorGBase
namespace Go.Proofs.YtldepledinolmaaGreatDoor
open Go.RowKit

theorem info_events : (Tryz.prog.info? 78).map (fun i => (i.zero, i.size, i.bytes)) = some (some (.slice none 0 0), 1, 24) := by kernel_rfl

set_option maxHeartbeats 400000 in
theorem szEventSS_fit (t : List (List Ev)) (A : Option Addr) (c m : Nat) (w : World) (hs : t.length + sumT t ≤ m) (hm : m ≤ 1048576) (h : RdT w w.heap.size A t) :
    Calls Tryz.prog 19 #[.slice A t.length c, .int .i64 m] w fun e w' => e = .returned (.int .i64 ((m - t.length - sumT t : Nat) : Int)) ∧ w = w' := by
  go_enter Tryz.func19, Tryz.ntmps19
  go_wp2
  go_loop [1, 5] (fun q i => ∃ k l : Nat, k ≤ t.length ∧ i = .int .i64 k ∧ q = .int .i64 l ∧ l ≤ 1048576 ∧ l = m - t.length - sumT t + sumT (t.drop k)) (fun _ i => t.length - (intOf i).toNat)
  case atStart => exact ⟨0, m - t.length, Nat.zero_le _, rfl, by go_num, by omega, by simp; omega⟩
  case round =>
    obtain ⟨k, l, hk, rfl, rfl, h2, hl⟩ := hrel
    by_cases hlt : k < t.length
    · obtain ⟨b, off, a, c', rfl, hbb, hc0, hle, hcm, hr⟩ := h.get hlt
      have hd := sumT_drop t k hlt
      have h1 : t[k].length ≤ l := by omega
      have HL := hide hl
      have HD := hide hd
      clear hl hd
      go_wp2_with fail
      refine (szEventS_fit a t[k].length c' l _ h1 h2).mono ?_
      rintro e w' ⟨rfl, rfl⟩
      go_wp2
      go_round
      case rel => exact ⟨k + 1, l - t[k].length, by omega, by go_num, rfl, by omega, by have := HL.out; have := HD.out; omega⟩
      case measure => simp [intOf]; omega
    · have hd := sumT_end hlt
      go_wp2
      go_ret
      exact ⟨ret_int (by omega), rfl⟩

/-- A result of at most minus one, or whatever. -/
def Neg1 (w : World) (e : Ending) (w' : World) : Prop := e = .returned (.int .i64 (-1)) ∧ w = w'
set_option maxHeartbeats 400000 in
theorem szEventSS_not (t : List (List Ev)) (A : Option Addr) (c m : Nat) (w : World) (hs : m < t.length + sumT t) (hm : m ≤ 1048576) (hl : t.length ≤ maxLen) (h : RdT w w.heap.size A t) :
    Calls Tryz.prog 19 #[.slice A t.length c, .int .i64 m] w (Neg1 w) := by
  unfold maxLen at hl
  by_cases h0 : t.length ≤ m
  · go_enter Tryz.func19, Tryz.ntmps19
    go_wp2
    go_loop [1, 5] (fun q i => ∃ k l : Nat, k ≤ t.length ∧ i = .int .i64 k ∧ q = .int .i64 l ∧ l ≤ 1048576 ∧ l < sumT (t.drop k)) (fun _ i => t.length - (intOf i).toNat)
    case atStart => exact ⟨0, m - t.length, Nat.zero_le _, rfl, by go_num, by omega, by simp; omega⟩
    case round =>
      obtain ⟨k, l, hk, rfl, rfl, hl, hls⟩ := hrel
      by_cases hlt : k < t.length
      · obtain ⟨b, off, a, c', rfl, hbb, hc0, hle, hcm, hr⟩ := h.get hlt
        have hd := sumT_drop t k hlt
        by_cases h1 : t[k].length ≤ l
        · have HD := hide hd
          clear hd
          go_wp2_with fail
          refine (szEventS_fit a t[k].length c' l _ h1 hl).mono ?_
          rintro e w' ⟨rfl, rfl⟩
          go_wp2
          go_round
          case rel => exact ⟨k + 1, l - t[k].length, by omega, by go_num, rfl, by omega, by have := HD.out; omega⟩
          case measure => simp [intOf]; omega
        · clear hd
          go_wp2_with fail
          refine (szEventS_not a t[k].length c' l _ (by omega) hl (by omega)).mono ?_
          rintro e w' ⟨rfl, rfl⟩
          go_wp2
          go_ret
          exact ⟨rfl, rfl⟩
      · have hd := sumT_end hlt
        exact absurd hls (by omega)
  · go_enter Tryz.func19, Tryz.ntmps19
    go_wp2
    go_ret
    exact ⟨rfl, rfl⟩

set_option maxRecDepth 100000 in
set_option maxHeartbeats 400000 in
theorem eqEventSS_same (t : List (List Ev)) (A A' : Option Addr) (c c' : Nat) (w : World) (hm : t.length ≤ maxLen) (h : RdT w w.heap.size A t) (h' : RdT w w.heap.size A' t) :
    Calls Tryz.prog 21 #[.slice A t.length c, .slice A' t.length c'] w fun e w' => e = .returned (.bool true) ∧ Below w.heap.size w w' := by
  unfold maxLen at hm
  go_enter Tryz.func21, Tryz.ntmps21
  go_wp2
  go_loopw [5] (fun i wr => ∃ k : Nat, k ≤ t.length ∧ i = .int .i64 k ∧ Below w.heap.size w wr) (fun i _ => t.length - (intOf i).toNat)
  case atStart => exact ⟨0, Nat.zero_le _, rfl, Below.refl _ _⟩
  case round =>
    obtain ⟨k, hk, rfl, hb⟩ := hrel
    by_cases hlt : k < t.length
    · obtain ⟨b, off, a, d, rfl, hbb, hc0, hle, hcm, hr⟩ := (h.below hb).get hlt
      obtain ⟨b', off', a', d', rfl, hbb', hd0, hle', hdm, hr'⟩ := (h'.below hb).get hlt
      go_wp2
      go_still_tail 8, (by kernel_rfl)
      change wpList _ _ _ _ _ wr.drew
      generalize hw2 : wr.drew = w2
      have hb2 : Below w.heap.size w w2 := by rw [← hw2]; exact hb.drew
      have hr2 : RdE w2 w.heap.size a t[k] := by rw [← hw2]; exact hr
      have hr2' : RdE w2 w.heap.size a' t[k] := by rw [← hw2]; exact hr'
      clear hw2
      go_wp2_with fail
      refine (eqEventS_same t[k] _ _ _ _ _ (by omega) hr2.lt hr2'.lt).mono ?_
      rintro e w3 ⟨rfl, hb3⟩
      have hb4 := hb2.trans (hb3.mono hb2.size)
      go_wp2
      go_roundw
      case rel => exact ⟨k + 1, by omega, by go_num, hb4⟩
      case measure => simp [intOf]; omega
    · go_wp2
      go_ret
      exact ⟨rfl, hb⟩

/-- After k rounds of a copy. -/
def HalfT (w wr : World) (t : List (List Ev)) (k : Nat) (vs : List Value) : Prop :=
  ∀ i, i < k → (h : i < t.length) → ∃ a c, vs[i]? = some (.slice a t[i].length c) ∧ t[i].length ≤ c ∧ c ≤ maxLen ∧ RdE wr wr.heap.size a t[i] ∧ ∀ x, a = some x → w.heap.size < x.block
set_option maxRecDepth 100000 in
set_option maxHeartbeats 400000 in
theorem toEventSS_any (t : List (List Ev)) (A : Option Addr) (c : Nat) (w : World) (hm : LenT 1048576 t) (h : RdT w w.heap.size A t) :
    Calls Tryz.prog 20 #[.slice A t.length c] w fun e w' => ∃ g, e = .returned (.slice (some ⟨g, 0, none⟩) t.length t.length) ∧ RdT w' w'.heap.size (some ⟨g, 0, none⟩) t ∧ Below w.heap.size w w' := by
  obtain ⟨hm1, hm2⟩ := hm
  obtain ⟨i0, hi, hz0, hz1, hz2⟩ := info_parts info_events
  go_enter Tryz.func20, Tryz.ntmps20
  go_wp2_with (at_make; refine wpList_make_full _ rfl _ _ 24 rfl w.heap.size 78 i0 (.slice none 0 0) 1 Tryz.underlying24 hi hz0 hz1 .i64 .i64 _ _ t.length rfl rfl rfl rfl (by rw [hz2]; omega) (by unfold maxLen; omega) (Nat.le_refl _) ?_; intro w1 hown hg)
  have hb1 : Below w.heap.size w w1 := (Below.refl _ _).grown hg (Nat.le_refl _) (by simp)
  clear hg
  go_loopw [4] (fun i wr => ∃ (k : Nat) (vs : List Value), k ≤ t.length ∧ i = .int .i64 k ∧ wr.ownsRow w.heap.size 78 1 (.slice (some ⟨w.heap.size, 0, none⟩) t.length t.length) t.length vs ∧ HalfT w wr t k vs ∧ Below w.heap.size w wr) (fun i _ => t.length - (intOf i).toNat)
  case atStart => exact ⟨0, _, Nat.zero_le _, rfl, hown, fun i hi => by omega, hb1⟩
  case round =>
    obtain ⟨k, vs, hk, rfl, ho, hH, hb⟩ := hrel
    have hlen : vs.length = t.length := by have := ho.1; omega
    by_cases hlt : k < t.length
    · obtain ⟨b, off, a, d, rfl, hbb, hc0, hle, hcm, hr⟩ := (h.below hb).get hlt
      have hz : w.heap.size < wr.heap.size := (ho.lt w.heap.size rfl).2
      go_wp2_with fail
      refine (toEventS_any t[k] a d _ (hm2 k hlt) hr.lt).mono ?_
      rintro e w2 ⟨g2, rfl, o2, hb2⟩
      have hb3 := hb.trans (hb2.mono hb.size)
      have ho2 := own_below ho hb2 (Nat.le_refl _)
      have hf0 := ho2.frozenAt k
      obtain ⟨v0, hx0⟩ : ∃ v, w2.cell? ⟨w.heap.size, k, none⟩ = some v := by
        rw [ho2.cellAt k (by omega)]
        exact ⟨_, List.getElem?_eq_getElem (by omega)⟩
      have hs := (ho2.stored k (.slice (some ⟨g2, 0, none⟩) t[k].length t[k].length)).1
      have hg2 := o2.lt g2 rfl
      have hH2 : HalfT w (w2.setCell ⟨w.heap.size, k, none⟩ (.slice (some ⟨g2, 0, none⟩) t[k].length t[k].length)) t (k + 1) (vs.set k (.slice (some ⟨g2, 0, none⟩) t[k].length t[k].length)) := by
        intro i hi hit
        by_cases hik : i = k
        · subst hik
          refine ⟨some ⟨g2, 0, none⟩, t[i].length, by rw [List.getElem?_set_self (by omega)], Nat.le_refl _, by omega, ?_, fun x hx => by cases hx; simp only; omega⟩
          exact (RdE.far (RdE.of_own o2) _ _ (fun x hx => by cases hx; simp only; omega)).lt
        · obtain ⟨a1, c1, q1, q2, q3, q4, q5⟩ := hH i (by omega) hit
          refine ⟨a1, c1, by rw [List.getElem?_set_ne (by omega)]; exact q1, q2, q3, ?_, q5⟩
          exact (RdE.far (q4.below hb2) _ _ (fun x hx => by have := q5 x hx; simp only; omega)).lt
      have HS := hide hs
      have HH := hide hH2
      clear ho2 ho hs hH2 o2 hH
      go_wp2
      go_roundw
      case rel => exact ⟨k + 1, _, by omega, by go_num, HS.out, HH.out, hb3.setCell (Nat.le_refl _) _⟩
      case measure => simp [intOf]; omega
    · go_wp2
      go_ret
      refine ⟨_, rfl, ?_, hb⟩
      intro h0
      refine ⟨w.heap.size, 0, rfl, (ho.lt w.heap.size rfl).2, fun i hi => ?_⟩
      obtain ⟨a1, c1, q1, q2, q3, q4, _⟩ := hH i (by omega) hi
      refine ⟨a1, c1, ?_, q2, q3, q4⟩
      rw [Nat.zero_add, ho.cellAt i (by omega)]
      exact q1
end Go.Proofs.YtldepledinolmaaGreatDoor
namespace Go.Proofs.YtldepledinolmaaGreatDoor
open Go.RowKit

theorem trF_few {t : List (List Ev)} (h : 1 ≤ t.length ∧ t.length ≤ 4) : trF t = stsF t := if_pos h
theorem trF_many {t : List (List Ev)} (h : ¬ (1 ≤ t.length ∧ t.length ≤ 4)) : trF t = 2 := if_neg h

set_option maxRecDepth 100000 in
set_option maxHeartbeats 400000 in
theorem implTrF_any (t : List (List Ev)) (A : Option Addr) (c : Nat) (w : World) (hm : t.length ≤ maxLen) (h : RdT w w.heap.size A t) :
    Calls Tryz.prog 58 #[.slice A t.length c] w fun e w' => e = .returned (.int .i64 (trF t)) ∧ Below w.heap.size w w' := by
  unfold maxLen at hm
  by_cases h14 : 1 ≤ (t.length : Int) ∧ (t.length : Int) ≤ 4
  · have HF := hide (trF_few (t := t) (by omega))
    go_enter Tryz.func58, Tryz.ntmps58
    go_wp2_with fail
    refine (allWithin_one _ _ _ _ _ _ (by simp [go_sem]) h14).mono ?_
    rintro e w' ⟨rfl, rfl⟩
    go_wp2
    go_loopw [13] (fun i wr => ∃ k : Nat, k ≤ t.length ∧ i = .int .i64 k ∧ Below w.heap.size w wr ∧ Hid (stsF t = stsF (t.drop k))) (fun i _ => t.length - (intOf i).toNat)
    case atStart => exact ⟨0, Nat.zero_le _, rfl, (Below.refl _ _).alloc (Nat.le_refl _) _, hide rfl⟩
    case round =>
      obtain ⟨k, hk, rfl, hb, HR⟩ := hrel
      by_cases hlt : k < t.length
      · obtain ⟨b, off, a, d, rfl, hbb, hc0, hle, hcm, hr⟩ := (h.below hb).get hlt
        have IM := hide (fun W => implStF_any t[k] a d W (by omega))
        by_cases h0 : stF t[k] = 0
        · have HN := hide (stsF_next hlt h0)
          rw [h0] at IM
          clear h0
          go_wp2_with fail
          refine (IM.out _ hr.lt).mono ?_
          rintro e w2 ⟨rfl, hb2⟩
          have hb3 := hb.trans (hb2.mono hb.size)
          go_wp2
          go_roundw
          case rel => exact ⟨k + 1, by omega, by go_num, hb3, hide (HR.out.trans HN.out)⟩
          case measure => simp [intOf]; omega
        · have HN := hide (stsF_stop hlt h0)
          obtain ⟨F, hF⟩ : ∃ F, F = stF t[k] := ⟨_, rfl⟩
          rw [← hF] at h0 HN IM
          have f0 : (F != 0) = true := bne_iff_ne.2 h0
          have f1 : (F == 0) = false := beq_eq_false_iff_ne.2 h0
          clear h0 hF
          go_wp2_with fail
          refine (IM.out _ hr.lt).mono ?_
          rintro e w2 ⟨rfl, hb2⟩
          have hb3 := hb.trans (hb2.mono hb.size)
          go_wp2
          go_ret
          exact ⟨ret_int (by rw [HF.out, HR.out, HN.out]), hb3⟩
      · have HN := hide (stsF_end hlt)
        go_wp2
        go_ret
        exact ⟨ret_int (by rw [HF.out, HR.out, HN.out]), hb⟩
  · rw [trF_many (by omega)]
    have h14' : (t.length : Int) < 1 ∨ 4 < (t.length : Int) := by omega
    clear h14
    go_enter Tryz.func58, Tryz.ntmps58
    go_wp2_with fail
    refine (allWithin_not _ _ _ _ _ _ (by simp [go_sem]) h14').mono ?_
    rintro e w' ⟨rfl, rfl⟩
    go_wp2
    go_ret
    exact ⟨rfl, by go_grown⟩

set_option maxRecDepth 100000 in
set_option maxHeartbeats 400000 in
theorem specTrF_any (t : List (List Ev)) (A : Option Addr) (c : Nat) (w : World) (hm : t.length ≤ maxLen) (h : RdT w w.heap.size A t) :
    Calls Tryz.prog 66 #[.slice A t.length c] w fun e w' => e = .returned (.int .i64 (trF t)) ∧ Below w.heap.size w w' := by
  unfold maxLen at hm
  by_cases h14 : 1 ≤ (t.length : Int) ∧ (t.length : Int) ≤ 4
  · have HF := hide (trF_few (t := t) (by omega))
    obtain ⟨h1, h4⟩ := h14
    go_enter Tryz.func66, Tryz.ntmps66
    go_wp2
    go_loopw [15] (fun i wr => ∃ k : Nat, k ≤ t.length ∧ i = .int .i64 k ∧ Below w.heap.size w wr ∧ Hid (stsF t = stsF (t.drop k))) (fun i _ => t.length - (intOf i).toNat)
    case atStart => exact ⟨0, Nat.zero_le _, rfl, Below.refl _ _, hide rfl⟩
    case round =>
      obtain ⟨k, hk, rfl, hb, HR⟩ := hrel
      by_cases hlt : k < t.length
      · obtain ⟨b, off, a, d, rfl, hbb, hc0, hle, hcm, hr⟩ := (h.below hb).get hlt
        have IM := hide (fun W => specStF_any t[k] a d W (by omega))
        by_cases h0 : stF t[k] = 0
        · have HN := hide (stsF_next hlt h0)
          rw [h0] at IM
          clear h0
          go_wp2_with fail
          refine (IM.out _ hr.lt).mono ?_
          rintro e w2 ⟨rfl, hb2⟩
          have hb3 := hb.trans (hb2.mono hb.size)
          go_wp2
          go_roundw
          case rel => exact ⟨k + 1, by omega, by go_num, hb3, hide (HR.out.trans HN.out)⟩
          case measure => simp [intOf]; omega
        · have HN := hide (stsF_stop hlt h0)
          obtain ⟨F, hF⟩ : ∃ F, F = stF t[k] := ⟨_, rfl⟩
          rw [← hF] at h0 HN IM
          have f0 : (F != 0) = true := bne_iff_ne.2 h0
          have f1 : (F == 0) = false := beq_eq_false_iff_ne.2 h0
          clear h0 hF
          go_wp2_with fail
          refine (IM.out _ hr.lt).mono ?_
          rintro e w2 ⟨rfl, hb2⟩
          have hb3 := hb.trans (hb2.mono hb.size)
          go_wp2
          go_ret
          exact ⟨ret_int (by rw [HF.out, HR.out, HN.out]), hb3⟩
      · have HN := hide (stsF_end hlt)
        go_wp2
        go_ret
        exact ⟨ret_int (by rw [HF.out, HR.out, HN.out]), hb⟩
  · rw [trF_many (by omega)]
    by_cases h1 : 1 ≤ t.length
    · have h4 : 4 < t.length := by omega
      clear h14
      go_enter Tryz.func66, Tryz.ntmps66
      go_wp2
      go_ret
      exact ⟨rfl, Below.refl _ _⟩
    · have h4 : t.length < 1 := by omega
      clear h14
      go_enter Tryz.func66, Tryz.ntmps66
      go_wp2
      go_ret
      exact ⟨rfl, Below.refl _ _⟩
end Go.Proofs.YtldepledinolmaaGreatDoor
