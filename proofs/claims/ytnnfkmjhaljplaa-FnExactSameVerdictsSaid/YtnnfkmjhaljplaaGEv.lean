/- Contracts of ZigZag, ZagZig and of what they call, in the program and in its model. Contracts of EventFault, in the program and in its model, and of the exact laws' helpers on one event. Contracts of the exact laws' own helpers on byte rows: copied, compared. Contracts of the exact laws' own helpers on slices of events: measured, copied, compared. Contracts of StepsFault, in the program and in its model. -/
import Derived.Test.YtnnfkmjhaljplaaChecked
import Derived.Test.YtnnfkmjhaljplaaGBase
import Derived.ProofKit
import Derived.OpenShut
import Derived.Handy
import Derived.Outline
import Derived.BigQuiet
import Derived.Deep.QuietTactic
import Derived.WalkLawsBesides
import Derived.Lib.Hide
import Derived.WalkSmall
import Derived.OwnWalk
import Derived.StillTailTactics
namespace Go.Proofs.Ytnnfkmjhaljplaa
open Go.RowKit

/-- One number within its bounds, as the program asks it. -/
theorem allWithin_one (b : Nat) (c : Nat) (lo hi n : Int) (w : World) (hc : w.cell? ⟨b, 0, none⟩ = some (.int .i64 n)) (hin : lo ≤ n ∧ n ≤ hi) :
    Calls Try.prog 51 #[.int .i64 lo, .int .i64 hi, .slice (some ⟨b, 0, none⟩) 1 c] w fun e w' => e = .returned (.bool true) ∧ w = w' := by
  obtain ⟨h1, h2⟩ := hin
  go_enter Try.func51, Try.ntmps51
  go_wp2
  go_loop [11] (fun i => ∃ j : Nat, j ≤ 1 ∧ i = .int .i64 j) (fun i => 1 - (intOf i).toNat)
  case atStart => exact ⟨0, by omega, rfl⟩
  case round =>
    obtain ⟨j, hj, rfl⟩ := hrel
    by_cases h0 : j = 0
    · subst h0
      go_wp2
      go_round
      case rel => exact ⟨1, by omega, rfl⟩
      case measure => simp [intOf]
    · obtain rfl : j = 1 := by omega
      go_wp2
      go_ret
      exact ⟨rfl, rfl⟩
theorem allWithin_not (b : Nat) (c : Nat) (lo hi n : Int) (w : World) (hc : w.cell? ⟨b, 0, none⟩ = some (.int .i64 n)) (hin : n < lo ∨ hi < n) :
    Calls Try.prog 51 #[.int .i64 lo, .int .i64 hi, .slice (some ⟨b, 0, none⟩) 1 c] w fun e w' => e = .returned (.bool false) ∧ w = w' := by
  rcases hin with hin | hin
  · go_enter Try.func51, Try.ntmps51
    go_wp2
    refine wp_loop_rounds 1 ?_
    rw [rounds_succ]
    go_wp2
    go_ret
    exact ⟨rfl, rfl⟩
  · by_cases h : n < lo
    · go_enter Try.func51, Try.ntmps51
      go_wp2
      refine wp_loop_rounds 1 ?_
      rw [rounds_succ]
      go_wp2
      go_ret
      exact ⟨rfl, rfl⟩
    · go_enter Try.func51, Try.ntmps51
      go_wp2
      refine wp_loop_rounds 1 ?_
      rw [rounds_succ]
      go_wp2
      go_ret
      exact ⟨rfl, rfl⟩

end Go.Proofs.Ytnnfkmjhaljplaa
namespace Go.Proofs.Ytnnfkmjhaljplaa
open Go.RowKit

/-- An event as a value. -/
abbrev evV (k a v : Int) : Value := .agg #[.int .i64 k, .int .i64 a, .int .i64 v]

theorem implEvF_any (k a v : Int) (w : World) :
    Calls Try.prog 77 #[evV k a v] w fun e w' => e = .returned (.int .i64 (evF ⟨k, a, v⟩)) ∧ Below w.heap.size w w' := by
  by_cases hk : k = 0 ∨ k = 1
  · by_cases ha : 0 ≤ a ∧ a ≤ 999999
    · by_cases hv : 0 ≤ v ∧ v ≤ 999999
      · rw [evF_ok (e := ⟨k, a, v⟩) hk (by simp only; omega)]
        rcases hk with rfl | rfl
        all_goals
          go_enter Try.func77, Try.ntmps77
          go_wp2_with fail
          refine (allWithin_one _ _ _ _ _ _ (by simp [go_sem]) ha).mono ?_
          rintro e w' ⟨rfl, rfl⟩
          go_wp2_with fail
          refine (allWithin_one _ _ _ _ _ _ (by simp [go_sem]) hv).mono ?_
          rintro e w' ⟨rfl, rfl⟩
          go_wp2
          go_ret
          exact ⟨rfl, by go_grown⟩
      · rw [evF_range (e := ⟨k, a, v⟩) hk (by simp only; omega)]
        have hv' : v < 0 ∨ 999999 < v := by omega
        clear hv
        rcases hk with rfl | rfl
        all_goals
          go_enter Try.func77, Try.ntmps77
          go_wp2_with fail
          refine (allWithin_one _ _ _ _ _ _ (by simp [go_sem]) ha).mono ?_
          rintro e w' ⟨rfl, rfl⟩
          go_wp2_with fail
          refine (allWithin_not _ _ _ _ _ _ (by simp [go_sem]) hv').mono ?_
          rintro e w' ⟨rfl, rfl⟩
          go_wp2
          go_ret
          exact ⟨rfl, by go_grown⟩
    · rw [evF_range (e := ⟨k, a, v⟩) hk (by simp only; omega)]
      have ha' : a < 0 ∨ 999999 < a := by omega
      clear ha
      rcases hk with rfl | rfl
      all_goals
        go_enter Try.func77, Try.ntmps77
        go_wp2_with fail
        refine (allWithin_not _ _ _ _ _ _ (by simp [go_sem]) ha').mono ?_
        rintro e w' ⟨rfl, rfl⟩
        go_wp2
        go_ret
        exact ⟨rfl, by go_grown⟩
  · rw [evF_form (e := ⟨k, a, v⟩) hk]
    have k0 : (k == 0) = false := beq_eq_false_iff_ne.2 (by omega)
    have k1 : (k == 1) = false := beq_eq_false_iff_ne.2 (by omega)
    have k2 : (k != 0) = true := bne_iff_ne.2 (by omega)
    have k3 : (k != 1) = true := bne_iff_ne.2 (by omega)
    clear hk
    go_enter Try.func77, Try.ntmps77
    go_wp2
    go_ret
    exact ⟨rfl, by go_grown⟩

theorem l1In_yes (n lo hi : Int) (w : World) (h : lo ≤ n ∧ n ≤ hi) :
    Calls Try.prog 56 #[.int .i64 n, .int .i64 lo, .int .i64 hi] w fun e w' => e = .returned (.bool true) ∧ w = w' := by
  obtain ⟨h1, h2⟩ := h
  go_enter Try.func56, Try.ntmps56
  go_wp2
  go_ret
  exact ⟨ret_bool (by simp), rfl⟩
theorem l1In_no (n lo hi : Int) (w : World) (h : n < lo ∨ hi < n) :
    Calls Try.prog 56 #[.int .i64 n, .int .i64 lo, .int .i64 hi] w fun e w' => e = .returned (.bool false) ∧ w = w' := by
  by_cases h1 : lo ≤ n
  · have h2 : hi < n := by omega
    clear h
    go_enter Try.func56, Try.ntmps56
    go_wp2
    go_ret
    exact ⟨ret_bool (by simp; omega), rfl⟩
  · clear h
    go_enter Try.func56, Try.ntmps56
    go_wp2
    go_ret
    exact ⟨rfl, rfl⟩

theorem specEvF_any (k a v : Int) (w : World) :
    Calls Try.prog 83 #[evV k a v] w fun e w' => e = .returned (.int .i64 (evF ⟨k, a, v⟩)) ∧ Below w.heap.size w w' := by
  by_cases hk : k = 0 ∨ k = 1
  · by_cases ha : 0 ≤ a ∧ a ≤ 999999
    · by_cases hv : 0 ≤ v ∧ v ≤ 999999
      · rw [evF_ok (e := ⟨k, a, v⟩) hk (by simp only; omega)]
        rcases hk with rfl | rfl
        all_goals
          go_enter Try.func83, Try.ntmps83
          go_wp2_with fail
          refine (l1In_yes _ _ _ _ ha).mono ?_
          rintro e w' ⟨rfl, rfl⟩
          go_wp2_with fail
          refine (l1In_yes _ _ _ _ hv).mono ?_
          rintro e w' ⟨rfl, rfl⟩
          go_wp2
          go_ret
          exact ⟨rfl, by go_grown⟩
      · rw [evF_range (e := ⟨k, a, v⟩) hk (by simp only; omega)]
        have hv' : v < 0 ∨ 999999 < v := by omega
        clear hv
        rcases hk with rfl | rfl
        all_goals
          go_enter Try.func83, Try.ntmps83
          go_wp2_with fail
          refine (l1In_yes _ _ _ _ ha).mono ?_
          rintro e w' ⟨rfl, rfl⟩
          go_wp2_with fail
          refine (l1In_no _ _ _ _ hv').mono ?_
          rintro e w' ⟨rfl, rfl⟩
          go_wp2
          go_ret
          exact ⟨rfl, by go_grown⟩
    · rw [evF_range (e := ⟨k, a, v⟩) hk (by simp only; omega)]
      have ha' : a < 0 ∨ 999999 < a := by omega
      clear ha
      rcases hk with rfl | rfl
      all_goals
        go_enter Try.func83, Try.ntmps83
        go_wp2_with fail
        refine (l1In_no _ _ _ _ ha').mono ?_
        rintro e w' ⟨rfl, rfl⟩
        go_wp2
        go_ret
        exact ⟨rfl, by go_grown⟩
  · rw [evF_form (e := ⟨k, a, v⟩) hk]
    have k0 : (k == 0) = false := beq_eq_false_iff_ne.2 (by omega)
    have k1 : (k == 1) = false := beq_eq_false_iff_ne.2 (by omega)
    have k2 : (k != 0) = true := bne_iff_ne.2 (by omega)
    have k3 : (k != 1) = true := bne_iff_ne.2 (by omega)
    clear hk
    go_enter Try.func83, Try.ntmps83
    go_wp2
    go_ret
    exact ⟨rfl, by go_grown⟩

theorem toEvent_any (k a v : Int) (w : World) :
    Calls Try.prog 119 #[evV k a v] w fun e w' => e = .returned (evV k a v) ∧ Below w.heap.size w w' := by
  go_enter Try.func119, Try.ntmps119
  go_wp2
  refine bodyPost_ret (v := evV k a v) (by simp [results, Try.results119, go_sem]) rfl ?_
  exact ⟨rfl, by go_grown⟩

theorem eqEvent_same (k a v : Int) (w : World) :
    Calls Try.prog 121 #[evV k a v, evV k a v] w fun e w' => e = .returned (.bool true) ∧ Below w.heap.size w w' := by
  go_enter Try.func121, Try.ntmps121
  go_wp2
  go_ret
  exact ⟨rfl, by go_grown⟩
end Go.Proofs.Ytnnfkmjhaljplaa
namespace Go.Proofs.Ytnnfkmjhaljplaa
open Go.RowKit

theorem info_u8 : (Try.prog.info? 5).map (fun i => (i.zero, i.size, i.bytes)) = some (some (.int .u8 0), 1, 1) := by kernel_rfl

set_option maxHeartbeats 400000 in
theorem eqByteS_same (l : List Int) (A A' : Option Addr) (c c' : Nat) (w : World) (hm : l.length ≤ maxLen) (h : Rd .u8 w w.heap.size A l) (h' : Rd .u8 w w.heap.size A' l) :
    Calls Try.prog 70 #[.slice A l.length c, .slice A' l.length c'] w fun e w' => e = .returned (.bool true) ∧ Below w.heap.size w w' := by
  unfold maxLen at hm
  go_enter Try.func70, Try.ntmps70
  go_wp2
  go_loopw [5] (fun i wr => ∃ k : Nat, k ≤ l.length ∧ i = .int .i64 k ∧ Below w.heap.size w wr) (fun i _ => l.length - (intOf i).toNat)
  case atStart => exact ⟨0, Nat.zero_le _, rfl, Below.refl _ _⟩
  case round =>
    obtain ⟨k, hk, rfl, hb⟩ := hrel
    by_cases hlt : k < l.length
    · obtain ⟨b, off, rfl, hbb, hc⟩ := (h.below hb).get hlt
      obtain ⟨b', off', rfl, hbb', hc'⟩ := (h'.below hb).get hlt
      go_wp2
      go_quiet (fail)
      go_wp2
      go_roundw
      case rel => exact ⟨k + 1, by omega, by go_num, below_drewN hb _⟩
      case measure => simp [intOf]; omega
    · go_wp2
      go_ret
      exact ⟨rfl, hb⟩

theorem set_append {α : Type} (p s : List α) (x y : α) : (p ++ y :: s).set p.length x = p ++ x :: s := by simp

/-- After k rounds of a copy: the first k are there, the rest as it was made. -/
def half (l : List Int) (k : Nat) : List Value := (l.take k).map (Value.int .u8) ++ List.replicate (l.length - k) (Value.int .u8 0)
theorem half_zero (l : List Int) : half l 0 = List.replicate l.length (Value.int .u8 0) := by simp [half]
theorem half_all (l : List Int) : half l l.length = l.map (Value.int .u8) := by simp [half]
theorem half_set (l : List Int) (k : Nat) (hk : k < l.length) : (half l k).set k (.int .u8 l[k]) = half l (k + 1) := by
  unfold half
  rw [show l.length - k = (l.length - (k + 1)) + 1 by omega, List.replicate_succ, List.take_succ_eq_append_getElem hk, List.map_append]
  have e : k = ((l.take k).map (Value.int IntKind.u8)).length := by simp; omega
  conv => lhs; arg 2; rw [e]
  rw [set_append]
  simp
theorem made_u8 (n : Nat) : (madeCells (Value.int .u8 0).cells (n * 1)).toList = List.replicate n (Value.int .u8 0) := by
  apply List.ext_getElem
  · simp [madeCells]
  · intro i h1 h2
    simp [madeCells, Value.cells, Nat.mod_one]

set_option maxHeartbeats 400000 in
theorem toByteS_any (l : List Int) (A : Option Addr) (c : Nat) (w : World) (hm : l.length ≤ 1048576) (h : Rd .u8 w w.heap.size A l) :
    Calls Try.prog 63 #[.slice A l.length c] w fun e w' => ∃ g, e = .returned (.slice (some ⟨g, 0, none⟩) l.length l.length) ∧ w'.ownsRow w.heap.size 5 1 (.slice (some ⟨g, 0, none⟩) l.length l.length) l.length (l.map (Value.int .u8)) ∧ Below w.heap.size w w' := by
  obtain ⟨i0, hi, hz0, hz1, hz2⟩ := info_parts info_u8
  go_enter Try.func63, Try.ntmps63
  go_wp2_with (at_make; refine wpList_make_full _ rfl _ _ 22 rfl w.heap.size 5 i0 (.int .u8 0) 1 Try.underlying22 hi hz0 hz1 .i64 .i64 _ _ l.length rfl rfl rfl rfl (by rw [hz2]; omega) (by unfold maxLen; omega) (Nat.le_refl _) ?_; intro w1 hown hg)
  rw [made_u8, ← half_zero] at hown
  have hb1 : Below w.heap.size w w1 := (Below.refl _ _).grown hg (Nat.le_refl _) (by simp)
  clear hg
  go_loopw [4] (fun i wr => ∃ k : Nat, k ≤ l.length ∧ i = .int .i64 k ∧ wr.ownsRow w.heap.size 5 1 (.slice (some ⟨w.heap.size, 0, none⟩) l.length l.length) l.length (half l k) ∧ Below w.heap.size w wr) (fun i _ => l.length - (intOf i).toNat)
  case atStart => exact ⟨0, Nat.zero_le _, rfl, hown, hb1⟩
  case round =>
    obtain ⟨k, hk, rfl, ho, hb⟩ := hrel
    by_cases hlt : k < l.length
    · obtain ⟨b, off, rfl, hbb, hc⟩ := (h.below hb).get hlt
      have hf := ho.frozenAt k
      obtain ⟨v, hx⟩ : ∃ v, wr.cell? ⟨w.heap.size, k, none⟩ = some v := by
        rw [ho.cellAt k (by omega)]
        exact ⟨_, List.getElem?_eq_getElem (by rw [ho.1]; omega)⟩
      have hs := ho.stored k (.int .u8 l[k])
      have HS := hide hs
      clear hs
      go_wp2
      go_roundw
      case rel =>
        refine ⟨k + 1, by omega, by go_num, ?_, hb.setCell (Nat.le_refl _) _⟩
        rw [← half_set l k hlt]
        exact HS.out.1
      case measure => simp [intOf]; omega
    · go_wp2
      go_ret
      obtain rfl : k = l.length := by omega
      rw [half_all] at ho
      exact ⟨_, rfl, ho, hb⟩
end Go.Proofs.Ytnnfkmjhaljplaa
namespace Go.Proofs.Ytnnfkmjhaljplaa
open Go.RowKit

theorem info_event : (Try.prog.info? 81).map (fun i => (i.zero, i.size, i.bytes)) = some (some (.agg #[.int .i64 0, .int .i64 0, .int .i64 0]), 3, 24) := by kernel_rfl

def zeroE : Ev := ⟨0, 0, 0⟩
theorem evs_zero : ∀ n : Nat, evs (List.replicate n zeroE) = List.replicate (n * 3) (.int .i64 0)
  | 0 => rfl
  | n + 1 => by
    rw [List.replicate_succ, evs, evs_zero n, show (n + 1) * 3 = n * 3 + 1 + 1 + 1 by omega, List.replicate_succ, List.replicate_succ, List.replicate_succ]
    rfl
theorem made_event (n : Nat) : (madeCells (Value.agg #[.int .i64 0, .int .i64 0, .int .i64 0]).cells (n * 3)).toList = List.replicate (n * 3) (Value.int .i64 0) := by
  apply List.ext_getElem
  · simp [madeCells]
  · intro i h1 h2
    simp only [madeCells, Value.cells, Array.getElem_toList, List.getElem_replicate]
    rcases (show i % 3 = 0 ∨ i % 3 = 1 ∨ i % 3 = 2 by omega) with h | h | h <;> simp [h]
/-- After k rounds of a copy: the first k are there, the rest as it was made. -/
def halfE (es : List Ev) (k : Nat) : List Value := evs (es.take k ++ List.replicate (es.length - k) zeroE)
theorem halfE_zero (es : List Ev) : halfE es 0 = List.replicate (es.length * 3) (Value.int .i64 0) := by simp [halfE, evs_zero]
theorem halfE_all (es : List Ev) : halfE es es.length = evs es := by simp [halfE]
theorem halfE_length (es : List Ev) (k : Nat) (hk : k ≤ es.length) : (halfE es k).length = es.length * 3 := by
  unfold halfE
  rw [evs_length, List.length_append, List.length_take, List.length_replicate]
  congr 1
  omega
theorem set3 {α : Type} (p s : List α) (a b c x y z : α) (n : Nat) (h : p.length = n) : (((p ++ a :: b :: c :: s).set n x).set (n + 1) y).set (n + 2) z = p ++ x :: y :: z :: s := by
  subst h
  simp
theorem halfE_set (es : List Ev) (k : Nat) (hk : k < es.length) : (((halfE es k).set (k * 3) (.int .i64 es[k].k)).set (k * 3 + 1) (.int .i64 es[k].a)).set (k * 3 + 2) (.int .i64 es[k].v) = halfE es (k + 1) := by
  unfold halfE
  rw [show es.length - k = (es.length - (k + 1)) + 1 by omega, List.replicate_succ, List.take_succ_eq_append_getElem hk, evs_append, evs_append, evs_append]
  simp only [evs]
  rw [set3 _ _ _ _ _ _ _ _ _ (by rw [evs_length, List.length_take]; omega)]
  simp

end Go.Proofs.Ytnnfkmjhaljplaa
namespace Go.Proofs.Ytnnfkmjhaljplaa
open Go.RowKit

set_option maxRecDepth 100000 in
set_option maxHeartbeats 400000 in
theorem implStF_any (es : List Ev) (A : Option Addr) (c : Nat) (w : World) (hm : es.length ≤ maxLen) (h : RdE w w.heap.size A es) :
    Calls Try.prog 86 #[.slice A es.length c] w fun e w' => e = .returned (.int .i64 (stF es)) ∧ Below w.heap.size w w' := by
  unfold maxLen at hm
  by_cases h8 : es.length ≤ 8
  · have HF := hide (stF_few h8)
    go_enter Try.func86, Try.ntmps86
    go_wp2
    go_loopw [11] (fun i wr => ∃ k : Nat, k ≤ es.length ∧ i = .int .i64 k ∧ Below w.heap.size w wr ∧ Hid (evsF es = evsF (es.drop k))) (fun i _ => es.length - (intOf i).toNat)
    case atStart => exact ⟨0, Nat.zero_le _, rfl, Below.refl _ _, hide rfl⟩
    case round =>
      obtain ⟨k, hk, rfl, hb, HR⟩ := hrel
      by_cases hlt : k < es.length
      · obtain ⟨b, off, rfl, hbb, hc0, hc1, hc2⟩ := (h.below hb).get hlt
        by_cases h0 : evF es[k] = 0
        · have IM := hide (fun W => (show Calls Try.prog 77 #[evV es[k].k es[k].a es[k].v] W _ from implEvF_any es[k].k es[k].a es[k].v W))
          have HN := hide (evsF_next hlt h0)
          rw [show evF ⟨es[k].k, es[k].a, es[k].v⟩ = 0 from h0] at IM
          clear h0
          go_wp2_with fail
          refine (IM.out _).mono ?_
          rintro e w2 ⟨rfl, hb2⟩
          have hb3 := hb.trans ((below_alloc hb2).mono hb.size)
          go_wp2
          go_roundw
          case rel => exact ⟨k + 1, by omega, by go_num, hb3, hide (HR.out.trans HN.out)⟩
          case measure => simp [intOf]; omega
        · have IM := hide (fun W => (show Calls Try.prog 77 #[evV es[k].k es[k].a es[k].v] W _ from implEvF_any es[k].k es[k].a es[k].v W))
          have HN := hide (evsF_stop hlt h0)
          obtain ⟨F, hF⟩ : ∃ F, F = evF es[k] := ⟨_, rfl⟩
          rw [← hF] at h0 HN
          rw [show evF ⟨es[k].k, es[k].a, es[k].v⟩ = F from hF.symm] at IM
          have f0 : (F != 0) = true := bne_iff_ne.2 h0
          have f1 : (F == 0) = false := beq_eq_false_iff_ne.2 h0
          clear h0 hF
          go_wp2_with fail
          refine (IM.out _).mono ?_
          rintro e w2 ⟨rfl, hb2⟩
          have hb3 := hb.trans ((below_alloc hb2).mono hb.size)
          go_wp2
          go_ret
          exact ⟨ret_int (by rw [HF.out, HR.out, HN.out]), hb3⟩
      · have HN := hide (evsF_end hlt)
        go_wp2
        go_ret
        exact ⟨ret_int (by rw [HF.out, HR.out, HN.out]), hb⟩
  · rw [stF_many h8]
    go_enter Try.func86, Try.ntmps86
    go_wp2
    go_ret
    exact ⟨rfl, Below.refl _ _⟩

set_option maxRecDepth 100000 in
set_option maxHeartbeats 400000 in
theorem specStF_any (es : List Ev) (A : Option Addr) (c : Nat) (w : World) (hm : es.length ≤ maxLen) (h : RdE w w.heap.size A es) :
    Calls Try.prog 91 #[.slice A es.length c] w fun e w' => e = .returned (.int .i64 (stF es)) ∧ Below w.heap.size w w' := by
  unfold maxLen at hm
  by_cases h8 : es.length ≤ 8
  · have HF := hide (stF_few h8)
    go_enter Try.func91, Try.ntmps91
    go_wp2
    go_loopw [10] (fun i wr => ∃ k : Nat, k ≤ es.length ∧ i = .int .i64 k ∧ Below w.heap.size w wr ∧ Hid (evsF es = evsF (es.drop k))) (fun i _ => es.length - (intOf i).toNat)
    case atStart => exact ⟨0, Nat.zero_le _, rfl, Below.refl _ _, hide rfl⟩
    case round =>
      obtain ⟨k, hk, rfl, hb, HR⟩ := hrel
      by_cases hlt : k < es.length
      · obtain ⟨b, off, rfl, hbb, hc0, hc1, hc2⟩ := (h.below hb).get hlt
        by_cases h0 : evF es[k] = 0
        · have IM := hide (fun W => (show Calls Try.prog 83 #[evV es[k].k es[k].a es[k].v] W _ from specEvF_any es[k].k es[k].a es[k].v W))
          have HN := hide (evsF_next hlt h0)
          rw [show evF ⟨es[k].k, es[k].a, es[k].v⟩ = 0 from h0] at IM
          clear h0
          go_wp2_with fail
          refine (IM.out _).mono ?_
          rintro e w2 ⟨rfl, hb2⟩
          have hb3 := hb.trans (hb2.mono hb.size)
          go_wp2
          go_roundw
          case rel => exact ⟨k + 1, by omega, by go_num, hb3, hide (HR.out.trans HN.out)⟩
          case measure => simp [intOf]; omega
        · have IM := hide (fun W => (show Calls Try.prog 83 #[evV es[k].k es[k].a es[k].v] W _ from specEvF_any es[k].k es[k].a es[k].v W))
          have HN := hide (evsF_stop hlt h0)
          obtain ⟨F, hF⟩ : ∃ F, F = evF es[k] := ⟨_, rfl⟩
          rw [← hF] at h0 HN
          rw [show evF ⟨es[k].k, es[k].a, es[k].v⟩ = F from hF.symm] at IM
          have f0 : (F != 0) = true := bne_iff_ne.2 h0
          have f1 : (F == 0) = false := beq_eq_false_iff_ne.2 h0
          clear h0 hF
          go_wp2_with fail
          refine (IM.out _).mono ?_
          rintro e w2 ⟨rfl, hb2⟩
          have hb3 := hb.trans (hb2.mono hb.size)
          go_wp2
          go_ret
          exact ⟨ret_int (by rw [HF.out, HR.out, HN.out]), hb3⟩
      · have HN := hide (evsF_end hlt)
        go_wp2
        go_ret
        exact ⟨ret_int (by rw [HF.out, HR.out, HN.out]), hb⟩
  · rw [stF_many h8]
    go_enter Try.func91, Try.ntmps91
    go_wp2
    go_ret
    exact ⟨rfl, Below.refl _ _⟩
end Go.Proofs.Ytnnfkmjhaljplaa
