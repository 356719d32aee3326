/- Contracts of the exact laws' own helpers on slices of ops: measured, copied, compared. Contracts of the exact laws' own helpers on slices of slices of ops: measured, copied, compared. -/
import Derived.Test.YtifijhfeeammkaaGEv
import Derived.StillTailTactics
import Derived.Lib.Hide
import Derived.Test.YtifijhfeeammkaaGTrS
namespace Go.Proofs.Ytifijhfeeammkaa
open Go.RowKit

theorem toOp_any (k a v : Int) (w : World) :
    Calls Try.prog 40 #[evV k a v] w fun e w' => e = .returned (evV k a v) ∧ Below w.heap.size w w' := by
  go_enter Try.func40, Try.ntmps40
  go_wp2
  refine bodyPost_ret (v := evV k a v) (by simp [results, Try.results40, go_sem]) rfl ?_
  exact ⟨rfl, by go_grown⟩

theorem eqOp_same (k a v : Int) (w : World) :
    Calls Try.prog 130 #[evV k a v, evV k a v] w fun e w' => e = .returned (.bool true) ∧ Below w.heap.size w w' := by
  go_enter Try.func130, Try.ntmps130
  go_wp2
  go_ret
  exact ⟨rfl, by go_grown⟩
theorem info_op : (Try.prog.info? 29).map (fun i => (i.zero, i.size, i.bytes)) = some (some (.agg #[.int .i64 0, .int .i64 0, .int .i64 0]), 3, 24) := by kernel_rfl

theorem szOpS_fit (A : Option Addr) (n c m : Nat) (w : World) (hm : n ≤ m) (h : m ≤ 1048576) :
    Calls Try.prog 97 #[.slice A n c, .int .i64 m] w fun e w' => e = .returned (.int .i64 ((m - n : Nat) : Int)) ∧ w = w' := by
  go_enter Try.func97, Try.ntmps97
  go_wp2
  go_ret
  exact ⟨ret_int (by omega), rfl⟩
theorem szOpS_not (A : Option Addr) (n c m : Nat) (w : World) (hm : m < n) (h : m ≤ 1048576) (hn : n ≤ maxLen) :
    Calls Try.prog 97 #[.slice A n c, .int .i64 m] w fun e w' => e = .returned (.int .i64 (-1)) ∧ w = w' := by
  unfold maxLen at hn
  go_enter Try.func97, Try.ntmps97
  go_wp2
  go_ret
  exact ⟨rfl, rfl⟩

set_option maxRecDepth 100000 in
set_option maxHeartbeats 400000 in
theorem eqOpS_same (es : List Ev) (A A' : Option Addr) (c c' : Nat) (w : World) (hm : es.length ≤ maxLen) (h : RdE w w.heap.size A es) (h' : RdE w w.heap.size A' es) :
    Calls Try.prog 99 #[.slice A es.length c, .slice A' es.length c'] w fun e w' => e = .returned (.bool true) ∧ Below w.heap.size w w' := by
  unfold maxLen at hm
  go_enter Try.func99, Try.ntmps99
  go_wp2
  go_loopw [5] (fun i wr => ∃ k : Nat, k ≤ es.length ∧ i = .int .i64 k ∧ Below w.heap.size w wr) (fun i _ => es.length - (intOf i).toNat)
  case atStart => exact ⟨0, Nat.zero_le _, rfl, Below.refl _ _⟩
  case round =>
    obtain ⟨k, hk, rfl, hb⟩ := hrel
    by_cases hlt : k < es.length
    · obtain ⟨b, off, rfl, hbb, hc0, hc1, hc2⟩ := (h.below hb).get hlt
      obtain ⟨b', off', rfl, hbb', hd0, hd1, hd2⟩ := (h'.below hb).get hlt
      go_wp2
      go_still_tail 8, (by kernel_rfl)
      change wpList _ _ _ _ _ wr.drew
      generalize hw2 : wr.drew = w2
      have hb2 : Below w.heap.size w w2 := by rw [← hw2]; exact hb.drew
      clear hw2
      go_wp2_with fail
      refine (eqOp_same _ _ _ _).mono ?_
      rintro e w3 ⟨rfl, hb3⟩
      have hb4 := hb2.trans (hb3.mono hb2.size)
      go_wp2
      go_roundw
      case rel => exact ⟨k + 1, by omega, by go_num, hb4⟩
      case measure => simp [intOf]; omega
    · go_wp2
      go_ret
      exact ⟨rfl, hb⟩

set_option maxRecDepth 100000 in
set_option maxHeartbeats 400000 in
theorem toOpS_any (es : List Ev) (A : Option Addr) (c : Nat) (w : World) (hm : es.length ≤ 1048576) (h : RdE w w.heap.size A es) :
    Calls Try.prog 98 #[.slice A es.length c] w fun e w' => ∃ g, e = .returned (.slice (some ⟨g, 0, none⟩) es.length es.length) ∧ w'.ownsRow w.heap.size 29 3 (.slice (some ⟨g, 0, none⟩) es.length es.length) es.length (evs es) ∧ Below w.heap.size w w' := by
  obtain ⟨i0, hi, hz0, hz1, hz2⟩ := info_parts info_op
  go_enter Try.func98, Try.ntmps98
  go_wp2_with (at_make; refine wpList_make_full _ rfl _ _ 147 rfl w.heap.size 29 i0 (.agg #[.int .i64 0, .int .i64 0, .int .i64 0]) 3 Try.underlying147 hi hz0 hz1 .i64 .i64 _ _ es.length rfl rfl rfl rfl (by rw [hz2]; omega) (by unfold maxLen; omega) (Nat.le_refl _) ?_; intro w1 hown hg)
  rw [made_event, ← halfE_zero] at hown
  have hb1 : Below w.heap.size w w1 := (Below.refl _ _).grown hg (Nat.le_refl _) (by simp)
  clear hg
  go_loopw [4] (fun i wr => ∃ k : Nat, k ≤ es.length ∧ i = .int .i64 k ∧ wr.ownsRow w.heap.size 29 3 (.slice (some ⟨w.heap.size, 0, none⟩) es.length es.length) es.length (halfE es k) ∧ Below w.heap.size w wr) (fun i _ => es.length - (intOf i).toNat)
  case atStart => exact ⟨0, Nat.zero_le _, rfl, hown, hb1⟩
  case round =>
    obtain ⟨k, hk, rfl, ho, hb⟩ := hrel
    by_cases hlt : k < es.length
    · obtain ⟨b, off, rfl, hbb, hc0, hc1, hc2⟩ := (h.below hb).get hlt
      go_wp2_with fail
      refine (toOp_any _ _ _ _).mono ?_
      rintro e w2 ⟨rfl, hb2⟩
      have hb3 := hb.trans (hb2.mono hb.size)
      have ho2 := own_below ho hb2 (Nat.le_refl _)
      have hlen := halfE_length es k hk
      have hf0 := ho2.frozenAt (k * 3)
      have hf1 := ho2.frozenAt (k * 3 + 1)
      have hf2 := ho2.frozenAt (k * 3 + 2)
      obtain ⟨v0, hx0⟩ : ∃ v, w2.cell? ⟨w.heap.size, k * 3, none⟩ = some v := by
        rw [ho2.cellAt (k * 3) (by omega)]
        exact ⟨_, List.getElem?_eq_getElem (by omega)⟩
      obtain ⟨v1, hx1⟩ : ∃ v, w2.cell? ⟨w.heap.size, k * 3 + 1, none⟩ = some v := by
        rw [ho2.cellAt (k * 3 + 1) (by omega)]
        exact ⟨_, List.getElem?_eq_getElem (by omega)⟩
      obtain ⟨v2, hx2⟩ : ∃ v, w2.cell? ⟨w.heap.size, k * 3 + 2, none⟩ = some v := by
        rw [ho2.cellAt (k * 3 + 2) (by omega)]
        exact ⟨_, List.getElem?_eq_getElem (by omega)⟩
      have HS := hide ((((ho2.stored (k * 3) (.int .i64 es[k].k)).1.stored (k * 3 + 1) (.int .i64 es[k].a)).1.stored (k * 3 + 2) (.int .i64 es[k].v)).1)
      clear ho2 ho hlen
      go_wp2
      go_roundw
      case rel =>
        refine ⟨k + 1, by omega, by go_num, ?_, ((hb3.setCell (Nat.le_refl _) _).setCell (Nat.le_refl _) _).setCell (Nat.le_refl _) _⟩
        rw [← halfE_set es k hlt]
        exact HS.out
      case measure => simp [intOf]; omega
    · go_wp2
      go_ret
      obtain rfl : k = es.length := by omega
      rw [halfE_all] at ho
      exact ⟨_, rfl, ho, hb⟩
end Go.Proofs.Ytifijhfeeammkaa
namespace Go.Proofs.Ytifijhfeeammkaa
open Go.RowKit

theorem info_ops : (Try.prog.info? 147).map (fun i => (i.zero, i.size, i.bytes)) = some (some (.slice none 0 0), 1, 24) := by kernel_rfl

set_option maxHeartbeats 400000 in
theorem szOpSS_fit (t : List (List Ev)) (A : Option Addr) (c m : Nat) (w : World) (hs : t.length + sumT t ≤ m) (hm : m ≤ 1048576) (h : RdT w w.heap.size A t) :
    Calls Try.prog 41 #[.slice A t.length c, .int .i64 m] w fun e w' => e = .returned (.int .i64 ((m - t.length - sumT t : Nat) : Int)) ∧ w = w' := by
  go_enter Try.func41, Try.ntmps41
  go_wp2
  go_loop [1, 5] (fun q i => ∃ k l : Nat, k ≤ t.length ∧ i = .int .i64 k ∧ q = .int .i64 l ∧ l ≤ 1048576 ∧ l = m - t.length - sumT t + sumT (t.drop k)) (fun _ i => t.length - (intOf i).toNat)
  case atStart => exact ⟨0, m - t.length, Nat.zero_le _, rfl, by go_num, by omega, by simp; omega⟩
  case round =>
    obtain ⟨k, l, hk, rfl, rfl, h2, hl⟩ := hrel
    by_cases hlt : k < t.length
    · obtain ⟨b, off, a, c', rfl, hbb, hc0, hle, hcm, hr⟩ := h.get hlt
      have hd := sumT_drop t k hlt
      have h1 : t[k].length ≤ l := by omega
      have HL := hide hl
      have HD := hide hd
      clear hl hd
      go_wp2_with fail
      refine (szOpS_fit a t[k].length c' l _ h1 h2).mono ?_
      rintro e w' ⟨rfl, rfl⟩
      go_wp2
      go_round
      case rel => exact ⟨k + 1, l - t[k].length, by omega, by go_num, rfl, by omega, by have := HL.out; have := HD.out; omega⟩
      case measure => simp [intOf]; omega
    · have hd := sumT_end hlt
      go_wp2
      go_ret
      exact ⟨ret_int (by omega), rfl⟩

set_option maxHeartbeats 400000 in
theorem szOpSS_not (t : List (List Ev)) (A : Option Addr) (c m : Nat) (w : World) (hs : m < t.length + sumT t) (hm : m ≤ 1048576) (hl : t.length ≤ maxLen) (h : RdT w w.heap.size A t) :
    Calls Try.prog 41 #[.slice A t.length c, .int .i64 m] w (Neg1 w) := by
  unfold maxLen at hl
  by_cases h0 : t.length ≤ m
  · go_enter Try.func41, Try.ntmps41
    go_wp2
    go_loop [1, 5] (fun q i => ∃ k l : Nat, k ≤ t.length ∧ i = .int .i64 k ∧ q = .int .i64 l ∧ l ≤ 1048576 ∧ l < sumT (t.drop k)) (fun _ i => t.length - (intOf i).toNat)
    case atStart => exact ⟨0, m - t.length, Nat.zero_le _, rfl, by go_num, by omega, by simp; omega⟩
    case round =>
      obtain ⟨k, l, hk, rfl, rfl, hl, hls⟩ := hrel
      by_cases hlt : k < t.length
      · obtain ⟨b, off, a, c', rfl, hbb, hc0, hle, hcm, hr⟩ := h.get hlt
        have hd := sumT_drop t k hlt
        by_cases h1 : t[k].length ≤ l
        · have HD := hide hd
          clear hd
          go_wp2_with fail
          refine (szOpS_fit a t[k].length c' l _ h1 hl).mono ?_
          rintro e w' ⟨rfl, rfl⟩
          go_wp2
          go_round
          case rel => exact ⟨k + 1, l - t[k].length, by omega, by go_num, rfl, by omega, by have := HD.out; omega⟩
          case measure => simp [intOf]; omega
        · clear hd
          go_wp2_with fail
          refine (szOpS_not a t[k].length c' l _ (by omega) hl (by omega)).mono ?_
          rintro e w' ⟨rfl, rfl⟩
          go_wp2
          go_ret
          exact ⟨rfl, rfl⟩
      · have hd := sumT_end hlt
        exact absurd hls (by omega)
  · go_enter Try.func41, Try.ntmps41
    go_wp2
    go_ret
    exact ⟨rfl, rfl⟩

set_option maxRecDepth 100000 in
set_option maxHeartbeats 400000 in
theorem eqOpSS_same (t : List (List Ev)) (A A' : Option Addr) (c c' : Nat) (w : World) (hm : t.length ≤ maxLen) (h : RdT w w.heap.size A t) (h' : RdT w w.heap.size A' t) :
    Calls Try.prog 43 #[.slice A t.length c, .slice A' t.length c'] w fun e w' => e = .returned (.bool true) ∧ Below w.heap.size w w' := by
  unfold maxLen at hm
  go_enter Try.func43, Try.ntmps43
  go_wp2
  go_loopw [5] (fun i wr => ∃ k : Nat, k ≤ t.length ∧ i = .int .i64 k ∧ Below w.heap.size w wr) (fun i _ => t.length - (intOf i).toNat)
  case atStart => exact ⟨0, Nat.zero_le _, rfl, Below.refl _ _⟩
  case round =>
    obtain ⟨k, hk, rfl, hb⟩ := hrel
    by_cases hlt : k < t.length
    · obtain ⟨b, off, a, d, rfl, hbb, hc0, hle, hcm, hr⟩ := (h.below hb).get hlt
      obtain ⟨b', off', a', d', rfl, hbb', hd0, hle', hdm, hr'⟩ := (h'.below hb).get hlt
      go_wp2
      go_still_tail 8, (by kernel_rfl)
      change wpList _ _ _ _ _ wr.drew
      generalize hw2 : wr.drew = w2
      have hb2 : Below w.heap.size w w2 := by rw [← hw2]; exact hb.drew
      have hr2 : RdE w2 w.heap.size a t[k] := by rw [← hw2]; exact hr
      have hr2' : RdE w2 w.heap.size a' t[k] := by rw [← hw2]; exact hr'
      clear hw2
      go_wp2_with fail
      refine (eqOpS_same t[k] _ _ _ _ _ (by omega) hr2.lt hr2'.lt).mono ?_
      rintro e w3 ⟨rfl, hb3⟩
      have hb4 := hb2.trans (hb3.mono hb2.size)
      go_wp2
      go_roundw
      case rel => exact ⟨k + 1, by omega, by go_num, hb4⟩
      case measure => simp [intOf]; omega
    · go_wp2
      go_ret
      exact ⟨rfl, hb⟩

set_option maxRecDepth 100000 in
set_option maxHeartbeats 400000 in
theorem toOpSS_any (t : List (List Ev)) (A : Option Addr) (c : Nat) (w : World) (hm : LenT 1048576 t) (h : RdT w w.heap.size A t) :
    Calls Try.prog 42 #[.slice A t.length c] w fun e w' => ∃ g, e = .returned (.slice (some ⟨g, 0, none⟩) t.length t.length) ∧ RdT w' w'.heap.size (some ⟨g, 0, none⟩) t ∧ Below w.heap.size w w' := by
  obtain ⟨hm1, hm2⟩ := hm
  obtain ⟨i0, hi, hz0, hz1, hz2⟩ := info_parts info_ops
  go_enter Try.func42, Try.ntmps42
  go_wp2_with (at_make; refine wpList_make_full _ rfl _ _ 49 rfl w.heap.size 147 i0 (.slice none 0 0) 1 Try.underlying49 hi hz0 hz1 .i64 .i64 _ _ t.length rfl rfl rfl rfl (by rw [hz2]; omega) (by unfold maxLen; omega) (Nat.le_refl _) ?_; intro w1 hown hg)
  have hb1 : Below w.heap.size w w1 := (Below.refl _ _).grown hg (Nat.le_refl _) (by simp)
  clear hg
  go_loopw [4] (fun i wr => ∃ (k : Nat) (vs : List Value), k ≤ t.length ∧ i = .int .i64 k ∧ wr.ownsRow w.heap.size 147 1 (.slice (some ⟨w.heap.size, 0, none⟩) t.length t.length) t.length vs ∧ HalfT w wr t k vs ∧ Below w.heap.size w wr) (fun i _ => t.length - (intOf i).toNat)
  case atStart => exact ⟨0, _, Nat.zero_le _, rfl, hown, fun i hi => by omega, hb1⟩
  case round =>
    obtain ⟨k, vs, hk, rfl, ho, hH, hb⟩ := hrel
    have hlen : vs.length = t.length := by have := ho.1; omega
    by_cases hlt : k < t.length
    · obtain ⟨b, off, a, d, rfl, hbb, hc0, hle, hcm, hr⟩ := (h.below hb).get hlt
      have hz : w.heap.size < wr.heap.size := (ho.lt w.heap.size rfl).2
      go_wp2_with fail
      refine (toOpS_any t[k] a d _ (hm2 k hlt) hr.lt).mono ?_
      rintro e w2 ⟨g2, rfl, o2, hb2⟩
      have hb3 := hb.trans (hb2.mono hb.size)
      have ho2 := own_below ho hb2 (Nat.le_refl _)
      have hf0 := ho2.frozenAt k
      obtain ⟨v0, hx0⟩ : ∃ v, w2.cell? ⟨w.heap.size, k, none⟩ = some v := by
        rw [ho2.cellAt k (by omega)]
        exact ⟨_, List.getElem?_eq_getElem (by omega)⟩
      have hs := (ho2.stored k (.slice (some ⟨g2, 0, none⟩) t[k].length t[k].length)).1
      have hg2 := o2.lt g2 rfl
      have hH2 : HalfT w (w2.setCell ⟨w.heap.size, k, none⟩ (.slice (some ⟨g2, 0, none⟩) t[k].length t[k].length)) t (k + 1) (vs.set k (.slice (some ⟨g2, 0, none⟩) t[k].length t[k].length)) := by
        intro i hi hit
        by_cases hik : i = k
        · subst hik
          refine ⟨some ⟨g2, 0, none⟩, t[i].length, by rw [List.getElem?_set_self (by omega)], Nat.le_refl _, by omega, ?_, fun x hx => by cases hx; simp only; omega⟩
          exact (RdE.far (RdE.of_own o2) _ _ (fun x hx => by cases hx; simp only; omega)).lt
        · obtain ⟨a1, c1, q1, q2, q3, q4, q5⟩ := hH i (by omega) hit
          refine ⟨a1, c1, by rw [List.getElem?_set_ne (by omega)]; exact q1, q2, q3, ?_, q5⟩
          exact (RdE.far (q4.below hb2) _ _ (fun x hx => by have := q5 x hx; simp only; omega)).lt
      have HS := hide hs
      have HH := hide hH2
      clear ho2 ho hs hH2 o2 hH
      go_wp2
      go_roundw
      case rel => exact ⟨k + 1, _, by omega, by go_num, HS.out, HH.out, hb3.setCell (Nat.le_refl _) _⟩
      case measure => simp [intOf]; omega
    · go_wp2
      go_ret
      refine ⟨_, rfl, ?_, hb⟩
      intro h0
      refine ⟨w.heap.size, 0, rfl, (ho.lt w.heap.size rfl).2, fun i hi => ?_⟩
      obtain ⟨a1, c1, q1, q2, q3, q4, _⟩ := hH i (by omega) hi
      refine ⟨a1, c1, ?_, q2, q3, q4⟩
      rw [Nat.zero_add, ho.cellAt i (by omega)]
      exact q1
end Go.Proofs.Ytifijhfeeammkaa
