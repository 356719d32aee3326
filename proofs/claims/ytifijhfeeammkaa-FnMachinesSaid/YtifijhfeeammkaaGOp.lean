/- Contracts of the exact laws' own helpers on slices of ops: measured, copied, compared. Contracts of the exact laws' own helpers on slices of slices of ops: measured, copied, compared. A slice of slices of ops of the call's own: each row apart from the others. Plain lemmas. Contracts of the exact laws' own helpers on slices of slices of ops: copied into memory of the call's own, marked, held. -/
import Derived.Test.YtifijhfeeammkaaGEv
import Derived.StillTailTactics
import Derived.Lib.Hide
import Derived.Test.YtifijhfeeammkaaGTrS
import Derived.Test.YtifijhfeeammkaaGLine
import Derived.Test.YtifijhfeeammkaaGBase
import Derived.Test.YtifijhfeeammkaaGTrM
import Derived.Test.YtifijhfeeammkaaGMarks
namespace Go.Proofs.Ytifijhfeeammkaa
open Go.RowKit

theorem toOp_any (k a v : Int) (w : World) :
    Calls Try.prog 40 #[evV k a v] w fun e w' => e = .returned (evV k a v) ∧ Below w.heap.size w w' := by
  go_enter Try.func40, Try.ntmps40
  go_wp2
  refine bodyPost_ret (v := evV k a v) (by simp [results, Try.results40, go_sem]) rfl ?_
  exact ⟨rfl, by go_grown⟩

theorem eqOp_same (k a v : Int) (w : World) :
    Calls Try.prog 130 #[evV k a v, evV k a v] w fun e w' => e = .returned (.bool true) ∧ Below w.heap.size w w' := by
  go_enter Try.func130, Try.ntmps130
  go_wp2
  go_ret
  exact ⟨rfl, by go_grown⟩
theorem info_op : (Try.prog.info? 29).map (fun i => (i.zero, i.size, i.bytes)) = some (some (.agg #[.int .i64 0, .int .i64 0, .int .i64 0]), 3, 24) := by kernel_rfl

theorem szOpS_fit (A : Option Addr) (n c m : Nat) (w : World) (hm : n ≤ m) (h : m ≤ 1048576) :
    Calls Try.prog 97 #[.slice A n c, .int .i64 m] w fun e w' => e = .returned (.int .i64 ((m - n : Nat) : Int)) ∧ w = w' := by
  go_enter Try.func97, Try.ntmps97
  go_wp2
  go_ret
  exact ⟨ret_int (by omega), rfl⟩
theorem szOpS_not (A : Option Addr) (n c m : Nat) (w : World) (hm : m < n) (h : m ≤ 1048576) (hn : n ≤ maxLen) :
    Calls Try.prog 97 #[.slice A n c, .int .i64 m] w fun e w' => e = .returned (.int .i64 (-1)) ∧ w = w' := by
  unfold maxLen at hn
  go_enter Try.func97, Try.ntmps97
  go_wp2
  go_ret
  exact ⟨rfl, rfl⟩

set_option maxRecDepth 100000 in
set_option maxHeartbeats 400000 in
theorem eqOpS_same (es : List Ev) (A A' : Option Addr) (c c' : Nat) (w : World) (hm : es.length ≤ maxLen) (h : RdE w w.heap.size A es) (h' : RdE w w.heap.size A' es) :
    Calls Try.prog 99 #[.slice A es.length c, .slice A' es.length c'] w fun e w' => e = .returned (.bool true) ∧ Below w.heap.size w w' := by
  unfold maxLen at hm
  go_enter Try.func99, Try.ntmps99
  go_wp2
  go_loopw [5] (fun i wr => ∃ k : Nat, k ≤ es.length ∧ i = .int .i64 k ∧ Below w.heap.size w wr) (fun i _ => es.length - (intOf i).toNat)
  case atStart => exact ⟨0, Nat.zero_le _, rfl, Below.refl _ _⟩
  case round =>
    obtain ⟨k, hk, rfl, hb⟩ := hrel
    by_cases hlt : k < es.length
    · obtain ⟨b, off, rfl, hbb, hc0, hc1, hc2⟩ := (h.below hb).get hlt
      obtain ⟨b', off', rfl, hbb', hd0, hd1, hd2⟩ := (h'.below hb).get hlt
      go_wp2
      go_still_tail 8, (by kernel_rfl)
      change wpList _ _ _ _ _ wr.drew
      generalize hw2 : wr.drew = w2
      have hb2 : Below w.heap.size w w2 := by rw [← hw2]; exact hb.drew
      clear hw2
      go_wp2_with fail
      refine (eqOp_same _ _ _ _).mono ?_
      rintro e w3 ⟨rfl, hb3⟩
      have hb4 := hb2.trans (hb3.mono hb2.size)
      go_wp2
      go_roundw
      case rel => exact ⟨k + 1, by omega, by go_num, hb4⟩
      case measure => simp [intOf]; omega
    · go_wp2
      go_ret
      exact ⟨rfl, hb⟩

set_option maxRecDepth 100000 in
set_option maxHeartbeats 400000 in
theorem toOpS_any (es : List Ev) (A : Option Addr) (c : Nat) (w : World) (hm : es.length ≤ 1048576) (h : RdE w w.heap.size A es) :
    Calls Try.prog 98 #[.slice A es.length c] w fun e w' => ∃ g, e = .returned (.slice (some ⟨g, 0, none⟩) es.length es.length) ∧ w'.ownsRow w.heap.size 29 3 (.slice (some ⟨g, 0, none⟩) es.length es.length) es.length (evs es) ∧ Below w.heap.size w w' := by
  obtain ⟨i0, hi, hz0, hz1, hz2⟩ := info_parts info_op
  go_enter Try.func98, Try.ntmps98
  go_wp2_with (at_make; refine wpList_make_full _ rfl _ _ 147 rfl w.heap.size 29 i0 (.agg #[.int .i64 0, .int .i64 0, .int .i64 0]) 3 Try.underlying147 hi hz0 hz1 .i64 .i64 _ _ es.length rfl rfl rfl rfl (by rw [hz2]; omega) (by unfold maxLen; omega) (Nat.le_refl _) ?_; intro w1 hown hg)
  rw [made_event, ← halfE_zero] at hown
  have hb1 : Below w.heap.size w w1 := (Below.refl _ _).grown hg (Nat.le_refl _) (by simp)
  clear hg
  go_loopw [4] (fun i wr => ∃ k : Nat, k ≤ es.length ∧ i = .int .i64 k ∧ wr.ownsRow w.heap.size 29 3 (.slice (some ⟨w.heap.size, 0, none⟩) es.length es.length) es.length (halfE es k) ∧ Below w.heap.size w wr) (fun i _ => es.length - (intOf i).toNat)
  case atStart => exact ⟨0, Nat.zero_le _, rfl, hown, hb1⟩
  case round =>
    obtain ⟨k, hk, rfl, ho, hb⟩ := hrel
    by_cases hlt : k < es.length
    · obtain ⟨b, off, rfl, hbb, hc0, hc1, hc2⟩ := (h.below hb).get hlt
      go_wp2_with fail
      refine (toOp_any _ _ _ _).mono ?_
      rintro e w2 ⟨rfl, hb2⟩
      have hb3 := hb.trans (hb2.mono hb.size)
      have ho2 := own_below ho hb2 (Nat.le_refl _)
      have hlen := halfE_length es k hk
      have hf0 := ho2.frozenAt (k * 3)
      have hf1 := ho2.frozenAt (k * 3 + 1)
      have hf2 := ho2.frozenAt (k * 3 + 2)
      obtain ⟨v0, hx0⟩ : ∃ v, w2.cell? ⟨w.heap.size, k * 3, none⟩ = some v := by
        rw [ho2.cellAt (k * 3) (by omega)]
        exact ⟨_, List.getElem?_eq_getElem (by omega)⟩
      obtain ⟨v1, hx1⟩ : ∃ v, w2.cell? ⟨w.heap.size, k * 3 + 1, none⟩ = some v := by
        rw [ho2.cellAt (k * 3 + 1) (by omega)]
        exact ⟨_, List.getElem?_eq_getElem (by omega)⟩
      obtain ⟨v2, hx2⟩ : ∃ v, w2.cell? ⟨w.heap.size, k * 3 + 2, none⟩ = some v := by
        rw [ho2.cellAt (k * 3 + 2) (by omega)]
        exact ⟨_, List.getElem?_eq_getElem (by omega)⟩
      have HS := hide ((((ho2.stored (k * 3) (.int .i64 es[k].k)).1.stored (k * 3 + 1) (.int .i64 es[k].a)).1.stored (k * 3 + 2) (.int .i64 es[k].v)).1)
      clear ho2 ho hlen
      go_wp2
      go_roundw
      case rel =>
        refine ⟨k + 1, by omega, by go_num, ?_, ((hb3.setCell (Nat.le_refl _) _).setCell (Nat.le_refl _) _).setCell (Nat.le_refl _) _⟩
        rw [← halfE_set es k hlt]
        exact HS.out
      case measure => simp [intOf]; omega
    · go_wp2
      go_ret
      obtain rfl : k = es.length := by omega
      rw [halfE_all] at ho
      exact ⟨_, rfl, ho, hb⟩
end Go.Proofs.Ytifijhfeeammkaa
namespace Go.Proofs.Ytifijhfeeammkaa
open Go.RowKit

theorem info_ops : (Try.prog.info? 147).map (fun i => (i.zero, i.size, i.bytes)) = some (some (.slice none 0 0), 1, 24) := by kernel_rfl

set_option maxHeartbeats 400000 in
theorem szOpSS_fit (t : List (List Ev)) (A : Option Addr) (c m : Nat) (w : World) (hs : t.length + sumT t ≤ m) (hm : m ≤ 1048576) (h : RdT w w.heap.size A t) :
    Calls Try.prog 41 #[.slice A t.length c, .int .i64 m] w fun e w' => e = .returned (.int .i64 ((m - t.length - sumT t : Nat) : Int)) ∧ w = w' := by
  go_enter Try.func41, Try.ntmps41
  go_wp2
  go_loop [1, 5] (fun q i => ∃ k l : Nat, k ≤ t.length ∧ i = .int .i64 k ∧ q = .int .i64 l ∧ l ≤ 1048576 ∧ l = m - t.length - sumT t + sumT (t.drop k)) (fun _ i => t.length - (intOf i).toNat)
  case atStart => exact ⟨0, m - t.length, Nat.zero_le _, rfl, by go_num, by omega, by simp; omega⟩
  case round =>
    obtain ⟨k, l, hk, rfl, rfl, h2, hl⟩ := hrel
    by_cases hlt : k < t.length
    · obtain ⟨b, off, a, c', rfl, hbb, hc0, hle, hcm, hr⟩ := h.get hlt
      have hd := sumT_drop t k hlt
      have h1 : t[k].length ≤ l := by omega
      have HL := hide hl
      have HD := hide hd
      clear hl hd
      go_wp2_with fail
      refine (szOpS_fit a t[k].length c' l _ h1 h2).mono ?_
      rintro e w' ⟨rfl, rfl⟩
      go_wp2
      go_round
      case rel => exact ⟨k + 1, l - t[k].length, by omega, by go_num, rfl, by omega, by have := HL.out; have := HD.out; omega⟩
      case measure => simp [intOf]; omega
    · have hd := sumT_end hlt
      go_wp2
      go_ret
      exact ⟨ret_int (by omega), rfl⟩

set_option maxHeartbeats 400000 in
theorem szOpSS_not (t : List (List Ev)) (A : Option Addr) (c m : Nat) (w : World) (hs : m < t.length + sumT t) (hm : m ≤ 1048576) (hl : t.length ≤ maxLen) (h : RdT w w.heap.size A t) :
    Calls Try.prog 41 #[.slice A t.length c, .int .i64 m] w (Neg1 w) := by
  unfold maxLen at hl
  by_cases h0 : t.length ≤ m
  · go_enter Try.func41, Try.ntmps41
    go_wp2
    go_loop [1, 5] (fun q i => ∃ k l : Nat, k ≤ t.length ∧ i = .int .i64 k ∧ q = .int .i64 l ∧ l ≤ 1048576 ∧ l < sumT (t.drop k)) (fun _ i => t.length - (intOf i).toNat)
    case atStart => exact ⟨0, m - t.length, Nat.zero_le _, rfl, by go_num, by omega, by simp; omega⟩
    case round =>
      obtain ⟨k, l, hk, rfl, rfl, hl, hls⟩ := hrel
      by_cases hlt : k < t.length
      · obtain ⟨b, off, a, c', rfl, hbb, hc0, hle, hcm, hr⟩ := h.get hlt
        have hd := sumT_drop t k hlt
        by_cases h1 : t[k].length ≤ l
        · have HD := hide hd
          clear hd
          go_wp2_with fail
          refine (szOpS_fit a t[k].length c' l _ h1 hl).mono ?_
          rintro e w' ⟨rfl, rfl⟩
          go_wp2
          go_round
          case rel => exact ⟨k + 1, l - t[k].length, by omega, by go_num, rfl, by omega, by have := HD.out; omega⟩
          case measure => simp [intOf]; omega
        · clear hd
          go_wp2_with fail
          refine (szOpS_not a t[k].length c' l _ (by omega) hl (by omega)).mono ?_
          rintro e w' ⟨rfl, rfl⟩
          go_wp2
          go_ret
          exact ⟨rfl, rfl⟩
      · have hd := sumT_end hlt
        exact absurd hls (by omega)
  · go_enter Try.func41, Try.ntmps41
    go_wp2
    go_ret
    exact ⟨rfl, rfl⟩

set_option maxRecDepth 100000 in
set_option maxHeartbeats 400000 in
theorem eqOpSS_same (t : List (List Ev)) (A A' : Option Addr) (c c' : Nat) (w : World) (hm : t.length ≤ maxLen) (h : RdT w w.heap.size A t) (h' : RdT w w.heap.size A' t) :
    Calls Try.prog 43 #[.slice A t.length c, .slice A' t.length c'] w fun e w' => e = .returned (.bool true) ∧ Below w.heap.size w w' := by
  unfold maxLen at hm
  go_enter Try.func43, Try.ntmps43
  go_wp2
  go_loopw [5] (fun i wr => ∃ k : Nat, k ≤ t.length ∧ i = .int .i64 k ∧ Below w.heap.size w wr) (fun i _ => t.length - (intOf i).toNat)
  case atStart => exact ⟨0, Nat.zero_le _, rfl, Below.refl _ _⟩
  case round =>
    obtain ⟨k, hk, rfl, hb⟩ := hrel
    by_cases hlt : k < t.length
    · obtain ⟨b, off, a, d, rfl, hbb, hc0, hle, hcm, hr⟩ := (h.below hb).get hlt
      obtain ⟨b', off', a', d', rfl, hbb', hd0, hle', hdm, hr'⟩ := (h'.below hb).get hlt
      go_wp2
      go_still_tail 8, (by kernel_rfl)
      change wpList _ _ _ _ _ wr.drew
      generalize hw2 : wr.drew = w2
      have hb2 : Below w.heap.size w w2 := by rw [← hw2]; exact hb.drew
      have hr2 : RdE w2 w.heap.size a t[k] := by rw [← hw2]; exact hr
      have hr2' : RdE w2 w.heap.size a' t[k] := by rw [← hw2]; exact hr'
      clear hw2
      go_wp2_with fail
      refine (eqOpS_same t[k] _ _ _ _ _ (by omega) hr2.lt hr2'.lt).mono ?_
      rintro e w3 ⟨rfl, hb3⟩
      have hb4 := hb2.trans (hb3.mono hb2.size)
      go_wp2
      go_roundw
      case rel => exact ⟨k + 1, by omega, by go_num, hb4⟩
      case measure => simp [intOf]; omega
    · go_wp2
      go_ret
      exact ⟨rfl, hb⟩

set_option maxRecDepth 100000 in
set_option maxHeartbeats 400000 in
theorem toOpSS_any (t : List (List Ev)) (A : Option Addr) (c : Nat) (w : World) (hm : LenT 1048576 t) (h : RdT w w.heap.size A t) :
    Calls Try.prog 42 #[.slice A t.length c] w fun e w' => ∃ g, e = .returned (.slice (some ⟨g, 0, none⟩) t.length t.length) ∧ RdT w' w'.heap.size (some ⟨g, 0, none⟩) t ∧ Below w.heap.size w w' := by
  obtain ⟨hm1, hm2⟩ := hm
  obtain ⟨i0, hi, hz0, hz1, hz2⟩ := info_parts info_ops
  go_enter Try.func42, Try.ntmps42
  go_wp2_with (at_make; refine wpList_make_full _ rfl _ _ 49 rfl w.heap.size 147 i0 (.slice none 0 0) 1 Try.underlying49 hi hz0 hz1 .i64 .i64 _ _ t.length rfl rfl rfl rfl (by rw [hz2]; omega) (by unfold maxLen; omega) (Nat.le_refl _) ?_; intro w1 hown hg)
  have hb1 : Below w.heap.size w w1 := (Below.refl _ _).grown hg (Nat.le_refl _) (by simp)
  clear hg
  go_loopw [4] (fun i wr => ∃ (k : Nat) (vs : List Value), k ≤ t.length ∧ i = .int .i64 k ∧ wr.ownsRow w.heap.size 147 1 (.slice (some ⟨w.heap.size, 0, none⟩) t.length t.length) t.length vs ∧ HalfT w wr t k vs ∧ Below w.heap.size w wr) (fun i _ => t.length - (intOf i).toNat)
  case atStart => exact ⟨0, _, Nat.zero_le _, rfl, hown, fun i hi => by omega, hb1⟩
  case round =>
    obtain ⟨k, vs, hk, rfl, ho, hH, hb⟩ := hrel
    have hlen : vs.length = t.length := by have := ho.1; omega
    by_cases hlt : k < t.length
    · obtain ⟨b, off, a, d, rfl, hbb, hc0, hle, hcm, hr⟩ := (h.below hb).get hlt
      have hz : w.heap.size < wr.heap.size := (ho.lt w.heap.size rfl).2
      go_wp2_with fail
      refine (toOpS_any t[k] a d _ (hm2 k hlt) hr.lt).mono ?_
      rintro e w2 ⟨g2, rfl, o2, hb2⟩
      have hb3 := hb.trans (hb2.mono hb.size)
      have ho2 := own_below ho hb2 (Nat.le_refl _)
      have hf0 := ho2.frozenAt k
      obtain ⟨v0, hx0⟩ : ∃ v, w2.cell? ⟨w.heap.size, k, none⟩ = some v := by
        rw [ho2.cellAt k (by omega)]
        exact ⟨_, List.getElem?_eq_getElem (by omega)⟩
      have hs := (ho2.stored k (.slice (some ⟨g2, 0, none⟩) t[k].length t[k].length)).1
      have hg2 := o2.lt g2 rfl
      have hH2 : HalfT w (w2.setCell ⟨w.heap.size, k, none⟩ (.slice (some ⟨g2, 0, none⟩) t[k].length t[k].length)) t (k + 1) (vs.set k (.slice (some ⟨g2, 0, none⟩) t[k].length t[k].length)) := by
        intro i hi hit
        by_cases hik : i = k
        · subst hik
          refine ⟨some ⟨g2, 0, none⟩, t[i].length, by rw [List.getElem?_set_self (by omega)], Nat.le_refl _, by omega, ?_, fun x hx => by cases hx; simp only; omega⟩
          exact (RdE.far (RdE.of_own o2) _ _ (fun x hx => by cases hx; simp only; omega)).lt
        · obtain ⟨a1, c1, q1, q2, q3, q4, q5⟩ := hH i (by omega) hit
          refine ⟨a1, c1, by rw [List.getElem?_set_ne (by omega)]; exact q1, q2, q3, ?_, q5⟩
          exact (RdE.far (q4.below hb2) _ _ (fun x hx => by have := q5 x hx; simp only; omega)).lt
      have HS := hide hs
      have HH := hide hH2
      clear ho2 ho hs hH2 o2 hH
      go_wp2
      go_roundw
      case rel => exact ⟨k + 1, _, by omega, by go_num, HS.out, HH.out, hb3.setCell (Nat.le_refl _) _⟩
      case measure => simp [intOf]; omega
    · go_wp2
      go_ret
      refine ⟨_, rfl, ?_, hb⟩
      intro h0
      refine ⟨w.heap.size, 0, rfl, (ho.lt w.heap.size rfl).2, fun i hi => ?_⟩
      obtain ⟨a1, c1, q1, q2, q3, q4, _⟩ := hH i (by omega) hi
      refine ⟨a1, c1, ?_, q2, q3, q4⟩
      rw [Nat.zero_add, ho.cellAt i (by omega)]
      exact q1
end Go.Proofs.Ytifijhfeeammkaa
namespace Go.Proofs.Ytifijhfeeammkaa
open Go.RowKit

structure OwnTOp (w : World) (base : Nat) (v : Value) (t : List (List Ev)) (us : List Value) : Prop where
  row : w.ownsRow base 147 1 v t.length us
  rows : ∀ i, (h : i < t.length) → ∃ u, us[i]? = some u ∧ w.ownsRow base 29 3 u t[i].length (evs t[i]) ∧ ∀ b, u.ownBlock = some b → v.ownBlock ≠ some b
  apart : ∀ (i j : Nat) (u u' : Value), i ≠ j → us[i]? = some u → us[j]? = some u' → ∀ b, u.ownBlock = some b → u'.ownBlock ≠ some b
section
variable {w w' w1 : World} {base : Nat} {v v' : Value} {t : List (List Ev)} {us : List Value} {es : List Ev}
theorem OwnTOp.len (h : OwnTOp w base v t us) : us.length = t.length := by have := h.row.1; omega
theorem OwnTOp.at_ (h : OwnTOp w base v t us) {i : Nat} {u : Value} (hu : us[i]? = some u) : ∃ (hi : i < t.length), w.ownsRow base 29 3 u t[i].length (evs t[i]) ∧ ∀ b, u.ownBlock = some b → v.ownBlock ≠ some b := by
  have hi : i < t.length := by
    rcases Nat.lt_or_ge i us.length with a | a
    · rw [← h.len]; exact a
    · rw [List.getElem?_eq_none a] at hu; exact absurd hu (by simp)
  obtain ⟨u', h1, h2, h3⟩ := h.rows i hi
  rw [hu] at h1
  cases h1
  exact ⟨hi, h2, h3⟩
theorem OwnTOp.kept {row : Option Nat} (h : OwnTOp w base v t us) (hg : w.grownBy w' row) (hr : ∀ b, row = some b → b < base) : OwnTOp w' base v t us :=
  ⟨h.row.kept hg (own_sep fun b hb e => by have := h.row.lt b hb; have := hr b e; omega),
   fun i hi => by
    obtain ⟨u, h1, h2, h3⟩ := h.rows i hi
    exact ⟨u, h1, h2.kept hg (own_sep fun b hb e => by have := h2.lt b hb; have := hr b e; omega), h3⟩,
   h.apart⟩
theorem OwnTOp.below (h : OwnTOp w base v t us) (hb : Below w.heap.size w w') : OwnTOp w' base v t us := h.kept (row := none) ⟨hb.os, hb.tape, hb.output, hb.size, fun k hk _ => hb.block k hk⟩ (fun b e => by cases e)
theorem OwnTOp.alloc (h : OwnTOp w base v t us) (o : Obj) : OwnTOp (w.alloc o) base v t us := h.below ((Below.refl _ _).alloc (Nat.le_refl _) _)
theorem OwnTOp.mono (h : OwnTOp w base v t us) {b' : Nat} (hb : b' ≤ base) : OwnTOp w b' v t us :=
  ⟨own_mono h.row hb, fun i hi => by
    obtain ⟨u, h1, h2, h3⟩ := h.rows i hi
    exact ⟨u, h1, own_mono h2 hb, h3⟩, h.apart⟩
theorem OwnTOp.rd {A : Option Addr} {c : Nat} (h : OwnTOp w base (.slice A t.length c) t us) : RdT w w.heap.size A t := by
  intro h0
  rcases h.row.2 with ⟨_, h''⟩ | ⟨g, cap, cur, h', _⟩
  · omega
  · simp only [Value.slice.injEq] at h'
    obtain ⟨rfl, _, rfl⟩ := h'
    refine ⟨g, 0, rfl, (h.row.lt g rfl).2, fun i hi => ?_⟩
    obtain ⟨u, h1, h2, h3⟩ := h.rows i hi
    obtain ⟨a, c, rfl⟩ := own_shape h2
    have hcp := own_capE h2
    refine ⟨a, c, ?_, hcp.1, hcp.2, RdE.of_own h2⟩
    rw [Nat.zero_add, h.row.cellAt i (by omega)]
    exact h1
/-- A new row behind the others. -/
theorem OwnTOp.push {u : Value} (h : OwnTOp w base v t us) (hu : w.ownsRow base 29 3 u es.length (evs es)) (hf : ∀ b, u.ownBlock = some b → v.ownBlock ≠ some b ∧ ∀ (i : Nat) (u' : Value), us[i]? = some u' → u'.ownBlock ≠ some b)
    (ho : w'.ownsRow base 147 1 v' (t.length + 1) (us ++ [u])) (hg : w.grownBy w' v.ownBlock) (hat : v'.ownBlock = v.ownBlock ∨ v'.ownBlock = some w.heap.size) : OwnTOp w' base v' (t ++ [es]) (us ++ [u]) := by
  have hnew : ∀ (x : Value) (n : Nat) (xs : List Value), w.ownsRow base 29 3 x n xs → (∀ b, x.ownBlock = some b → v.ownBlock ≠ some b) → ∀ b, x.ownBlock = some b → v'.ownBlock ≠ some b := by
    intro x n xs hx h3 b hb
    rcases hat with e | e
    · rw [e]; exact h3 b hb
    · rw [e]
      intro e2
      simp only [Option.some.injEq] at e2
      have := hx.lt b hb
      omega
  refine ⟨by rw [List.length_append]; exact ho, fun i hi => ?_, ?_⟩
  · rw [List.length_append, List.length_singleton] at hi
    by_cases hlt : i < t.length
    · obtain ⟨x, h1, h2, h3⟩ := h.rows i hlt
      refine ⟨x, by rw [List.getElem?_append_left (by rw [h.len]; exact hlt)]; exact h1, ?_, hnew x _ _ h2 h3⟩
      rw [List.getElem_append_left hlt]
      exact h2.kept hg (own_sep h3)
    · obtain rfl : i = t.length := by omega
      refine ⟨u, by rw [List.getElem?_append_right (by rw [h.len]; exact Nat.le_refl _), h.len, Nat.sub_self]; rfl, ?_, hnew u _ _ hu (fun b hb => (hf b hb).1)⟩
      rw [List.getElem_append_right (Nat.le_refl _)]
      simp only [Nat.sub_self, List.getElem_cons_zero]
      exact hu.kept hg (own_sep fun b hb => (hf b hb).1)
  · have key : ∀ (i : Nat) (x : Value), (us ++ [u])[i]? = some x → (i < us.length ∧ us[i]? = some x) ∨ (i = us.length ∧ x = u) := by
      intro i x hx
      by_cases hlt : i < us.length
      · rw [List.getElem?_append_left hlt] at hx
        exact .inl ⟨hlt, hx⟩
      · rw [List.getElem?_append_right (by omega)] at hx
        have hi : i - us.length = 0 := by
          rcases Nat.eq_zero_or_pos (i - us.length) with a | a
          · exact a
          · rw [List.getElem?_eq_none (by simp; omega)] at hx; exact absurd hx (by simp)
        rw [hi] at hx
        simp only [List.getElem?_cons_zero, Option.some.injEq] at hx
        exact .inr ⟨by omega, hx.symm⟩
    intro i j x y hij hx hy b hb
    rcases key i x hx with ⟨i1, i2⟩ | ⟨i1, rfl⟩
    · rcases key j y hy with ⟨j1, j2⟩ | ⟨j1, rfl⟩
      · exact h.apart i j x y hij i2 j2 b hb
      · intro e
        exact (hf b e).2 i x i2 hb
    · rcases key j y hy with ⟨j1, j2⟩ | ⟨j1, rfl⟩
      · exact (hf b hb).2 j y j2
      · omega
/-- Another row in the place of one. -/
theorem OwnTOp.swap {gv c i : Nat} {u u' : Value} {row : Option Nat} {es' : List Ev} (h : OwnTOp w base (.slice (some ⟨gv, 0, none⟩) t.length c) t us) (hui : us[i]? = some u) (hg : w.grownBy w1 row) (hrow : ∀ b, row = some b → u.ownBlock = some b ∨ b < base)
    (hu' : w1.ownsRow base 29 3 u' es'.length (evs es')) (hat : ∀ b, u'.ownBlock = some b → u.ownBlock = some b ∨ w.heap.size ≤ b) :
    OwnTOp (w1.setCell ⟨gv, i, none⟩ u') base (.slice (some ⟨gv, 0, none⟩) t.length c) (t.set i es') (us.set i u') := by
  obtain ⟨hi, hu, hu3⟩ := h.at_ hui
  have hgv := h.row.lt gv rfl
  have hne : ∀ b, u'.ownBlock = some b → b ≠ gv := by
    intro b hb e
    subst e
    rcases hat b hb with a | a
    · exact hu3 b a rfl
    · omega
  have hrk : ∀ (x : Value) (n : Nat) (xs : List Value) (j : Nat), j ≠ i → us[j]? = some x → w.ownsRow base 29 3 x n xs → ∀ b, x.ownBlock = some b → row ≠ some b := by
    intro x n xs j hji hj hx b hb e
    rcases hrow b e with a | a
    · exact h.apart j i x u hji hj hui b hb a
    · have := hx.lt b hb; omega
  refine ⟨?_, fun j hj => ?_, ?_⟩
  · rw [List.length_set]
    exact ((h.row.kept hg (own_sep fun b hb e => by
      simp only [Value.ownBlock, Option.some.injEq] at hb
      subst hb
      rcases hrow _ e with a | a
      · exact hu3 _ a rfl
      · omega)).stored i u').1
  · have hj' : j < t.length := by rw [List.length_set] at hj; exact hj
    by_cases hji : j = i
    · subst hji
      refine ⟨u', by rw [List.getElem?_set_self (by rw [h.len]; exact hj')], ?_, fun b hb e => ?_⟩
      · rw [List.getElem_set_self]
        exact hu'.kept (grown_set w1 gv j u') (own_sep fun b hb e => hne b hb (by simpa using e.symm))
      · simp only [Value.ownBlock, Option.some.injEq] at e
        exact hne b hb e.symm
    · obtain ⟨x, h1, h2, h3⟩ := h.rows j hj'
      refine ⟨x, by rw [List.getElem?_set_ne (by omega)]; exact h1, ?_, h3⟩
      rw [List.getElem_set_ne (by omega)]
      refine (h2.kept hg (own_sep (hrk x _ _ j hji h1 h2))).kept (grown_set w1 gv i u') (own_sep fun b hb e => ?_)
      exact h3 b hb (by simpa [Value.ownBlock] using e)
  · have key : ∀ (j : Nat) (x : Value), (us.set i u')[j]? = some x → (j = i ∧ x = u') ∨ (j ≠ i ∧ us[j]? = some x) := by
      intro j x hx
      by_cases hji : j = i
      · subst hji
        rw [List.getElem?_set_self (by rw [h.len]; exact hi)] at hx
        exact .inl ⟨rfl, (Option.some.inj hx).symm⟩
      · rw [List.getElem?_set_ne (by omega)] at hx
        exact .inr ⟨hji, hx⟩
    intro p q x y hpq hx hy b hb
    rcases key p x hx with ⟨p1, rfl⟩ | ⟨p1, p2⟩
    · rcases key q y hy with ⟨q1, rfl⟩ | ⟨q1, q2⟩
      · omega
      · rcases hat b hb with a | a
        · exact h.apart i q u y (by omega) hui q2 b a
        · intro e
          obtain ⟨_, hq, _⟩ := h.at_ q2
          have := hq.lt b e
          omega
    · rcases key q y hy with ⟨q1, rfl⟩ | ⟨q1, q2⟩
      · intro e
        rcases hat b e with a | a
        · exact h.apart p i x u (by omega) p2 hui b hb a
        · obtain ⟨_, hp, _⟩ := h.at_ p2
          have := hp.lt b hb
          omega
      · exact h.apart p q x y hpq p2 q2 b hb
end
theorem ownTOp_made {w : World} {base n : Nat} {v : Value} (h : w.ownsRow base 147 1 v n (List.replicate n (.slice none 0 0))) : OwnTOp w base v (List.replicate n []) (List.replicate n (.slice none 0 0)) := by
  refine ⟨by rw [List.length_replicate]; exact h, fun i hi => ?_, fun i j u u' _ hu _ b hb => ?_⟩
  · rw [List.length_replicate] at hi
    refine ⟨.slice none 0 0, by rw [List.getElem?_replicate, if_pos hi], ?_, fun b hb => by cases hb⟩
    simp only [List.getElem_replicate]
    exact World.ownsRow_nil _ _ _ _
  · have := List.eq_of_mem_replicate (List.mem_of_getElem? hu)
    rw [this] at hb
    cases hb
end Go.Proofs.Ytifijhfeeammkaa
namespace Go.Proofs.Ytifijhfeeammkaa
open Go.RowKit

set_option maxRecDepth 100000 in
set_option maxHeartbeats 800000 in
theorem markOpS_any (base : Nat) (A : Option Addr) (n c k : Nat) (xs : List Value) (w : World) (hk : k + n * 3 ≤ 1073741824) (h : w.ownsRow base 29 3 (.slice A n c) n xs) :
    Calls Try.prog 110 #[.slice A n c, .int .i64 k] w fun e w' => e = .returned (.int .i64 ((k + n * 3 : Nat) : Int)) ∧ w'.ownsRow base 29 3 (.slice A n c) n (evs (mkE k n)) ∧ w.grownBy w' (Value.slice A n c).ownBlock := by
  have hl : xs.length = n * 3 := h.1
  go_enter Try.func110, Try.ntmps110
  go_wp2
  go_loopw [1, 5] (fun q i wr => ∃ j : Nat, j ≤ n ∧ i = .int .i64 j ∧ q = .int .i64 ((k + j * 3 : Nat) : Int) ∧ wr.ownsRow base 29 3 (.slice A n c) n (markedE xs k j) ∧ w.grownBy wr (Value.slice A n c).ownBlock) (fun _ i _ => n - (intOf i).toNat)
  case atStart => exact ⟨0, Nat.zero_le _, rfl, rfl, by rw [markedE_zero]; exact h, ⟨rfl, rfl, rfl, Nat.le_refl _, fun _ _ _ => rfl⟩⟩
  case round =>
    obtain ⟨j, hj, rfl, rfl, ho, hg⟩ := hrel
    by_cases hlt : j < n
    · obtain ⟨g, rfl⟩ : ∃ g, A = some ⟨g, 0, none⟩ := by
        rcases ho.2 with ⟨h', h''⟩ | ⟨g, cap, cur, h', _⟩
        · omega
        · simp only [Value.slice.injEq, true_and] at h'
          exact ⟨g, h'.1⟩
      have hlen := ho.1
      have hf0 := ho.frozenAt (j * 3)
      have hf1 := ho.frozenAt (j * 3 + 1)
      have hf2 := ho.frozenAt (j * 3 + 2)
      obtain ⟨v0, hx0⟩ : ∃ v, wr.cell? ⟨g, j * 3, none⟩ = some v := by
        rw [ho.cellAt (j * 3) (by omega)]
        exact ⟨_, List.getElem?_eq_getElem (by omega)⟩
      obtain ⟨v1, hx1⟩ : ∃ v, wr.cell? ⟨g, j * 3 + 1, none⟩ = some v := by
        rw [ho.cellAt (j * 3 + 1) (by omega)]
        exact ⟨_, List.getElem?_eq_getElem (by omega)⟩
      obtain ⟨v2, hx2⟩ : ∃ v, wr.cell? ⟨g, j * 3 + 2, none⟩ = some v := by
        rw [ho.cellAt (j * 3 + 2) (by omega)]
        exact ⟨_, List.getElem?_eq_getElem (by omega)⟩
      have h1 := ho.stored (j * 3) (.int .i64 ((k : Int) + (j : Int) * 3))
      have h2 := h1.1.stored (j * 3 + 1) (.int .i64 ((k : Int) + (j : Int) * 3 + 1))
      have h3 := h2.1.stored (j * 3 + 2) (.int .i64 ((k : Int) + (j : Int) * 3 + 1 + 1))
      have HS := hide h3.1
      have HG := hide ((h1.2.trans h2.2).trans h3.2)
      have hM := markedE_set xs k j n hl hlt
      rw [show ((k + j * 3 : Nat) : Int) = (k : Int) + (j : Int) * 3 by omega, show ((k + j * 3 + 1 : Nat) : Int) = (k : Int) + (j : Int) * 3 + 1 by omega, show ((k + j * 3 + 2 : Nat) : Int) = (k : Int) + (j : Int) * 3 + 1 + 1 by omega] at hM
      have HM := hide hM
      clear h1 h2 h3 hlen ho hM
      go_wp2
      go_roundw
      case rel => exact ⟨j + 1, by omega, by go_num, by go_num, by rw [← HM.out]; exact HS.out, hg.trans HG.out⟩
      case measure => simp [intOf]; omega
    · go_wp2
      go_ret
      obtain rfl : j = n := by omega
      refine ⟨rfl, ?_, hg⟩
      rw [← markedE_all xs k j hl]
      exact ho

/-- A row turned in its own memory. -/
theorem OwnTOp.turn {w w1 : World} {base i : Nat} {v u : Value} {t : List (List Ev)} {us : List Value} {es' : List Ev} (h : OwnTOp w base v t us) (hui : us[i]? = some u) (hg : w.grownBy w1 u.ownBlock) (hu' : w1.ownsRow base 29 3 u es'.length (evs es')) :
    OwnTOp w1 base v (t.set i es') us := by
  obtain ⟨hi, hu, hu3⟩ := h.at_ hui
  refine ⟨?_, fun j hj => ?_, h.apart⟩
  · rw [List.length_set]
    exact h.row.kept hg (own_sep fun b hb e => hu3 b e hb)
  · have hj' : j < t.length := by rw [List.length_set] at hj; exact hj
    obtain ⟨x, h1, h2, h3⟩ := h.rows j hj'
    by_cases hji : j = i
    · subst hji
      rw [hui] at h1
      cases h1
      refine ⟨u, hui, ?_, hu3⟩
      rw [List.getElem_set_self]
      exact hu'
    · refine ⟨x, h1, ?_, h3⟩
      rw [List.getElem_set_ne (by omega)]
      exact h2.kept hg (own_sep fun b hb e => h.apart i j u x (by omega) hui h1 b e hb)

set_option maxRecDepth 100000 in
set_option maxHeartbeats 800000 in
theorem markOpSS_any (base k : Nat) (t : List (List Ev)) (us : List Value) (A : Option Addr) (c : Nat) (w : World) (hk : endT k t ≤ 1073741824) (ht : t.length ≤ 1048576) (h : OwnTOp w base (.slice A t.length c) t us) :
    Calls Try.prog 55 #[.slice A t.length c, .int .i64 k] w fun e w' => e = .returned (.int .i64 (endT k t : Nat)) ∧ OwnTOp w' base (.slice A t.length c) (mkT k t) us ∧ Only us w w' := by
  go_enter Try.func55, Try.ntmps55
  go_wp2
  go_loopw [1, 5] (fun q i wr => ∃ j : Nat, j ≤ t.length ∧ i = .int .i64 j ∧ (∃ K, Hid (K = endT k (t.take j)) ∧ q = .int .i64 (K : Nat)) ∧ OwnTOp wr base (.slice A t.length c) (halfM k t j) us ∧ Only us w wr) (fun _ i _ => t.length - (intOf i).toNat)
  case atStart => exact ⟨0, Nat.zero_le _, rfl, ⟨k, hide (by simp [endT, sumT]), rfl⟩, by rw [halfM_zero]; exact h, Only.refl _ _⟩
  case round =>
    obtain ⟨j, hj, rfl, ⟨K, HK, rfl⟩, ho, hs⟩ := hrel
    have hlen := halfM_length k t j hj
    by_cases hlt : j < t.length
    · obtain ⟨g, rfl⟩ : ∃ g, A = some ⟨g, 0, none⟩ := by
        rcases ho.row.2 with ⟨h', h''⟩ | ⟨g, cap, cur, h', _⟩
        · rw [hlen] at h''; omega
        · simp only [Value.slice.injEq] at h'
          exact ⟨g, h'.1⟩
      have hrow := ho.row
      rw [hlen] at hrow
      obtain ⟨u, hui, hru, hu3⟩ := ho.rows j (by omega)
      rw [halfM_get k t j hlt] at hru
      obtain ⟨a, d, hud⟩ := own_shape hru
      subst hud
      have hx0 : wr.cell? ⟨g, j, none⟩ = some (.slice a t[j].length d) := by
        rw [hrow.cellAt j (by omega)]
        exact hui
      have hend := endT_snoc k t j hlt
      have hle : endT k (t.take (j + 1)) ≤ endT k t := by have := sumT_take_le t (j + 1); unfold endT; omega
      have HE := hide hend
      have hk2 : endT k (t.take j) + t[j].length * 3 ≤ 1073741824 := by omega
      have MK := hide (markOpS_any base a t[j].length d (endT k (t.take j)) _ wr hk2 hru)
      have HM := hide (halfM_set k t j hlt)
      clear hend hle hlen
      rw [← HK.out] at MK hk2
      clear hrow
      go_wp2_with fail
      refine MK.out.mono ?_
      rintro e w2 ⟨rfl, o2, g2⟩
      have hT := ho.turn (es' := mkE K t[j].length) hui g2 (by rw [mkE_length]; exact o2)
      have hS := hs.trans (Only.of_grown g2 (List.mem_of_getElem? hui))
      rw [HK.out] at hT
      rw [HM.out] at hT
      clear g2 o2 ho hru hs hx0 MK
      go_wp2
      go_roundw
      case rel => exact ⟨j + 1, by omega, by go_num, ⟨K + t[j].length * 3, hide (by rw [HE.out, HK.out]), rfl⟩, hT, hS⟩
      case measure => simp [intOf]; omega
    · obtain rfl : j = t.length := by omega
      rw [halfM_all] at ho
      go_wp2
      go_ret
      exact ⟨by rw [HK.out, List.take_length]; rfl, ho, hs⟩

/-- After k rounds of a copy into own rows. -/
structure HalfOOp (base : Nat) (wr : World) (t : List (List Ev)) (k : Nat) (vs : List Value) : Prop where
  rows : ∀ i, i < k → (h : i < t.length) → ∃ u, vs[i]? = some u ∧ wr.ownsRow (base + 1) 29 3 u t[i].length (evs t[i])
  apart : ∀ (i j : Nat) (u u' : Value), i < k → j < k → i ≠ j → vs[i]? = some u → vs[j]? = some u' → ∀ b, u.ownBlock = some b → u'.ownBlock ≠ some b

set_option maxRecDepth 100000 in
set_option maxHeartbeats 800000 in
theorem toOpSS_own (t : List (List Ev)) (A : Option Addr) (c : Nat) (w : World) (hm : LenT 1048576 t) (h : RdT w w.heap.size A t) :
    Calls Try.prog 42 #[.slice A t.length c] w fun e w' => ∃ g us, e = .returned (.slice (some ⟨g, 0, none⟩) t.length t.length) ∧ OwnTOp w' w.heap.size (.slice (some ⟨g, 0, none⟩) t.length t.length) t us ∧ Below w.heap.size w w' := by
  obtain ⟨hm1, hm2⟩ := hm
  obtain ⟨i0, hi, hz0, hz1, hz2⟩ := info_parts info_ops
  go_enter Try.func42, Try.ntmps42
  go_wp2_with (at_make; refine wpList_make_full _ rfl _ _ 49 rfl w.heap.size 147 i0 (.slice none 0 0) 1 Try.underlying49 hi hz0 hz1 .i64 .i64 _ _ t.length rfl rfl rfl rfl (by rw [hz2]; omega) (by unfold maxLen; omega) (Nat.le_refl _) ?_; intro w1 hown hg)
  have hb1 : Below w.heap.size w w1 := (Below.refl _ _).grown hg (Nat.le_refl _) (by simp)
  clear hg
  go_loopw [4] (fun i wr => ∃ (k : Nat) (vs : List Value), k ≤ t.length ∧ i = .int .i64 k ∧ wr.ownsRow w.heap.size 147 1 (.slice (some ⟨w.heap.size, 0, none⟩) t.length t.length) t.length vs ∧ HalfOOp w.heap.size wr t k vs ∧ Below w.heap.size w wr) (fun i _ => t.length - (intOf i).toNat)
  case atStart => exact ⟨0, _, Nat.zero_le _, rfl, hown, ⟨fun i hi => by omega, fun i j u u' hi => by omega⟩, hb1⟩
  case round =>
    obtain ⟨k, vs, hk, rfl, ho, hH, hb⟩ := hrel
    have hlen : vs.length = t.length := by have := ho.1; omega
    by_cases hlt : k < t.length
    · obtain ⟨b, off, a, d, rfl, hbb, hc0, hle, hcm, hr⟩ := (h.below hb).get hlt
      have hz : w.heap.size < wr.heap.size := (ho.lt w.heap.size rfl).2
      go_wp2_with fail
      refine (toOpS_any t[k] a d _ (hm2 k hlt) hr.lt).mono ?_
      rintro e w2 ⟨g2, rfl, o2, hb2⟩
      have hb3 := hb.trans (hb2.mono hb.size)
      have ho2 := own_below ho hb2 (Nat.le_refl _)
      have hf0 := ho2.frozenAt k
      obtain ⟨v0, hx0⟩ : ∃ v, w2.cell? ⟨w.heap.size, k, none⟩ = some v := by
        rw [ho2.cellAt k (by omega)]
        exact ⟨_, List.getElem?_eq_getElem (by omega)⟩
      have hs := (ho2.stored k (.slice (some ⟨g2, 0, none⟩) t[k].length t[k].length)).1
      have hg2 := o2.lt g2 rfl
      have hH2 : HalfOOp w.heap.size (w2.setCell ⟨w.heap.size, k, none⟩ (.slice (some ⟨g2, 0, none⟩) t[k].length t[k].length)) t (k + 1) (vs.set k (.slice (some ⟨g2, 0, none⟩) t[k].length t[k].length)) := by
        have st : ∀ (u : Value) (n : Nat) (xs : List Value), w2.ownsRow (w.heap.size + 1) 29 3 u n xs → (w2.setCell ⟨w.heap.size, k, none⟩ (.slice (some ⟨g2, 0, none⟩) t[k].length t[k].length)).ownsRow (w.heap.size + 1) 29 3 u n xs :=
          fun u n xs hu => hu.kept (grown_set w2 w.heap.size k _) (own_sep fun b hb e => by have := hu.lt b hb; simp at e; omega)
        refine ⟨fun i hi hit => ?_, ?_⟩
        · by_cases hik : i = k
          · subst hik
            exact ⟨_, by rw [List.getElem?_set_self (by omega)], st _ _ _ (own_mono o2 (by omega))⟩
          · obtain ⟨u, q1, q2⟩ := hH.rows i (by omega) hit
            exact ⟨u, by rw [List.getElem?_set_ne (by omega)]; exact q1, st _ _ _ (own_below q2 hb2 (Nat.le_refl _))⟩
        · have key : ∀ (j : Nat) (x : Value), j < k + 1 → (vs.set k (.slice (some ⟨g2, 0, none⟩) t[k].length t[k].length))[j]? = some x → (j = k ∧ x = .slice (some ⟨g2, 0, none⟩) t[k].length t[k].length) ∨ (j < k ∧ vs[j]? = some x) := by
            intro j x hj hx
            by_cases hjk : j = k
            · subst hjk
              rw [List.getElem?_set_self (by omega)] at hx
              exact .inl ⟨rfl, (Option.some.inj hx).symm⟩
            · rw [List.getElem?_set_ne (by omega)] at hx
              exact .inr ⟨by omega, hx⟩
          have old : ∀ (j : Nat) (x : Value), j < k → vs[j]? = some x → ∀ b, x.ownBlock = some b → b < wr.heap.size := by
            intro j x hj hx b hb
            obtain ⟨u, q1, q2⟩ := hH.rows j hj (by omega)
            rw [hx] at q1
            cases q1
            exact (q2.lt b hb).2
          intro p q x y hp hq hpq hx hy b hb
          rcases key p x hp hx with ⟨p1, rfl⟩ | ⟨p1, p2⟩
          · rcases key q y hq hy with ⟨q1, rfl⟩ | ⟨q1, q2⟩
            · omega
            · intro e
              have := old q y q1 q2 b e
              simp only [Value.ownBlock, Option.some.injEq] at hb
              omega
          · rcases key q y hq hy with ⟨q1, rfl⟩ | ⟨q1, q2⟩
            · intro e
              have := old p x p1 p2 b hb
              simp only [Value.ownBlock, Option.some.injEq] at e
              omega
            · exact hH.apart p q x y p1 q1 hpq p2 q2 b hb
      have HS := hide hs
      have HH := hide hH2
      clear ho2 ho hs hH2 o2 hH
      go_wp2
      go_roundw
      case rel => exact ⟨k + 1, _, by omega, by go_num, HS.out, HH.out, hb3.setCell (Nat.le_refl _) _⟩
      case measure => simp [intOf]; omega
    · go_wp2
      go_ret
      refine ⟨_, vs, rfl, ⟨ho, fun i hi => ?_, ?_⟩, hb⟩
      · obtain ⟨u, q1, q2⟩ := hH.rows i (by omega) hi
        exact ⟨u, q1, own_mono q2 (by omega), fun b hb e => by have := q2.lt b hb; simp only [Value.ownBlock, Option.some.injEq] at e; omega⟩
      · intro i j u u' hij hu hu' b hb
        have hi : i < vs.length := by
          rcases Nat.lt_or_ge i vs.length with x | x
          · exact x
          · rw [List.getElem?_eq_none x] at hu; cases hu
        have hj : j < vs.length := by
          rcases Nat.lt_or_ge j vs.length with x | x
          · exact x
          · rw [List.getElem?_eq_none x] at hu'; cases hu'
        exact hH.apart i j u u' (by omega) (by omega) hij hu hu' b hb
theorem own_boundOp {w : World} {base : Nat} {v : Value} {t : List (List Ev)} {us : List Value} (h : OwnTOp w base v t us) : ∀ u ∈ us, ∀ b, u.ownBlock = some b → b < w.heap.size := fun u hu b hb => by
  obtain ⟨i, hi⟩ := List.getElem?_of_mem hu
  obtain ⟨_, h1, _⟩ := h.at_ hi
  exact (h1.lt b hb).2
end Go.Proofs.Ytifijhfeeammkaa
