/- What the laws' walks rest upon, part 10. -/
import Derived.Test.YtnnfkmjhaljplaaGreatM05
import Derived.Test.YtnnfkmjhaljplaaGreatM09
import Derived.Test.YtnnfkmjhaljplaaGreatM08
import Derived.Deep.RegionHeld3
import Derived.Deep.DeepCutAuto
import Derived.Test.YtnnfkmjhaljplaaGreatM03
import Derived.Test.YtnnfkmjhaljplaaGreatM04
import Derived.Maps.OwnSet
import Derived.Maps.OwnOps
import Derived.Carry
namespace Go.Proofs.YtnnfkmjhaljplaaGreat
open Go.RowKit
set_option maxHeartbeats 400000 in
theorem l1Ints_any (l : List Int) (A : Option Addr) (c : Nat) (w : World) (hm : l.length ≤ 1000) (hR : Rd .i64 w w.heap.size A l) :
    Calls Tryz.prog 75 #[.slice A l.length c] w fun e w' => ∃ v, e = .returned v ∧ OwnI w w.heap.size l v w' := by
  obtain ⟨i0, hi, hz0, hz1, hz2⟩ := info_parts info_i64
  have hb := (Below.refl w.heap.size w).alloc (Nat.le_refl _) (Obj.cells #[] 2)
  have hlit : (w.alloc (Obj.cells #[] 2)).ownsRow w.heap.size 2 1 (.slice (some ⟨w.heap.size, 0, none⟩) 0 0) 0 [] := World.ownsRow_lit w #[] 0 (Nat.le_refl _) (by simp) rfl
  go_enter Tryz.func75, Tryz.ntmps75
  go_wp2_with (at_builtin; refine wpList_append_rd _ rfl (.tmp 3) (.tmp 4) 29 rfl w.heap.size 2 i0 (.int .i64 0) 8 Tryz.underlying29 hi hz0 hz1 hz2 rfl .i64 _ _ _ rfl hlit A l c w.heap.size rfl (hR.alloc (Nat.le_refl _) _) (by unfold maxLen; omega) (by omega) (by simp) ?_; intro v' w' hown' hgrow hat)
  simp only [Nat.zero_add] at hown'
  go_ret
  exact ⟨v', rfl, by simpa using hown', hb.trans (grown_below hlit hgrow (by simp) (Nat.le_refl _)), Nat.le_refl _⟩
/-- The lengths of a trace's cores. -/
def lensI (t : List (List Ev)) : List Int := t.map fun l => (l.length : Int)
theorem lensI_length (t : List (List Ev)) : (lensI t).length = t.length := by simp [lensI]
set_option maxRecDepth 100000 in
set_option maxHeartbeats 800000 in
theorem l6Len_any (t : List (List Ev)) (A : Option Addr) (c : Nat) (w : World) (hm : t.length ≤ 1000) (h : RdT w w.heap.size A t) :
    Calls Tryz.prog 74 #[.slice A t.length c] w fun e w' => ∃ v, e = .returned v ∧ OwnI w w.heap.size (lensI t) v w' := by
  obtain ⟨i0, hi, hz0, hz1, hz2⟩ := info_parts info_i64
  have hO : OwnI w w.heap.size [] (.slice (some ⟨w.heap.size, 0, none⟩) 0 0) (w.alloc (Obj.cells #[] 2)) := ⟨World.ownsRow_lit w #[] 0 (Nat.le_refl _) (by simp) rfl, (Below.refl _ _).alloc (Nat.le_refl _) _, Nat.le_refl _⟩
  go_enter Tryz.func74, Tryz.ntmps74
  go_wp2
  go_loopw [3, 8] (fun v i wr => ∃ (k : Nat) (xs : List Int), k ≤ t.length ∧ i = .int .i64 k ∧ OwnI w w.heap.size xs v wr ∧ Hid (xs = lensI (t.take k))) (fun _ i _ => t.length - (intOf i).toNat)
  case atStart => exact ⟨0, [], Nat.zero_le _, rfl, hO, hide rfl⟩
  case round =>
    obtain ⟨k, xs, hk, rfl, ho, HX⟩ := hrel
    by_cases hlt : k < t.length
    · obtain ⟨b, off, a, d, rfl, hbb, hc0, hle, hcm, hr⟩ := (h.below ho.old).get hlt
      obtain ⟨D, dd, rfl⟩ := ho.shape
      have hkl : xs.length ≤ 1000 := by rw [HX.out, lensI_length, List.length_take]; omega
      have HT := hide (show xs ++ [(t[k].length : Int)] = lensI (t.take (k + 1)) by rw [HX.out, List.take_succ_eq_append_getElem hlt]; unfold lensI; rw [List.map_append]; rfl)
      obtain ⟨n, hn⟩ : ∃ n, n = t[k].length := ⟨_, rfl⟩
      rw [← hn] at hc0 HT
      have ho1 := ho.alloc (Obj.cells #[.int .i64 n] 2)
      have hBl := Rd.one_new wr (n : Int) 2
      have hz := ho.old.size
      clear hn hle hr ho
      go_wp2_with (at_builtin; refine wpList_append_rd _ rfl (.tmp 11) (.tmp 17) 29 rfl w.heap.size 2 i0 (.int .i64 0) 8 Tryz.underlying29 hi hz0 hz1 hz2 rfl .i64 _ _ _ rfl ho1.row (some ⟨wr.heap.size, 0, none⟩) [(n : Int)] 1 _ rfl hBl (by unfold maxLen; simp only [List.length_cons, List.length_nil]; omega) (by simp only [List.length_cons, List.length_nil]; omega) (by simp; omega) ?_; intro v5 w5 o5 g5 hat5; have ho5 := ho1.more o5 g5; clear o5 g5 hat5 ho1 hBl)
      go_roundw
      case rel => exact ⟨k + 1, _, by omega, by go_num, ho5, HT⟩
      case measure => simp [intOf]; omega
    · obtain rfl : k = t.length := by omega
      rw [List.take_length] at HX
      go_wp2
      go_ret
      have e := HX.out
      subst e
      exact ⟨_, rfl, ho⟩
/-- What is left of each core. -/
def lefR (t : List (List Ev)) (O : List Int) : List Value := (List.range t.length).map fun j : Nat => Value.int .i64 ((lenT t (j : Int) - cntO O (j : Int) : Nat) : Int)
theorem lefR_get (t : List (List Ev)) (O : List Int) (i : Nat) (h : i < t.length) : (lefR t O)[i]? = some (.int .i64 ((lenT t (i : Int) - cntO O (i : Int) : Nat) : Int)) := by simp [lefR, h]
theorem lefR_nil (t : List (List Ev)) : lefR t [] = (lensI t).map (Value.int .i64) := by
  apply List.ext_getElem
  · simp [lefR, lensI]
  · intro i h1 h2
    have hi : i < t.length := by simpa [lefR] using h1
    simp [lefR, lensI, cntO, lenT_at t i hi]
theorem lefR_set (t : List (List Ev)) (O : List Int) (i : Nat) (h : cntO O (i : Int) < lenT t (i : Int)) : (lefR t O).set i (.int .i64 (((lenT t (i : Int) - cntO O (i : Int) : Nat) : Int) - 1)) = lefR t (O ++ [(i : Int)]) := by
  apply List.ext_getElem
  · simp [lefR]
  · intro j h1 h2
    by_cases hij : i = j
    · subst hij
      rw [List.getElem_set_self]
      simp only [lefR, List.getElem_map, List.getElem_range, Value.int.injEq, true_and]
      rw [cntO_snoc, if_pos rfl]
      omega
    · rw [List.getElem_set_ne hij]
      simp only [lefR, List.getElem_map, List.getElem_range, Value.int.injEq, true_and]
      rw [cntO_snoc, if_neg (by omega), Nat.add_zero]
def lenV : Value → Nat
  | .slice _ n _ => n
  | _ => 0
/-- What is left, and the order so far, in the call's own memory. -/
structure OrS (W : World) (gl cl base : Nat) (t : List (List Ev)) (O : List Int) (v : Value) (w : World) : Prop where
  left : w.ownsRow W.heap.size 2 1 (.slice (some ⟨gl, 0, none⟩) t.length cl) t.length (lefR t O)
  out : w.ownsRow base 2 1 v O.length (O.map (Value.int .i64))
  old : Below W.heap.size W w
  apart : gl < base
  lo : W.heap.size ≤ gl
section
variable {W w w' w5 : World} {gl cl base : Nat} {t : List (List Ev)} {O : List Int} {v v' : Value} {x : Int}
theorem OrS.alloc (h : OrS W gl cl base t O v w) (o : Obj) : OrS W gl cl base t O v (w.alloc o) := ⟨h.left.alloc o, h.out.alloc o, h.old.alloc h.old.size o, h.apart, h.lo⟩
theorem OrS.cell (h : OrS W gl cl base t O v w) (i : Nat) (hi : i < t.length) : w.cell? ⟨gl, i, none⟩ = some (.int .i64 ((lenT t (i : Int) - cntO O (i : Int) : Nat) : Int)) := by
  rw [h.left.cellAt i (by omega)]
  exact lefR_get t O i hi
/-- One turn: what is left is turned; then the order grows. -/
theorem OrS.turn (h : OrS W gl cl base t O v w) (i : Nat) (hc : cntO O (i : Int) < lenT t (i : Int)) {o : Obj}
    (ho : w5.ownsRow base 2 1 v' (O.length + [(i : Int)].length) (O.map (Value.int .i64) ++ [(i : Int)].map (Value.int .i64))) (hg : ((w.setCell ⟨gl, i, none⟩ (.int .i64 (((lenT t (i : Int) - cntO O (i : Int) : Nat) : Int) - 1))).alloc o).grownBy w5 v.ownBlock) : OrS W gl cl base t (O ++ [(i : Int)]) v' w5 := by
  have h1 := (h.left.stored i (.int .i64 (((lenT t (i : Int) - cntO O (i : Int) : Nat) : Int) - 1)))
  have hlo := h.lo
  rw [lefR_set t O i hc] at h1
  have hout := (ownsRow_setCell_below h.out (a := ⟨gl, i, none⟩) h.apart (.int .i64 (((lenT t (i : Int) - cntO O (i : Int) : Nat) : Int) - 1))).alloc o
  have hap := h.apart
  have b1 : Below W.heap.size W ((w.setCell ⟨gl, i, none⟩ (.int .i64 (((lenT t (i : Int) - cntO O (i : Int) : Nat) : Int) - 1))).alloc o) := (h.old.setCell (by simp only; omega) _).alloc (by have := h.old.size; simpa using this) o
  refine ⟨(h1.1.alloc o).kept hg (own_sep fun b hb e => by simp only [Value.ownBlock, Option.some.injEq] at hb; have := hout.lt b e; omega), by rw [List.length_append, List.map_append]; exact ho, b1.trans (grown_below hout hg b1.size (by omega)), h.apart, h.lo⟩
/-- The order grows; then what is left is turned. -/
theorem OrS.turn2 (h : OrS W gl cl base t O v w) (i : Nat) (hc : cntO O (i : Int) < lenT t (i : Int)) {o : Obj}
    (ho : w5.ownsRow base 2 1 v' (O.length + [(i : Int)].length) (O.map (Value.int .i64) ++ [(i : Int)].map (Value.int .i64))) (hg : (w.alloc o).grownBy w5 v.ownBlock) : OrS W gl cl base t (O ++ [(i : Int)]) v' (w5.setCell ⟨gl, i, none⟩ (.int .i64 (((lenT t (i : Int) - cntO O (i : Int) : Nat) : Int) - 1))) ∧ w5.cell? ⟨gl, i, none⟩ = w.cell? ⟨gl, i, none⟩ ∧ w5.frozen? ⟨gl, i, none⟩ = false := by
  have hout := h.out.alloc o
  have hap := h.apart
  have hlo := h.lo
  have hl := (h.left.alloc o).kept hg (own_sep fun b hb e => by simp only [Value.ownBlock, Option.some.injEq] at hb; have := hout.lt b e; omega)
  have b1 : Below W.heap.size W (w.alloc o) := h.old.alloc h.old.size o
  have h1 := (hl.stored i (.int .i64 (((lenT t (i : Int) - cntO O (i : Int) : Nat) : Int) - 1))).1
  rw [lefR_set t O i hc] at h1
  have hlt : i < t.length := by have := lenT_in (t := t) (p := i) (by omega); omega
  refine ⟨⟨h1, ?_, (b1.trans (grown_below hout hg b1.size (by omega))).setCell (by simp only; omega) _, h.apart, h.lo⟩, ?_, hl.frozenAt i⟩
  · rw [List.length_append, List.map_append]
    exact ownsRow_setCell_below ho (a := ⟨gl, i, none⟩) h.apart _
  · rw [hl.cellAt i (by omega), h.left.cellAt i (by omega)]
end
set_option maxRecDepth 100000 in
set_option maxHeartbeats 1600000 in
theorem l6Order_any (t : List (List Ev)) (picks : List Int) (A Ap : Option Addr) (c cp : Nat) (w : World) (ht1 : 1 ≤ t.length) (ht4 : t.length ≤ 4) (hall : ∀ l ∈ t, l.length ≤ 8) (hpk : picks.length ≤ 150) (hl : Rd .i64 w w.heap.size A (lensI t)) (hp : Rd .i64 w w.heap.size Ap picks) :
    Calls Tryz.prog 47 #[.slice A t.length c, .slice Ap picks.length cp] w fun e w' => ∃ v, e = .returned v ∧ OwnI w w.heap.size (ordF t picks) v w' := by
  obtain ⟨i0, hi, hz0, hz1, hz2⟩ := info_parts info_i64
  have LI := hide (by have := l1Ints_any (lensI t) A c w (by rw [lensI_length]; omega) hl; rw [lensI_length] at this; exact this)
  have HOK := hide (fun k => okO_L (picks.take k) (okO_nil t))
  have HOL := hide (fun k => ordL_len t (picks.take k) [])
  have HO2 := hide (fun k => ordL_reps (okO_L picks (okO_nil t)) k)
  have HFL := hide (fun (k : Nat) (hk : k ≤ t.length) => by
    have := ordL_len t (repsT t k) (ordL t [] picks)
    have := repsT_len hall k
    have := ordL_len t picks []
    rw [(ordL_reps (okO_L picks (okO_nil t)) k).1] at *
    simp only [List.length_nil] at *
    show (fillO t (ordL t [] picks) k).length ≤ 182
    omega)
  have HL8 := hide (fun (p : Int) => show lenT t p ≤ 8 by
    by_cases h : 0 ≤ p ∧ p < (t.length : Int)
    · obtain ⟨j, rfl⟩ := Int.eq_ofNat_of_zero_le h.1
      rw [lenT_at t j (by omega)]
      exact hall _ (List.getElem_mem _)
    · rw [lenT_out t p (by omega)]; omega)
  clear hl hall
  go_enter Tryz.func47, Tryz.ntmps47
  go_wp2_with fail
  refine LI.out.mono ?_
  rintro e w1 ⟨v0, rfl, hI⟩
  have hrow := hI.row
  rw [lensI_length, ← lefR_nil] at hrow
  obtain ⟨Al, cl, rfl⟩ := own_shape hrow
  obtain ⟨gl, rfl⟩ : ∃ g, Al = some ⟨g, 0, none⟩ := by
    rcases hrow.2 with ⟨_, h''⟩ | ⟨g, cap, cur, h', _⟩
    · omega
    · simp only [Value.slice.injEq, true_and] at h'
      exact ⟨g, h'.1⟩
  have hgl := hrow.lt gl rfl
  have z1 := hI.old.size
  have s0 : OrS w gl cl w1.heap.size t [] (.slice (some ⟨w1.heap.size, 0, none⟩) 0 0) (w1.alloc (Obj.cells #[] 2)) :=
    ⟨hrow.alloc _, World.ownsRow_lit w1 #[] 0 (Nat.le_refl _) (by simp) rfl, hI.old.alloc z1 _, hgl.2, hgl.1⟩
  obtain ⟨base, hbase⟩ : ∃ b, b = w1.heap.size := ⟨_, rfl⟩
  have HB := hide hbase
  clear hI hrow hbase LI
  go_wp2_with fail
  rw [← HB.out] at s0 ⊢
  go_loopw [5, 13] (fun v i wr => ∃ (k : Nat) (O : List Int), k ≤ picks.length ∧ i = .int .i64 k ∧ OrS w gl cl base t O v wr ∧ base ≤ wr.heap.size ∧ Hid (O = ordL t [] (picks.take k))) (fun _ i _ => picks.length - (intOf i).toNat)
  case atStart => exact ⟨0, [], Nat.zero_le _, rfl, s0, by rw [HB.out]; simp, hide rfl⟩
  case round =>
    obtain ⟨k, O, hk, rfl, hs, hbz, HO⟩ := hrel
    clear s0
    by_cases hlt : k < picks.length
    · obtain ⟨b, off, rfl, hbb, hc0⟩ := (hp.below hs.old).get hlt
      have HT := hide (show ordL t [] (picks.take (k + 1)) = ordS t O picks[k] by rw [List.take_succ_eq_append_getElem hlt, ordL_snoc, HO.out])
      obtain ⟨D, d, rfl⟩ := own_shape hs.out
      have hOl : O.length ≤ 200 := by have := HOL.out k; rw [← HO.out, List.length_take] at this; simp only [List.length_nil] at this; omega
      by_cases hin : 0 ≤ picks[k] ∧ picks[k] ≤ (t.length : Int) - 1
      · obtain ⟨p, hpp⟩ := Int.eq_ofNat_of_zero_le hin.1
        have hin' : 0 ≤ (p : Int) ∧ (p : Int) ≤ (t.length : Int) - 1 := by rw [← hpp]; exact hin
        rw [hpp] at hc0 HT
        have hpt : p < t.length := by omega
        have hcl := hs.cell p hpt
        have hfl := hs.left.frozenAt p
        have h8 := HL8.out (p : Int)
        by_cases hcn : cntO O (p : Int) < lenT t (p : Int)
        · have HT2 := hide (show O ++ [(p : Int)] = ordL t [] (picks.take (k + 1)) by rw [HT.out, ordS_yes hcn])
          have TN := hide (fun o w5 v5 ho hg => hs.turn (w5 := w5) (v' := v5) p hcn (o := o) ho hg)
          have hbel := (hp.below hs.old)
          have hcF := fun u => RdV.far hbel ⟨gl, p, none⟩ u (fun x hx => by cases hx; have := hs.lo; simp only; omega)
          have hc1 := fun u => (Rd.get (show Rd .i64 (wr.setCell ⟨gl, p, none⟩ u) w.heap.size (some ⟨b, off, none⟩) picks from hcF u) hlt)
          obtain ⟨L, hL⟩ : ∃ L, L = lenT t (p : Int) - cntO O (p : Int) := ⟨_, rfl⟩
          have hL1 : 1 ≤ L := by omega
          have hL8 : L ≤ 8 := by omega
          rw [← hL] at hcl TN
          have hc2 : (wr.setCell ⟨gl, p, none⟩ (.int .i64 ((L : Int) - 1))).cell? ⟨b, off + k, none⟩ = some (.int .i64 (p : Int)) := by
            obtain ⟨b', off', e1, _, e2⟩ := hc1 (.int .i64 ((L : Int) - 1))
            cases e1
            rw [hpp] at e2
            exact e2
          have ho1 := (ownsRow_setCell_below hs.out (a := ⟨gl, p, none⟩) hs.apart (.int .i64 ((L : Int) - 1))).alloc (Obj.cells #[.int .i64 (p : Int)] 2)
          have hBl := Rd.one_new (wr.setCell ⟨gl, p, none⟩ (.int .i64 ((L : Int) - 1))) (p : Int) 2
          have hzs : (wr.setCell ⟨gl, p, none⟩ (.int .i64 ((L : Int) - 1))).heap.size = wr.heap.size := by simp
          rw [hzs] at hBl
          clear hL hcF hc1 hbel hin hpp hcn hs
          go_wp2_with fail
          refine (l1In_yes _ _ _ _ hin').mono ?_
          rintro e w2 ⟨rfl, rfl⟩
          go_wp2_with (at_builtin; refine wpList_append_rd _ rfl (.tmp 43) (.tmp 48) 29 rfl base 2 i0 (.int .i64 0) 8 Tryz.underlying29 hi hz0 hz1 hz2 rfl .i64 _ _ _ rfl ho1 (some ⟨wr.heap.size, 0, none⟩) [(p : Int)] 1 _ rfl hBl (by unfold maxLen; simp only [List.length_cons, List.length_nil]; omega) (by simp only [List.length_cons, List.length_nil]; omega) (by simp; omega) ?_; intro v5 w5 o5 g5 hat5; have zz := g5.size; have ho5 := TN.out _ w5 v5 o5 g5; clear o5 g5 hat5 ho1 hBl)
          go_roundw
          case rel => exact ⟨k + 1, _, by omega, by go_num, ho5, by simp at zz; omega, HT2⟩
          case measure => simp [intOf]; omega
        · have HT2 := hide (show O = ordL t [] (picks.take (k + 1)) by rw [HT.out, ordS_no hcn])
          have hL : lenT t (p : Int) - cntO O (p : Int) = 0 := by omega
          rw [hL] at hcl
          clear hL hin hpp hcn
          go_wp2_with fail
          refine (l1In_yes _ _ _ _ hin').mono ?_
          rintro e w2 ⟨rfl, rfl⟩
          go_wp2
          go_roundw
          case rel => exact ⟨k + 1, _, by omega, by go_num, hs, hbz, HT2⟩
          case measure => simp [intOf]; omega
      · have hcn : ¬ cntO O picks[k] < lenT t picks[k] := fun h => hin (by have := lenT_in (t := t) (p := picks[k]) (by omega); omega)
        have HT2 := hide (show O = ordL t [] (picks.take (k + 1)) by rw [HT.out, ordS_no hcn])
        have hin' : picks[k] < 0 ∨ (t.length : Int) - 1 < picks[k] := by omega
        clear hin hcn
        go_wp2_with fail
        refine (l1In_no _ _ _ _ hin').mono ?_
        rintro e w2 ⟨rfl, rfl⟩
        go_wp2
        go_roundw
        case rel => exact ⟨k + 1, _, by omega, by go_num, hs, hbz, HT2⟩
        case measure => simp [intOf]; omega
    · obtain rfl : k = picks.length := by omega
      rw [List.take_length] at HO
      go_wp2
      go_loopw [5, 53] (fun v i wr => ∃ (k : Nat) (O : List Int), k ≤ t.length ∧ i = .int .i64 k ∧ OrS w gl cl base t O v wr ∧ base ≤ wr.heap.size ∧ Hid (O = fillO t (ordL t [] picks) k)) (fun _ i _ => t.length - (intOf i).toNat)
      case atStart => exact ⟨0, O, Nat.zero_le _, rfl, hs, hbz, hide HO.out⟩
      case round =>
        clear hs HO hbz
        obtain ⟨k, O, hk, rfl, hs, hbz, HO⟩ := hrel
        by_cases hlt : k < t.length
        · have hfk := HFL.out k (by omega)
          have hfk1 := HFL.out (k + 1) (by omega)
          rw [fillO, List.length_append, List.length_replicate] at hfk1
          obtain ⟨dd, hdd⟩ : ∃ dd, dd = lenT t (k : Int) - cntO O (k : Int) := ⟨_, rfl⟩
          have HN := hide (show fillO t (ordL t [] picks) (k + 1) = O ++ List.replicate dd (k : Int) by rw [fillO, ← HO.out, hdd])
          rw [← HO.out, ← hdd] at hfk1
          have hO0 : O.length ≤ 200 := by omega
          have HDD := hide hdd
          obtain ⟨OF, hOF⟩ : ∃ OF, OF = O := ⟨_, rfl⟩
          rw [← hOF] at HN HDD hfk1 hO0
          have HOFL := hide hOF
          clear hdd hOF hfk
          go_wp2
          go_loopw [5] (fun v wr => ∃ (j : Nat) (O : List Int), j ≤ dd ∧ OrS w gl cl base t O v wr ∧ base ≤ wr.heap.size ∧ Hid (O = OF ++ List.replicate j (k : Int))) (fun v _ => OF.length + dd - lenV v)
          case atStart => exact ⟨0, O, Nat.zero_le _, hs, hbz, hide (by rw [HOFL.out]; simp)⟩
          case round =>
            clear hs HO hbz HOFL
            obtain ⟨j, O, hj, hs, hbz, HO⟩ := hrel
            obtain ⟨D, d, rfl⟩ := own_shape hs.out
            have hcl := hs.cell k hlt
            have hcnt : cntO O (k : Int) = cntO OF (k : Int) + j := by rw [HO.out, cntO_append, cntO_rep, if_pos rfl]
            have hOl : O.length = OF.length + j := by rw [HO.out, List.length_append, List.length_replicate]
            have h8 := HL8.out (k : Int)
            have hdj : lenT t (k : Int) - cntO O (k : Int) = dd - j := by rw [HDD.out]; omega
            have hd8 : dd ≤ 8 := by rw [HDD.out]; omega
            by_cases hjd : j < dd
            · have hcn : cntO O (k : Int) < lenT t (k : Int) := by omega
              have HT2 := hide (show O ++ [(k : Int)] = OF ++ List.replicate (j + 1) (k : Int) by rw [HO.out, List.append_assoc, ← List.replicate_succ'])
              have TN := hide (fun o w5 v5 ho hg => hs.turn2 (w5 := w5) (v' := v5) k hcn (o := o) ho hg)
              rw [hcl] at TN
              have ho1 := hs.out.alloc (Obj.cells #[.int .i64 (k : Int)] 2)
              have hBl := Rd.one_new wr (k : Int) 2
              rw [hdj] at TN hcl
              obtain ⟨L, hL⟩ : ∃ L, L = dd - j := ⟨_, rfl⟩
              rw [← hL] at TN hcl
              have hL1 : 1 ≤ L := by omega
              have hL8 : L ≤ 8 := by omega
              have HOl := hide hOl
              have hO2 : O.length ≤ 400 := by omega
              clear hL hdj hcnt hcn hs hOl
              go_wp2_with (at_builtin; refine wpList_append_rd _ rfl (.tmp 67) (.tmp 69) 29 rfl base 2 i0 (.int .i64 0) 8 Tryz.underlying29 hi hz0 hz1 hz2 rfl .i64 _ _ _ rfl ho1 (some ⟨wr.heap.size, 0, none⟩) [(k : Int)] 1 _ rfl hBl (by unfold maxLen; simp only [List.length_cons, List.length_nil]; omega) (by simp only [List.length_cons, List.length_nil]; omega) (by simp; omega) ?_; intro v5 w5 o5 g5 hat5; obtain ⟨D5, d5, hv5⟩ := own_shape o5; subst hv5; have zz := g5.size; obtain ⟨ho5, e5, f5⟩ := TN.out _ w5 _ o5 g5; clear o5 g5 hat5 ho1 hBl TN)
              go_roundw
              case rel => exact ⟨j + 1, _, by omega, ho5, by simp at zz ⊢; omega, HT2⟩
              case measure => have := HOl.out; simp [lenV]; omega
            · have hL : lenT t (k : Int) - cntO O (k : Int) = 0 := by omega
              rw [hL] at hcl
              have HN2 := hide (show O = fillO t (ordL t [] picks) (k + 1) by rw [HN.out, HO.out, show j = dd by omega])
              clear hL hdj hcnt hOl
              go_wp2
              go_roundw
              case rel => exact ⟨k + 1, _, by omega, by go_num, hs, hbz, HN2⟩
              case measure => simp [intOf]; omega
        · obtain rfl : k = t.length := by omega
          go_wp2
          go_ret
          have e := HO.out
          subst e
          exact ⟨_, rfl, own_mono hs.out (by have := hs.lo; have := hs.apart; omega), hs.old, Nat.le_refl _⟩
end Go.Proofs.YtnnfkmjhaljplaaGreat
namespace Go.Proofs.YtnnfkmjhaljplaaGreat
open Go.RowKit Go.Maps
/-- The address of an event slice from place k on. -/
def cutM (A : Option Addr) (k c : Nat) : Option Addr := if c = k then A else A.map (·.add (k * 3))
theorem evs_dropM : ∀ (es : List Ev) (n : Nat), evs (es.drop n) = (evs es).drop (n * 3)
  | [], n => by simp [evs]
  | e :: r, 0 => by simp
  | e :: r, n + 1 => by
    rw [List.drop_succ_cons, evs_dropM r n, show (n + 1) * 3 = n * 3 + 1 + 1 + 1 by omega]
    rfl
theorem RdE.cutM {w : World} {B : Nat} {A : Option Addr} {es : List Ev} (h : RdE w B A es) {n c : Nat} (hc : es.length ≤ c) : RdE w B (cutM A n c) (es.drop n) := by
  intro h0
  have h1 : n < es.length := by rw [evs_length, List.length_drop] at h0; omega
  obtain ⟨b, off, rfl, hb, hx⟩ := h (by rw [evs_length]; omega)
  unfold Go.Proofs.YtnnfkmjhaljplaaGreat.cutM
  rw [if_neg (by omega)]
  refine ⟨b, off + n * 3, by simp [Go.WideShapes.add_plain], hb, fun i hi => ?_⟩
  have hi' : n * 3 + i < (evs es).length := by rw [evs_length] at hi ⊢; rw [List.length_drop] at hi; omega
  have := hx (n * 3 + i) hi'
  rw [← Nat.add_assoc] at this
  rw [this]
  have e : (evs (es.drop n))[i]? = (evs es)[n * 3 + i]? := by rw [evs_dropM, List.getElem?_drop]
  rw [List.getElem?_eq_getElem hi, List.getElem?_eq_getElem hi'] at e
  exact e.symm
theorem run_tailM (A : Option Addr) (n k c : Nat) (l : Int) (w : World) (hl : l = k) (hk : k ≤ n) : (Instr.slice 88 (.slice A n c) (some (.int .i64 l)) none none).run Tryz.prog w = .ok (.slice (cutM A k c) (n - k) (c - k)) w := by
  subst hl
  have h2 : (0 : Int) ≤ (k : Int) ∧ (k : Int) ≤ (n : Int) := by omega
  simp [go_sem, h2, cutM]
theorem lawK : Keyed Tryz.prog 2 := int_keyed Tryz.underlying2
theorem zeroEs (w : World) : (zeroValue 88).run Tryz.prog w = .ok (.slice none 0 0) w := by kernel_rfl
/-- An element of a map reads as itself. -/
def rdH : Value → Option (DataW Value × List MemPlace) := fun v => some (.held v, [])
abbrev zH : DataW Value := .held (.slice none 0 0)
section
variable {P : Program} (w : World) {ops : Array Oper} {rest : List Oper} {o : Oper} {a : Act} {Q : Exit → Act → World → Prop}
theorem wpList_lookup_held (hg : o.guard = none) (m x : Operand) (t : TypeId) (hop : o.op = Op.lookup t m x true)
    (k e : TypeId) (K : Keyed P k) (ht : P.underlying t = some (.map k e)) {z : Value} (hz : (zeroValue e).run P w = .ok z w) (b n : Nat) (D : DataW Value)
    (hm : a.eval m = .map (some b)) (hown : w.ownsMap P k rdH b n D) (key : Value) (kl : Lit) (hx : a.eval x = key) (hkey : keyOf P k key = some kl) (v : Value) (hat : D.atKey kl (.held z) = .held v) (ok : Bool) (hok : Maps.has D kl = ok)
    (hK : wpList P ops Q rest (a.put o.dst (.tuple #[v, .bool ok])) w) :
    wpList P ops Q (o :: rest) a w := by
  subst hok
  refine wpList_lookup_own_ok w hg m x t hop k e K ht rdH hz (.held z) [] rfl b n D hm hown key kl hx hkey (fun v' ps hv => ?_)
  have : v' = v := by
    simp only [rdH, Option.some.injEq, Prod.mk.injEq] at hv
    rw [hat] at hv
    have := hv.1
    injection this
  rw [this]
  exact hK
end
/-- What is left of the cores of t behind the order O lies in the map in block M; the events lie below B. -/
def LeftM (w : World) (B M n : Nat) (t : List (List Ev)) (O : List Int) : Prop :=
  ∃ D : DataW Value, w.ownsMap Tryz.prog 2 rdH M n D ∧ ∀ p : Int, I64 p →
    (Maps.has D (.int .i64 p) = decide (cntO O p < lenT t p)) ∧
    (cntO O p < lenT t p → ∃ a d, D.atKey (.int .i64 p) zH = .held (.slice a (lenT t p - cntO O p) d) ∧ lenT t p - cntO O p ≤ d ∧ d ≤ maxLen ∧ RdE w B a ((t.getD p.toNat []).drop (cntO O p)))
section
variable {w w' : World} {B M n : Nat} {t : List (List Ev)} {O : List Int}
theorem LeftM.other {row : Option Nat} (h : LeftM w B M n t O) (hg : w.grownBy w' row) (hne : some M ≠ row) (hb : Below B w w') : LeftM w' B M n t O := by
  obtain ⟨D, h1, h2⟩ := h
  refine ⟨D, h1.kept hg hne, fun p hp => ⟨(h2 p hp).1, fun hc => ?_⟩⟩
  obtain ⟨a, d, e1, e2, e3, e4⟩ := (h2 p hp).2 hc
  exact ⟨a, d, e1, e2, e3, e4.below hb⟩
theorem LeftM.lt (h : LeftM w B M n t O) : M < w.heap.size := by obtain ⟨D, h1, _⟩ := h; exact h1.lt
theorem LeftM.below (h : LeftM w B M n t O) (hb : Below w.heap.size w w') (hB : B ≤ w.heap.size) : LeftM w' B M n t O :=
  h.other (row := none) ⟨hb.os, hb.tape, hb.output, hb.size, fun k hk _ => hb.block k hk⟩ (by simp) (hb.mono hB)
theorem LeftM.isMap (h : LeftM w B M n t O) : ∃ es clock, w.heap[M]? = some (.map es clock) := by obtain ⟨D, ⟨es, clock, hb, _⟩, _⟩ := h; exact ⟨es, clock, hb⟩
end
theorem keyI (p : Int) : Go.WideAt.IsKeyLit (.int .i64 p) := trivial
theorem lit_ne {p q : Int} (h : p ≠ q) : (Lit.int .i64 p) ≠ .int .i64 q := fun e => h (by injection e)
/-- A core put in. -/
theorem put_math {D : DataW Value} {t : List (List Ev)} {k : Nat} (hk : k < t.length) (hD : IsMap D) {w : World} {B : Nat} {a : Option Addr} {d : Nat} (h0 : 0 < t[k].length) (hd : t[k].length ≤ d) (hm : d ≤ maxLen) (hr : RdE w B a t[k])
    (h : ∀ p : Int, I64 p → (Maps.has D (.int .i64 p) = decide (cntO [] p < lenT (t.take k) p)) ∧ (cntO [] p < lenT (t.take k) p → ∃ a d, D.atKey (.int .i64 p) zH = .held (.slice a (lenT (t.take k) p - cntO [] p) d) ∧ lenT (t.take k) p - cntO [] p ≤ d ∧ d ≤ maxLen ∧ RdE w B a (((t.take k).getD p.toNat []).drop (cntO [] p)))) :
    ∀ p : Int, I64 p → (Maps.has (D.put (.int .i64 (k : Int)) (.held (.slice a t[k].length d))) (.int .i64 p) = decide (cntO [] p < lenT (t.take (k + 1)) p)) ∧
      (cntO [] p < lenT (t.take (k + 1)) p → ∃ a' d', (D.put (.int .i64 (k : Int)) (.held (.slice a t[k].length d))).atKey (.int .i64 p) zH = .held (.slice a' (lenT (t.take (k + 1)) p - cntO [] p) d') ∧ lenT (t.take (k + 1)) p - cntO [] p ≤ d' ∧ d' ≤ maxLen ∧ RdE w B a' (((t.take (k + 1)).getD p.toNat []).drop (cntO [] p))) := by
  intro p hp
  have hkt : k < (t.take (k + 1)).length := by rw [List.length_take]; omega
  have hgk : (t.take (k + 1))[k] = t[k] := List.getElem_take
  by_cases hpk : p = (k : Int)
  · subst hpk
    rw [has_put_same hD (keyI _), atKey_put_same hD (keyI _), lenT_at _ k hkt, hgk]
    refine ⟨by simp [cntO, h0], fun _ => ⟨a, d, by simp [cntO], by simp only [cntO]; omega, hm, ?_⟩⟩
    have e : (t.take (k + 1)).getD ((k : Int).toNat) [] = t[k] := by rw [Int.toNat_natCast, List.getD_eq_getElem?_getD, List.getElem?_eq_getElem hkt, hgk]; rfl
    rw [e]
    exact hr
  · rw [has_put_other (lit_ne hpk), atKey_put_other (lit_ne hpk)]
    have e1 : (t.take (k + 1)).getD p.toNat [] = (t.take k).getD p.toNat [] ∨ ¬ 0 ≤ p := by
      by_cases hp0 : 0 ≤ p
      · refine .inl ?_
        rw [List.getD_eq_getElem?_getD, List.getD_eq_getElem?_getD]
        congr 1
        by_cases hlt : p.toNat < k
        · rw [List.getElem?_take_of_lt (by omega), List.getElem?_take_of_lt hlt]
        · rw [List.getElem?_eq_none (by rw [List.length_take]; omega), List.getElem?_eq_none (by rw [List.length_take]; omega)]
      · exact .inr hp0
    have e2 : lenT (t.take (k + 1)) p = lenT (t.take k) p := by
      unfold lenT
      rcases e1 with e | e
      · rw [e]
      · rw [if_neg e, if_neg e]
    rw [e2]
    refine ⟨(h p hp).1, fun hc => ?_⟩
    rcases e1 with e | e
    · rw [e]; exact (h p hp).2 hc
    · have := lenT_in (t := t.take k) (p := p) (by omega)
      omega
/-- A core without events. -/
theorem skip_math {t : List (List Ev)} {k : Nat} (hk : k < t.length) (h0 : t[k].length = 0) (p : Int) : lenT (t.take (k + 1)) p = lenT (t.take k) p ∧ (0 < lenT (t.take k) p → (t.take (k + 1)).getD p.toNat [] = (t.take k).getD p.toNat []) := by
  have hkt : k < (t.take (k + 1)).length := by rw [List.length_take]; omega
  have hgk : (t.take (k + 1))[k] = t[k] := List.getElem_take
  by_cases hpk : p = (k : Int)
  · subst hpk
    have e : lenT (t.take k) (k : Int) = 0 := lenT_out _ _ (by rw [List.length_take]; omega)
    rw [lenT_at _ k hkt, hgk, e]
    exact ⟨h0, fun h => by omega⟩
  · by_cases hp0 : 0 ≤ p
    · have e1 : (t.take (k + 1)).getD p.toNat [] = (t.take k).getD p.toNat [] := by
        rw [List.getD_eq_getElem?_getD, List.getD_eq_getElem?_getD]
        congr 1
        by_cases hlt : p.toNat < k
        · rw [List.getElem?_take_of_lt (by omega), List.getElem?_take_of_lt hlt]
        · rw [List.getElem?_eq_none (by rw [List.length_take]; omega), List.getElem?_eq_none (by rw [List.length_take]; omega)]
      exact ⟨by unfold lenT; rw [e1], fun _ => e1⟩
    · refine ⟨by unfold lenT; rw [if_neg hp0, if_neg hp0], fun h => ?_⟩
      have := lenT_in (t := t.take k) (p := p) h
      omega
set_option maxRecDepth 100000 in
set_option maxHeartbeats 800000 in
theorem left_any (t : List (List Ev)) (A : Option Addr) (c : Nat) (w : World) (hm : t.length ≤ 4) (h8 : ∀ l ∈ t, l.length ≤ 8) (h : RdT w w.heap.size A t) :
    Calls Tryz.prog 53 #[.slice A t.length c] w fun e w' => e = .returned (.map (some w.heap.size)) ∧ LeftM w' w.heap.size w.heap.size 4 t [] ∧ Below w.heap.size w w' := by
  have hmm := @run_makeMap Tryz.prog
  have TE : t.take t.length = t := List.take_length
  go_enter Tryz.func53, Tryz.ntmps53
  go_wp2
  go_loopw [9] (fun i wr => ∃ k : Nat, k ≤ t.length ∧ i = .int .i64 k ∧ LeftM wr w.heap.size w.heap.size k (t.take k) [] ∧ Below w.heap.size w wr) (fun i _ => t.length - (intOf i).toNat)
  case atStart =>
    refine ⟨0, Nat.zero_le _, rfl, ⟨.map [], World.ownsMap_made _ _ _ _, fun p _ => ?_⟩, (Below.refl _ _).alloc (Nat.le_refl _) _⟩
    have e : lenT (t.take 0) p = 0 := by
      rw [List.take_zero]
      exact lenT_out [] p (by simp; omega)
    rw [e]
    exact ⟨by simp [Maps.has], fun h => by omega⟩
  case round =>
    obtain ⟨k, hk, rfl, hL, hb⟩ := hrel
    by_cases hlt : k < t.length
    · obtain ⟨b, off, a, d, rfl, hbb, hc0, hle, hcm, hr⟩ := (h.below hb).get hlt
      have hk8 := h8 _ (List.getElem_mem hlt)
      by_cases h0 : 0 < t[k].length
      · obtain ⟨D, hown, hD⟩ := hL
        have HP := hide (put_math hlt hown.isMap h0 hle hcm hr hD)
        have HR := hide (fun (p : Int) w2 (hb : Below w.heap.size wr w2) (a : Option Addr) (es : List Ev) (h : RdE wr w.heap.size a es) => h.below hb)
        obtain ⟨es, hes⟩ : ∃ es, es = t[k] := ⟨_, rfl⟩
        rw [← hes] at hc0 h0 HP hk8
        have hkey : keyOf Tryz.prog 2 (.int .i64 (k : Int)) = some (.int .i64 (k : Int)) := keyOf_int_mk Tryz.underlying2 (WalkArith.wf_i64 (by omega))
        clear hes hD hr hle
        go_wp2_with (first | (at_mapUpdate; refine wpList_mapUpdate_own _ rfl _ _ _ 116 rfl 2 88 lawK Tryz.underlying116 rdH w.heap.size k D rfl hown (by unfold maxLen; omega) _ _ _ rfl rfl hkey (.held (.slice a es.length d)) [] rfl ?_; intro w1 hown1 hgrow1) | go_in)
        have hb1 : Below w.heap.size wr w1 := (Below.refl _ _).grown hgrow1 hb.size (fun k e => by cases e; exact Nat.le_refl _)
        go_roundw
        case rel =>
          refine ⟨k + 1, by omega, by go_num, ⟨_, hown1, fun p hp => ⟨(HP.out p hp).1, fun hc => ?_⟩⟩, hb.trans hb1⟩
          obtain ⟨a', d', e1, e2, e3, e4⟩ := (HP.out p hp).2 hc
          exact ⟨a', d', e1, e2, e3, e4.below hb1⟩
        case measure => simp [intOf]; omega
      · have hz : t[k].length = 0 := by omega
        have HS := hide (skip_math hlt hz)
        rw [hz] at hc0
        clear hr hle hk8 h0
        go_wp2
        go_roundw
        case rel =>
          obtain ⟨D, hown, hD⟩ := hL
          refine ⟨k + 1, by omega, by go_num, ⟨D, hown.mono (Nat.le_succ k), fun p hp => ?_⟩, hb⟩
          obtain ⟨s1, s2⟩ := HS.out p
          rw [s1]
          refine ⟨(hD p hp).1, fun hc => ?_⟩
          rw [s2 (by omega)]
          exact (hD p hp).2 hc
        case measure => simp [intOf]; omega
    · obtain rfl : k = t.length := by omega
      rw [TE] at hL
      go_wp2
      go_ret
      obtain ⟨D, hown, hD⟩ := hL
      exact ⟨rfl, ⟨D, hown.mono hm, hD⟩, hb⟩
/-- A turn taken: the map behind it. -/
theorem take_math {D D' : DataW Value} {t : List (List Ev)} {O : List Int} {p : Int} {w : World} {B : Nat} {a : Option Addr} {d : Nat} (hD : IsMap D) (hlt : cntO O p < lenT t p)
    (hd : lenT t p - cntO O p ≤ d) (hm : d ≤ maxLen) (hr : RdE w B a ((t.getD p.toNat []).drop (cntO O p)))
    (hD' : D' = if lenT t p - cntO O p = 1 then (D.put (.int .i64 p) (.held (.slice (cutM a 1 d) (lenT t p - cntO O p - 1) (d - 1)))).del (.int .i64 p) else D.put (.int .i64 p) (.held (.slice (cutM a 1 d) (lenT t p - cntO O p - 1) (d - 1))))
    (h : ∀ q : Int, I64 q → (Maps.has D (.int .i64 q) = decide (cntO O q < lenT t q)) ∧ (cntO O q < lenT t q → ∃ a d, D.atKey (.int .i64 q) zH = .held (.slice a (lenT t q - cntO O q) d) ∧ lenT t q - cntO O q ≤ d ∧ d ≤ maxLen ∧ RdE w B a ((t.getD q.toNat []).drop (cntO O q)))) :
    ∀ q : Int, I64 q → (Maps.has D' (.int .i64 q) = decide (cntO (O ++ [p]) q < lenT t q)) ∧
      (cntO (O ++ [p]) q < lenT t q → ∃ a d, D'.atKey (.int .i64 q) zH = .held (.slice a (lenT t q - cntO (O ++ [p]) q) d) ∧ lenT t q - cntO (O ++ [p]) q ≤ d ∧ d ≤ maxLen ∧ RdE w B a ((t.getD q.toNat []).drop (cntO (O ++ [p]) q))) := by
  intro q hq
  have hlen : (t.getD p.toNat []).length = lenT t p := by
    have := lenT_in (t := t) (p := p) (by omega)
    unfold lenT
    rw [if_pos this.1]
  by_cases hqp : q = p
  · subst hqp
    rw [cntO_snoc, if_pos rfl]
    by_cases h1 : lenT t q - cntO O q = 1
    · rw [hD', if_pos h1, has_del_same]
      refine ⟨(decide_eq_false (by omega)).symm, fun hc => by omega⟩
    · rw [hD', if_neg h1, has_put_same hD (keyI _), atKey_put_same hD (keyI _)]
      refine ⟨(decide_eq_true (by omega)).symm, fun _ => ⟨cutM a 1 d, d - 1, by rw [Nat.sub_sub], by omega, by omega, ?_⟩⟩
      have := hr.cutM (n := 1) (c := d) (by rw [List.length_drop, hlen]; exact hd)
      rw [List.drop_drop] at this
      exact this
  · rw [cntO_snoc, if_neg (fun e => hqp e.symm), Nat.add_zero]
    have e1 : Maps.has D' (.int .i64 q) = Maps.has D (.int .i64 q) := by
      rw [hD']
      split
      · rw [has_del_other (lit_ne hqp), has_put_other (lit_ne hqp)]
      · rw [has_put_other (lit_ne hqp)]
    have e2 : D'.atKey (.int .i64 q) zH = D.atKey (.int .i64 q) zH := by
      rw [hD']
      split
      · rw [atKey_del_other (lit_ne hqp), atKey_put_other (lit_ne hqp)]
      · rw [atKey_put_other (lit_ne hqp)]
    rw [e1, e2]
    exact h q hq
end Go.Proofs.YtnnfkmjhaljplaaGreat
