/- Contracts of the model's own order of turns: copies of numbers, lengths, the order. -/
import Derived.Test.YtldepledinolmaaGMsi
import Derived.Test.YtldepledinolmaaPick
import Derived.Test.YtldepledinolmaaGTrS
namespace Go.Proofs.Ytldepledinolmaa
open Go.RowKit

theorem i64_cells : (Value.int IntKind.i64 0).cells.size = 1 := rfl
set_option maxHeartbeats 400000 in
theorem l1Ints_any (l : List Int) (A : Option Addr) (c : Nat) (w : World) (hm : l.length ≤ 1000) (hR : Rd .i64 w w.heap.size A l) :
    Calls Try.prog 69 #[.slice A l.length c] w fun e w' => ∃ v, e = .returned v ∧ OwnI w w.heap.size l v w' := by
  obtain ⟨i0, hi, hz0, hz1, hz2⟩ := info_parts info_i64
  have hb := (Below.refl w.heap.size w).alloc (Nat.le_refl _) (Obj.cells #[] 2)
  have hlit : (w.alloc (Obj.cells #[] 2)).ownsRow w.heap.size 2 1 (.slice (some ⟨w.heap.size, 0, none⟩) 0 0) 0 [] := World.ownsRow_lit w #[] 0 (Nat.le_refl _) (by simp) rfl
  go_enter Try.func69, Try.ntmps69
  go_wp2_with (at_builtin; refine wpList_append_rd _ rfl (.tmp 3) (.tmp 4) 41 rfl w.heap.size 2 i0 (.int .i64 0) 8 Try.underlying41 hi hz0 hz1 hz2 rfl .i64 _ _ _ rfl hlit A l c w.heap.size rfl (hR.alloc (Nat.le_refl _) _) (by unfold maxLen; omega) (by omega) (by simp) ?_; intro v' w' hown' hgrow hat)
  simp only [Nat.zero_add] at hown'
  go_ret
  exact ⟨v', rfl, by simpa using hown', hb.trans (grown_below hlit hgrow (by simp) (Nat.le_refl _)), Nat.le_refl _⟩

/-- The lengths of a trace's cores. -/
def lensI (t : List (List Ev)) : List Int := t.map fun l => (l.length : Int)
theorem lensI_length (t : List (List Ev)) : (lensI t).length = t.length := by simp [lensI]
set_option maxRecDepth 100000 in
set_option maxHeartbeats 800000 in
theorem l6Len_any (t : List (List Ev)) (A : Option Addr) (c : Nat) (w : World) (hm : t.length ≤ 1000) (h : RdT w w.heap.size A t) :
    Calls Try.prog 130 #[.slice A t.length c] w fun e w' => ∃ v, e = .returned v ∧ OwnI w w.heap.size (lensI t) v w' := by
  obtain ⟨i0, hi, hz0, hz1, hz2⟩ := info_parts info_i64
  have hO : OwnI w w.heap.size [] (.slice (some ⟨w.heap.size, 0, none⟩) 0 0) (w.alloc (Obj.cells #[] 2)) := ⟨World.ownsRow_lit w #[] 0 (Nat.le_refl _) (by simp) rfl, (Below.refl _ _).alloc (Nat.le_refl _) _, Nat.le_refl _⟩
  go_enter Try.func130, Try.ntmps130
  go_wp2
  go_loopw [3, 8] (fun v i wr => ∃ (k : Nat) (xs : List Int), k ≤ t.length ∧ i = .int .i64 k ∧ OwnI w w.heap.size xs v wr ∧ Hid (xs = lensI (t.take k))) (fun _ i _ => t.length - (intOf i).toNat)
  case atStart => exact ⟨0, [], Nat.zero_le _, rfl, hO, hide rfl⟩
  case round =>
    obtain ⟨k, xs, hk, rfl, ho, HX⟩ := hrel
    by_cases hlt : k < t.length
    · obtain ⟨b, off, a, d, rfl, hbb, hc0, hle, hcm, hr⟩ := (h.below ho.old).get hlt
      obtain ⟨D, dd, rfl⟩ := ho.shape
      have hkl : xs.length ≤ 1000 := by rw [HX.out, lensI_length, List.length_take]; omega
      have HT := hide (show xs ++ [(t[k].length : Int)] = lensI (t.take (k + 1)) by rw [HX.out, List.take_succ_eq_append_getElem hlt]; unfold lensI; rw [List.map_append]; rfl)
      obtain ⟨n, hn⟩ : ∃ n, n = t[k].length := ⟨_, rfl⟩
      rw [← hn] at hc0 HT
      have ho1 := ho.alloc (Obj.cells #[.int .i64 n] 2)
      have hBl := Rd.one_new wr (n : Int) 2
      have hz := ho.old.size
      clear hn hle hr ho
      go_wp2_with (at_builtin; refine wpList_append_rd _ rfl (.tmp 11) (.tmp 17) 41 rfl w.heap.size 2 i0 (.int .i64 0) 8 Try.underlying41 hi hz0 hz1 hz2 rfl .i64 _ _ _ rfl ho1.row (some ⟨wr.heap.size, 0, none⟩) [(n : Int)] 1 _ rfl hBl (by unfold maxLen; simp only [List.length_cons, List.length_nil]; omega) (by simp only [List.length_cons, List.length_nil]; omega) (by simp; omega) ?_; intro v5 w5 o5 g5 hat5; have ho5 := ho1.more o5 g5; clear o5 g5 hat5 ho1 hBl)
      go_roundw
      case rel => exact ⟨k + 1, _, by omega, by go_num, ho5, HT⟩
      case measure => simp [intOf]; omega
    · obtain rfl : k = t.length := by omega
      rw [List.take_length] at HX
      go_wp2
      go_ret
      have e := HX.out
      subst e
      exact ⟨_, rfl, ho⟩

/-- What is left of each core. -/
def lefR (t : List (List Ev)) (O : List Int) : List Value := (List.range t.length).map fun j : Nat => Value.int .i64 ((lenT t (j : Int) - cntO O (j : Int) : Nat) : Int)
theorem lefR_length (t : List (List Ev)) (O : List Int) : (lefR t O).length = t.length := by simp [lefR]
theorem lefR_get (t : List (List Ev)) (O : List Int) (i : Nat) (h : i < t.length) : (lefR t O)[i]? = some (.int .i64 ((lenT t (i : Int) - cntO O (i : Int) : Nat) : Int)) := by simp [lefR, h]
theorem lefR_nil (t : List (List Ev)) : lefR t [] = (lensI t).map (Value.int .i64) := by
  apply List.ext_getElem
  · simp [lefR, lensI]
  · intro i h1 h2
    have hi : i < t.length := by simpa [lefR] using h1
    simp [lefR, lensI, cntO, lenT_at t i hi]
theorem lefR_set (t : List (List Ev)) (O : List Int) (i : Nat) (h : cntO O (i : Int) < lenT t (i : Int)) : (lefR t O).set i (.int .i64 (((lenT t (i : Int) - cntO O (i : Int) : Nat) : Int) - 1)) = lefR t (O ++ [(i : Int)]) := by
  apply List.ext_getElem
  · simp [lefR]
  · intro j h1 h2
    by_cases hij : i = j
    · subst hij
      rw [List.getElem_set_self]
      simp only [lefR, List.getElem_map, List.getElem_range, Value.int.injEq, true_and]
      rw [cntO_snoc, if_pos rfl]
      omega
    · rw [List.getElem_set_ne hij]
      simp only [lefR, List.getElem_map, List.getElem_range, Value.int.injEq, true_and]
      rw [cntO_snoc, if_neg (by omega), Nat.add_zero]
def lenV : Value → Nat
  | .slice _ n _ => n
  | _ => 0
/-- What is left, and the order so far, in the call's own memory. -/
structure OrS (W : World) (gl cl base : Nat) (t : List (List Ev)) (O : List Int) (v : Value) (w : World) : Prop where
  left : w.ownsRow W.heap.size 2 1 (.slice (some ⟨gl, 0, none⟩) t.length cl) t.length (lefR t O)
  out : w.ownsRow base 2 1 v O.length (O.map (Value.int .i64))
  old : Below W.heap.size W w
  apart : gl < base
  lo : W.heap.size ≤ gl
section
variable {W w w' w5 : World} {gl cl base : Nat} {t : List (List Ev)} {O : List Int} {v v' : Value} {x : Int}
theorem OrS.alloc (h : OrS W gl cl base t O v w) (o : Obj) : OrS W gl cl base t O v (w.alloc o) := ⟨h.left.alloc o, h.out.alloc o, h.old.alloc h.old.size o, h.apart, h.lo⟩
theorem OrS.cell (h : OrS W gl cl base t O v w) (i : Nat) (hi : i < t.length) : w.cell? ⟨gl, i, none⟩ = some (.int .i64 ((lenT t (i : Int) - cntO O (i : Int) : Nat) : Int)) := by
  rw [h.left.cellAt i (by omega)]
  exact lefR_get t O i hi
/-- One turn: what is left is turned; then the order grows. -/
theorem OrS.turn (h : OrS W gl cl base t O v w) (i : Nat) (hc : cntO O (i : Int) < lenT t (i : Int)) {o : Obj}
    (ho : w5.ownsRow base 2 1 v' (O.length + [(i : Int)].length) (O.map (Value.int .i64) ++ [(i : Int)].map (Value.int .i64))) (hg : ((w.setCell ⟨gl, i, none⟩ (.int .i64 (((lenT t (i : Int) - cntO O (i : Int) : Nat) : Int) - 1))).alloc o).grownBy w5 v.ownBlock) : OrS W gl cl base t (O ++ [(i : Int)]) v' w5 := by
  have h1 := (h.left.stored i (.int .i64 (((lenT t (i : Int) - cntO O (i : Int) : Nat) : Int) - 1)))
  have hlo := h.lo
  rw [lefR_set t O i hc] at h1
  have hout := (ownsRow_setCell_below h.out (a := ⟨gl, i, none⟩) h.apart (.int .i64 (((lenT t (i : Int) - cntO O (i : Int) : Nat) : Int) - 1))).alloc o
  have hap := h.apart
  have b1 : Below W.heap.size W ((w.setCell ⟨gl, i, none⟩ (.int .i64 (((lenT t (i : Int) - cntO O (i : Int) : Nat) : Int) - 1))).alloc o) := (h.old.setCell (by simp only; omega) _).alloc (by have := h.old.size; simpa using this) o
  refine ⟨(h1.1.alloc o).kept hg (own_sep fun b hb e => by simp only [Value.ownBlock, Option.some.injEq] at hb; have := hout.lt b e; omega), by rw [List.length_append, List.map_append]; exact ho, b1.trans (grown_below hout hg b1.size (by omega)), h.apart, h.lo⟩
/-- The order grows; then what is left is turned. -/
theorem OrS.turn2 (h : OrS W gl cl base t O v w) (i : Nat) (hc : cntO O (i : Int) < lenT t (i : Int)) {o : Obj}
    (ho : w5.ownsRow base 2 1 v' (O.length + [(i : Int)].length) (O.map (Value.int .i64) ++ [(i : Int)].map (Value.int .i64))) (hg : (w.alloc o).grownBy w5 v.ownBlock) : OrS W gl cl base t (O ++ [(i : Int)]) v' (w5.setCell ⟨gl, i, none⟩ (.int .i64 (((lenT t (i : Int) - cntO O (i : Int) : Nat) : Int) - 1))) ∧ w5.cell? ⟨gl, i, none⟩ = w.cell? ⟨gl, i, none⟩ ∧ w5.frozen? ⟨gl, i, none⟩ = false := by
  have hout := h.out.alloc o
  have hap := h.apart
  have hlo := h.lo
  have hl := (h.left.alloc o).kept hg (own_sep fun b hb e => by simp only [Value.ownBlock, Option.some.injEq] at hb; have := hout.lt b e; omega)
  have b1 : Below W.heap.size W (w.alloc o) := h.old.alloc h.old.size o
  have h1 := (hl.stored i (.int .i64 (((lenT t (i : Int) - cntO O (i : Int) : Nat) : Int) - 1))).1
  rw [lefR_set t O i hc] at h1
  have hlt : i < t.length := by have := lenT_in (t := t) (p := i) (by omega); omega
  refine ⟨⟨h1, ?_, (b1.trans (grown_below hout hg b1.size (by omega))).setCell (by simp only; omega) _, h.apart, h.lo⟩, ?_, hl.frozenAt i⟩
  · rw [List.length_append, List.map_append]
    exact ownsRow_setCell_below ho (a := ⟨gl, i, none⟩) h.apart _
  · rw [hl.cellAt i (by omega), h.left.cellAt i (by omega)]
end

set_option maxRecDepth 100000 in
set_option maxHeartbeats 1600000 in
theorem l6Order_any (t : List (List Ev)) (picks : List Int) (A Ap : Option Addr) (c cp : Nat) (w : World) (ht1 : 1 ≤ t.length) (ht4 : t.length ≤ 4) (hall : ∀ l ∈ t, l.length ≤ 8) (hpk : picks.length ≤ 150) (hl : Rd .i64 w w.heap.size A (lensI t)) (hp : Rd .i64 w w.heap.size Ap picks) :
    Calls Try.prog 129 #[.slice A t.length c, .slice Ap picks.length cp] w fun e w' => ∃ v, e = .returned v ∧ OwnI w w.heap.size (ordF t picks) v w' := by
  obtain ⟨i0, hi, hz0, hz1, hz2⟩ := info_parts info_i64
  have LI := hide (by have := l1Ints_any (lensI t) A c w (by rw [lensI_length]; omega) hl; rw [lensI_length] at this; exact this)
  have HOK := hide (fun k => okO_L (picks.take k) (okO_nil t))
  have HOL := hide (fun k => ordL_len t (picks.take k) [])
  have HO2 := hide (fun k => ordL_reps (okO_L picks (okO_nil t)) k)
  have HFL := hide (fun (k : Nat) (hk : k ≤ t.length) => by
    have := ordL_len t (repsT t k) (ordL t [] picks)
    have := repsT_len hall k
    have := ordL_len t picks []
    rw [(ordL_reps (okO_L picks (okO_nil t)) k).1] at *
    simp only [List.length_nil] at *
    show (fillO t (ordL t [] picks) k).length ≤ 182
    omega)
  have HL8 := hide (fun (p : Int) => show lenT t p ≤ 8 by
    by_cases h : 0 ≤ p ∧ p < (t.length : Int)
    · obtain ⟨j, rfl⟩ := Int.eq_ofNat_of_zero_le h.1
      rw [lenT_at t j (by omega)]
      exact hall _ (List.getElem_mem _)
    · rw [lenT_out t p (by omega)]; omega)
  clear hl hall
  go_enter Try.func129, Try.ntmps129
  go_wp2_with fail
  refine LI.out.mono ?_
  rintro e w1 ⟨v0, rfl, hI⟩
  have hrow := hI.row
  rw [lensI_length, ← lefR_nil] at hrow
  obtain ⟨Al, cl, rfl⟩ := own_shape hrow
  obtain ⟨gl, rfl⟩ : ∃ g, Al = some ⟨g, 0, none⟩ := by
    rcases hrow.2 with ⟨_, h''⟩ | ⟨g, cap, cur, h', _⟩
    · omega
    · simp only [Value.slice.injEq, true_and] at h'
      exact ⟨g, h'.1⟩
  have hgl := hrow.lt gl rfl
  have z1 := hI.old.size
  have s0 : OrS w gl cl w1.heap.size t [] (.slice (some ⟨w1.heap.size, 0, none⟩) 0 0) (w1.alloc (Obj.cells #[] 2)) :=
    ⟨hrow.alloc _, World.ownsRow_lit w1 #[] 0 (Nat.le_refl _) (by simp) rfl, hI.old.alloc z1 _, hgl.2, hgl.1⟩
  obtain ⟨base, hbase⟩ : ∃ b, b = w1.heap.size := ⟨_, rfl⟩
  have HB := hide hbase
  clear hI hrow hbase LI
  go_wp2_with fail
  rw [← HB.out] at s0 ⊢
  go_loopw [5, 13] (fun v i wr => ∃ (k : Nat) (O : List Int), k ≤ picks.length ∧ i = .int .i64 k ∧ OrS w gl cl base t O v wr ∧ base ≤ wr.heap.size ∧ Hid (O = ordL t [] (picks.take k))) (fun _ i _ => picks.length - (intOf i).toNat)
  case atStart => exact ⟨0, [], Nat.zero_le _, rfl, s0, by rw [HB.out]; simp, hide rfl⟩
  case round =>
    obtain ⟨k, O, hk, rfl, hs, hbz, HO⟩ := hrel
    clear s0
    by_cases hlt : k < picks.length
    · obtain ⟨b, off, rfl, hbb, hc0⟩ := (hp.below hs.old).get hlt
      have HT := hide (show ordL t [] (picks.take (k + 1)) = ordS t O picks[k] by rw [List.take_succ_eq_append_getElem hlt, ordL_snoc, HO.out])
      obtain ⟨D, d, rfl⟩ := own_shape hs.out
      have hOl : O.length ≤ 200 := by have := HOL.out k; rw [← HO.out, List.length_take] at this; simp only [List.length_nil] at this; omega
      by_cases hin : 0 ≤ picks[k] ∧ picks[k] ≤ (t.length : Int) - 1
      · obtain ⟨p, hpp⟩ := Int.eq_ofNat_of_zero_le hin.1
        have hin' : 0 ≤ (p : Int) ∧ (p : Int) ≤ (t.length : Int) - 1 := by rw [← hpp]; exact hin
        rw [hpp] at hc0 HT
        have hpt : p < t.length := by omega
        have hcl := hs.cell p hpt
        have hfl := hs.left.frozenAt p
        have h8 := HL8.out (p : Int)
        by_cases hcn : cntO O (p : Int) < lenT t (p : Int)
        · have HT2 := hide (show O ++ [(p : Int)] = ordL t [] (picks.take (k + 1)) by rw [HT.out, ordS_yes hcn])
          have TN := hide (fun o w5 v5 ho hg => hs.turn (w5 := w5) (v' := v5) p hcn (o := o) ho hg)
          have hbel := (hp.below hs.old)
          have hcF := fun u => RdV.far hbel ⟨gl, p, none⟩ u (fun x hx => by cases hx; have := hs.lo; simp only; omega)
          have hc1 := fun u => (Rd.get (show Rd .i64 (wr.setCell ⟨gl, p, none⟩ u) w.heap.size (some ⟨b, off, none⟩) picks from hcF u) hlt)
          obtain ⟨L, hL⟩ : ∃ L, L = lenT t (p : Int) - cntO O (p : Int) := ⟨_, rfl⟩
          have hL1 : 1 ≤ L := by omega
          have hL8 : L ≤ 8 := by omega
          rw [← hL] at hcl TN
          have hc2 : (wr.setCell ⟨gl, p, none⟩ (.int .i64 ((L : Int) - 1))).cell? ⟨b, off + k, none⟩ = some (.int .i64 (p : Int)) := by
            obtain ⟨b', off', e1, _, e2⟩ := hc1 (.int .i64 ((L : Int) - 1))
            cases e1
            rw [hpp] at e2
            exact e2
          have ho1 := (ownsRow_setCell_below hs.out (a := ⟨gl, p, none⟩) hs.apart (.int .i64 ((L : Int) - 1))).alloc (Obj.cells #[.int .i64 (p : Int)] 2)
          have hBl := Rd.one_new (wr.setCell ⟨gl, p, none⟩ (.int .i64 ((L : Int) - 1))) (p : Int) 2
          have hzs : (wr.setCell ⟨gl, p, none⟩ (.int .i64 ((L : Int) - 1))).heap.size = wr.heap.size := by simp
          rw [hzs] at hBl
          clear hL hcF hc1 hbel hin hpp hcn hs
          go_wp2_with fail
          refine (l1In_yes _ _ _ _ hin').mono ?_
          rintro e w2 ⟨rfl, rfl⟩
          go_wp2_with (at_builtin; refine wpList_append_rd _ rfl (.tmp 43) (.tmp 48) 41 rfl base 2 i0 (.int .i64 0) 8 Try.underlying41 hi hz0 hz1 hz2 rfl .i64 _ _ _ rfl ho1 (some ⟨wr.heap.size, 0, none⟩) [(p : Int)] 1 _ rfl hBl (by unfold maxLen; simp only [List.length_cons, List.length_nil]; omega) (by simp only [List.length_cons, List.length_nil]; omega) (by simp; omega) ?_; intro v5 w5 o5 g5 hat5; have zz := g5.size; have ho5 := TN.out _ w5 v5 o5 g5; clear o5 g5 hat5 ho1 hBl)
          go_roundw
          case rel => exact ⟨k + 1, _, by omega, by go_num, ho5, by simp at zz; omega, HT2⟩
          case measure => simp [intOf]; omega
        · have HT2 := hide (show O = ordL t [] (picks.take (k + 1)) by rw [HT.out, ordS_no hcn])
          have hL : lenT t (p : Int) - cntO O (p : Int) = 0 := by omega
          rw [hL] at hcl
          clear hL hin hpp hcn
          go_wp2_with fail
          refine (l1In_yes _ _ _ _ hin').mono ?_
          rintro e w2 ⟨rfl, rfl⟩
          go_wp2
          go_roundw
          case rel => exact ⟨k + 1, _, by omega, by go_num, hs, hbz, HT2⟩
          case measure => simp [intOf]; omega
      · have hcn : ¬ cntO O picks[k] < lenT t picks[k] := fun h => hin (by have := lenT_in (t := t) (p := picks[k]) (by omega); omega)
        have HT2 := hide (show O = ordL t [] (picks.take (k + 1)) by rw [HT.out, ordS_no hcn])
        have hin' : picks[k] < 0 ∨ (t.length : Int) - 1 < picks[k] := by omega
        clear hin hcn
        go_wp2_with fail
        refine (l1In_no _ _ _ _ hin').mono ?_
        rintro e w2 ⟨rfl, rfl⟩
        go_wp2
        go_roundw
        case rel => exact ⟨k + 1, _, by omega, by go_num, hs, hbz, HT2⟩
        case measure => simp [intOf]; omega
    · obtain rfl : k = picks.length := by omega
      rw [List.take_length] at HO
      go_wp2
      go_loopw [5, 53] (fun v i wr => ∃ (k : Nat) (O : List Int), k ≤ t.length ∧ i = .int .i64 k ∧ OrS w gl cl base t O v wr ∧ base ≤ wr.heap.size ∧ Hid (O = fillO t (ordL t [] picks) k)) (fun _ i _ => t.length - (intOf i).toNat)
      case atStart => exact ⟨0, O, Nat.zero_le _, rfl, hs, hbz, hide HO.out⟩
      case round =>
        clear hs HO hbz
        obtain ⟨k, O, hk, rfl, hs, hbz, HO⟩ := hrel
        by_cases hlt : k < t.length
        · have hfk := HFL.out k (by omega)
          have hfk1 := HFL.out (k + 1) (by omega)
          rw [fillO, List.length_append, List.length_replicate] at hfk1
          obtain ⟨dd, hdd⟩ : ∃ dd, dd = lenT t (k : Int) - cntO O (k : Int) := ⟨_, rfl⟩
          have HN := hide (show fillO t (ordL t [] picks) (k + 1) = O ++ List.replicate dd (k : Int) by rw [fillO, ← HO.out, hdd])
          rw [← HO.out, ← hdd] at hfk1
          have hO0 : O.length ≤ 200 := by omega
          have HDD := hide hdd
          obtain ⟨OF, hOF⟩ : ∃ OF, OF = O := ⟨_, rfl⟩
          rw [← hOF] at HN HDD hfk1 hO0
          have HOFL := hide hOF
          clear hdd hOF hfk
          go_wp2
          go_loopw [5] (fun v wr => ∃ (j : Nat) (O : List Int), j ≤ dd ∧ OrS w gl cl base t O v wr ∧ base ≤ wr.heap.size ∧ Hid (O = OF ++ List.replicate j (k : Int))) (fun v _ => OF.length + dd - lenV v)
          case atStart => exact ⟨0, O, Nat.zero_le _, hs, hbz, hide (by rw [HOFL.out]; simp)⟩
          case round =>
            clear hs HO hbz HOFL
            obtain ⟨j, O, hj, hs, hbz, HO⟩ := hrel
            obtain ⟨D, d, rfl⟩ := own_shape hs.out
            have hcl := hs.cell k hlt
            have hcnt : cntO O (k : Int) = cntO OF (k : Int) + j := by rw [HO.out, cntO_append, cntO_rep, if_pos rfl]
            have hOl : O.length = OF.length + j := by rw [HO.out, List.length_append, List.length_replicate]
            have h8 := HL8.out (k : Int)
            have hdj : lenT t (k : Int) - cntO O (k : Int) = dd - j := by rw [HDD.out]; omega
            have hd8 : dd ≤ 8 := by rw [HDD.out]; omega
            by_cases hjd : j < dd
            · have hcn : cntO O (k : Int) < lenT t (k : Int) := by omega
              have HT2 := hide (show O ++ [(k : Int)] = OF ++ List.replicate (j + 1) (k : Int) by rw [HO.out, List.append_assoc, ← List.replicate_succ'])
              have TN := hide (fun o w5 v5 ho hg => hs.turn2 (w5 := w5) (v' := v5) k hcn (o := o) ho hg)
              rw [hcl] at TN
              have ho1 := hs.out.alloc (Obj.cells #[.int .i64 (k : Int)] 2)
              have hBl := Rd.one_new wr (k : Int) 2
              rw [hdj] at TN hcl
              obtain ⟨L, hL⟩ : ∃ L, L = dd - j := ⟨_, rfl⟩
              rw [← hL] at TN hcl
              have hL1 : 1 ≤ L := by omega
              have hL8 : L ≤ 8 := by omega
              have HOl := hide hOl
              have hO2 : O.length ≤ 400 := by omega
              clear hL hdj hcnt hcn hs hOl
              go_wp2_with (at_builtin; refine wpList_append_rd _ rfl (.tmp 67) (.tmp 69) 41 rfl base 2 i0 (.int .i64 0) 8 Try.underlying41 hi hz0 hz1 hz2 rfl .i64 _ _ _ rfl ho1 (some ⟨wr.heap.size, 0, none⟩) [(k : Int)] 1 _ rfl hBl (by unfold maxLen; simp only [List.length_cons, List.length_nil]; omega) (by simp only [List.length_cons, List.length_nil]; omega) (by simp; omega) ?_; intro v5 w5 o5 g5 hat5; obtain ⟨D5, d5, hv5⟩ := own_shape o5; subst hv5; have zz := g5.size; obtain ⟨ho5, e5, f5⟩ := TN.out _ w5 _ o5 g5; clear o5 g5 hat5 ho1 hBl TN)
              go_roundw
              case rel => exact ⟨j + 1, _, by omega, ho5, by simp at zz ⊢; omega, HT2⟩
              case measure => have := HOl.out; simp [lenV]; omega
            · have hL : lenT t (k : Int) - cntO O (k : Int) = 0 := by omega
              rw [hL] at hcl
              have HN2 := hide (show O = fillO t (ordL t [] picks) (k + 1) by rw [HN.out, HO.out, show j = dd by omega])
              clear hL hdj hcnt hOl
              go_wp2
              go_roundw
              case rel => exact ⟨k + 1, _, by omega, by go_num, hs, hbz, HN2⟩
              case measure => simp [intOf]; omega
        · obtain rfl : k = t.length := by omega
          go_wp2
          go_ret
          have e := HO.out
          subst e
          exact ⟨_, rfl, own_mono hs.out (by have := hs.lo; have := hs.apart; omega), hs.old, Nat.le_refl _⟩
end Go.Proofs.Ytldepledinolmaa
