/- Contracts of PicksOf, in the program and in its model. -/
import Derived.Test.YthomadhdjapahaaLogI
import Derived.Test.YthomadhdjapahaaLogS
import Derived.Test.YthomadhdjapahaaGApp
import Derived.Test.YthomadhdjapahaaGHeld
import Derived.OneCell
namespace Go.Proofs.Ythomadhdjapahaa
open Go.RowKit

/-- Numbers in a row of the call's own, from block base on; all that was there in W is as it was. -/
structure OwnI (W : World) (base : Nat) (xs : List Int) (v : Value) (w : World) : Prop where
  row : w.ownsRow base 2 1 v xs.length (xs.map (Value.int .i64))
  old : Below W.heap.size W w
  lo : W.heap.size ≤ base
section
variable {W w w' : World} {base : Nat} {xs : List Int} {v v' : Value} {x : Int}
theorem OwnI.below (h : OwnI W base xs v w) (hb : Below w.heap.size w w') : OwnI W base xs v w' := ⟨own_below h.row hb (Nat.le_refl _), h.old.trans (hb.mono h.old.size), h.lo⟩
theorem OwnI.alloc (h : OwnI W base xs v w) (o : Obj) : OwnI W base xs v (w.alloc o) := h.below ((Below.refl _ _).alloc (Nat.le_refl _) _)
theorem OwnI.drew (h : OwnI W base xs v w) : OwnI W base xs v w.drew := h.below (Below.refl _ _).drew
theorem OwnI.more (h : OwnI W base xs v w) (ho : w'.ownsRow base 2 1 v' (xs.length + [x].length) (xs.map (Value.int .i64) ++ [x].map (Value.int .i64))) (hg : w.grownBy w' v.ownBlock) : OwnI W base (xs ++ [x]) v' w' :=
  ⟨by rw [List.length_append, List.map_append]; exact ho, h.old.trans (grown_below h.row hg h.old.size h.lo), h.lo⟩
theorem OwnI.shape (h : OwnI W base xs v w) : ∃ A c, v = .slice A xs.length c := own_shape h.row
end
theorem Rd.one_new (w : World) (x : Int) (T : TypeId) : Rd .i64 (w.alloc (.cells #[.int .i64 x] T)) (w.heap.size + 1) (some ⟨w.heap.size, 0, none⟩) [x] := fun _ =>
  ⟨w.heap.size, 0, rfl, Nat.lt_succ_self _, fun i hi => by
    rw [Nat.zero_add, (Bk.new w #[.int .i64 x] T).cell i]
    simp only [List.map_cons, List.map_nil, List.getElem?_toArray]
    exact List.getElem?_eq_getElem hi⟩

/-- What PicksOf tells. -/
def PkPost (ss : List Stp) (n : Int) (w : World) (e : Ending) (w' : World) : Prop :=
  ∃ A c, e = .returned (.agg #[.int .i64 (logF ss n), .slice A (pkL ss n).length c]) ∧ w'.ownsRow w.heap.size 2 1 (.slice A (pkL ss n).length c) (pkL ss n).length ((pkL ss n).map (Value.int .i64)) ∧ Below w.heap.size w w'
set_option maxRecDepth 100000 in
set_option maxHeartbeats 1600000 in
theorem implPk_any (ss : List Stp) (n : Int) (A : Option Addr) (c : Nat) (w : World) (hm : ss.length ≤ maxLen) (h : RdP w w.heap.size A ss) :
    Calls Try.prog 14 #[.slice A ss.length c, .int .i64 n] w (PkPost ss n w) := by
  unfold PkPost
  obtain ⟨W, hW⟩ : ∃ W, W = w.alloc (Obj.cells #[Value.int .i64 0, .slice none 0 0] 38) := ⟨_, rfl⟩
  have HW := hide hW
  have hR : RdP W W.heap.size A ss := by subst hW; exact (h.alloc (Nat.le_refl _) _).lt
  clear hW h
  have LF := hide (implLogF_any ss n A c W hm hR)
  by_cases h0 : logF ss n = 0
  · rw [pkL_ok h0]
    rw [h0] at LF ⊢
    obtain ⟨hn, hl, _, _⟩ := logF_zero h0
    have TE : ss.take ss.length = ss := List.take_length
    obtain ⟨i0, hi, hz0, hz1, hz2⟩ := info_parts info_i64
    clear h0
    go_enter Try.func14, Try.ntmps14
    go_wp2_with fail
    rw [← HW.out]
    refine LF.out.mono ?_
    rintro e w1 ⟨rfl, b1⟩
    have z1 := b1.size
    clear LF
    have hO : OwnI W W.heap.size [] (.slice none 0 0) w1 := ⟨World.ownsRow_nil _ _ _ _, b1, Nat.le_refl _⟩
    go_wp2_with fail
    go_loopw [6, 18] (fun v i wr => ∃ (k : Nat) (xs : List Int), k ≤ ss.length ∧ i = .int .i64 k ∧ OwnI W W.heap.size xs v wr ∧ Hid (xs = (ss.take k).map (·.c))) (fun _ i _ => ss.length - (intOf i).toNat)
    case atStart => exact ⟨0, [], Nat.zero_le _, rfl, hO, hide rfl⟩
    case round =>
      obtain ⟨k, xs, hk, rfl, ho, HX⟩ := hrel
      by_cases hlt : k < ss.length
      · obtain ⟨b, off, rfl, hbb, hc0, hc1, hc2, hc3⟩ := (hR.below ho.old).get hlt
        obtain ⟨D, d, rfl⟩ := ho.shape
        have hkl : xs.length ≤ 32 := by rw [HX.out, List.length_map, List.length_take]; omega
        have HT := hide (show xs ++ [ss[k].c] = (ss.take (k + 1)).map (·.c) by rw [HX.out, List.take_succ_eq_append_getElem hlt, List.map_append]; rfl)
        have hoA := ho.alloc (Obj.cells #[.int .i64 ss[k].c, .int .i64 ss[k].e.k, .int .i64 ss[k].e.a, .int .i64 ss[k].e.v] 80)
        have hz := ho.old.size
        obtain ⟨wv, hwv⟩ : ∃ wv, wv = wr.alloc (Obj.cells #[.int .i64 ss[k].c, .int .i64 ss[k].e.k, .int .i64 ss[k].e.a, .int .i64 ss[k].e.v] 80) := ⟨_, rfl⟩
        rw [← hwv] at hoA
        have hBl := Rd.one_new wv ss[k].c 2
        have ho1 := hoA.alloc (Obj.cells #[.int .i64 ss[k].c] 2)
        have hzv : wv.heap.size = wr.heap.size + 1 := by rw [hwv]; simp
        rw [hzv] at hBl
        rw [hwv] at hBl ho1
        clear hoA hwv hzv
        go_wp2_with (at_builtin; refine wpList_append_rd _ rfl (.tmp 22) (.tmp 25) 25 rfl W.heap.size 2 i0 (.int .i64 0) 8 Try.underlying25 hi hz0 hz1 hz2 rfl .i64 _ _ _ rfl ho1.row (some ⟨wr.heap.size + 1, 0, none⟩) [ss[k].c] 1 _ rfl hBl (by unfold maxLen; simp only [List.length_cons, List.length_nil]; omega) (by simp only [List.length_cons, List.length_nil]; omega) (by simp; omega) ?_; intro v5 w5 o5 g5 hat5; have ho5 := ho1.more o5 g5; clear o5 g5 hat5 ho1 hBl)
        go_roundw
        case rel => exact ⟨k + 1, _, by omega, by go_num, ho5, HT⟩
        case measure => simp [intOf]; omega
      · obtain rfl : k = ss.length := by omega
        rw [TE] at HX
        obtain ⟨D, d, rfl⟩ := ho.shape
        have hb := ho.old
        have hrow := ho.row
        have q0 := W_cell HW.out hb 0
        have q1 := W_cell HW.out hb 1
        have f0 := W_frozen HW.out hb 0
        have f1 := W_frozen HW.out hb 1
        simp at q0 q1
        have O1 := hide (W_set HW.out (W_set HW.out hrow 0 (.int .i64 0)) 1 (.slice D xs.length d))
        clear hrow ho
        go_wp2
        refine bodyPost_ret (v := .agg #[.int .i64 0, .slice D xs.length d]) (by simp [results, Try.results14, go_sem, q0, q1]) rfl ?_
        have e := HX.out
        subst e
        exact ⟨D, d, rfl, W_own HW.out O1.out, ((W_below HW.out hb).setCell (Nat.le_refl _) _).setCell (Nat.le_refl _) _⟩
  · rw [pkL_bad h0]
    obtain ⟨F, hF⟩ : ∃ F, F = logF ss n := ⟨_, rfl⟩
    rw [← hF] at LF h0 ⊢
    have g0 : (F != 0) = true := bne_iff_ne.2 h0
    have g1 : (F == 0) = false := beq_eq_false_iff_ne.2 h0
    clear hF h0
    go_enter Try.func14, Try.ntmps14
    go_wp2_with fail
    rw [← HW.out]
    refine LF.out.mono ?_
    rintro e w1 ⟨rfl, hb⟩
    have q0 := W_cell HW.out hb 0
    have q1 := W_cell HW.out hb 1
    have f0 := W_frozen HW.out hb 0
    have f1 := W_frozen HW.out hb 1
    simp at q0 q1
    go_wp2
    refine bodyPost_ret (v := .agg #[.int .i64 F, .slice none 0 0]) (by simp [results, Try.results14, go_sem, q0, q1]) rfl ?_
    exact ⟨none, 0, rfl, World.ownsRow_nil _ _ _ _, ((W_below HW.out hb).setCell (Nat.le_refl _) _).setCell (Nat.le_refl _) _⟩
set_option maxRecDepth 100000 in
set_option maxHeartbeats 1600000 in
theorem specPk_any (ss : List Stp) (n : Int) (A : Option Addr) (c : Nat) (w : World) (hm : ss.length ≤ maxLen) (h : RdP w w.heap.size A ss) :
    Calls Try.prog 20 #[.slice A ss.length c, .int .i64 n] w (PkPost ss n w) := by
  unfold PkPost
  obtain ⟨W, hW⟩ : ∃ W, W = w.alloc (Obj.cells #[Value.int .i64 0, .slice none 0 0] 38) := ⟨_, rfl⟩
  have HW := hide hW
  have hR : RdP W W.heap.size A ss := by subst hW; exact (h.alloc (Nat.le_refl _) _).lt
  clear hW h
  have LF := hide (specLogF_any ss n A c W hm hR)
  by_cases h0 : logF ss n = 0
  · rw [pkL_ok h0]
    rw [h0] at LF ⊢
    obtain ⟨hn, hl, _, _⟩ := logF_zero h0
    have TE : ss.take ss.length = ss := List.take_length
    obtain ⟨i0, hi, hz0, hz1, hz2⟩ := info_parts info_i64
    clear h0
    go_enter Try.func20, Try.ntmps20
    go_wp2_with fail
    rw [← HW.out]
    refine LF.out.mono ?_
    rintro e w1 ⟨rfl, b1⟩
    have z1 := b1.size
    clear LF
    obtain ⟨q, hq⟩ : ∃ q, q = w1.heap.size := ⟨_, rfl⟩
    have hQ0 := Bk.new w1 #[.int .i64 0, .slice none 0 0] 38
    have hO : OwnI W (q + 1) [] (.slice none 0 0) (w1.alloc (Obj.cells #[.int .i64 0, .slice none 0 0] 38)) := ⟨World.ownsRow_nil _ _ _ _, b1.alloc z1 _, by omega⟩
    rw [← hq] at hQ0
    have hqW : W.heap.size ≤ q := by rw [hq]; exact z1
    have HQ := hide hq
    clear hq
    go_wp2_with fail
    rw [← HQ.out]
    go_loopw [18] (fun i wr => ∃ (k : Nat) (xs : List Int) (v : Value), k ≤ ss.length ∧ i = .int .i64 k ∧ Bk wr q #[.int .i64 0, v] 38 ∧ OwnI W (q + 1) xs v wr ∧ Hid (xs = (ss.take k).map (·.c))) (fun i _ => ss.length - (intOf i).toNat)
    case atStart => exact ⟨0, [], _, Nat.zero_le _, rfl, hQ0, hO, hide rfl⟩
    case round =>
      obtain ⟨k, xs, v, hk, rfl, hQ, ho, HX⟩ := hrel
      by_cases hlt : k < ss.length
      · obtain ⟨b, off, hA, hbb, _, _, _, _⟩ := hR.get hlt
        have HC := hide (fun w' (hb : Below W.heap.size W w') => (by
          obtain ⟨b', off', hA', hbb', hc0', _, _, _⟩ := (hR.below hb).get hlt
          rw [hA] at hA'
          simp only [Option.some.injEq, Addr.mk.injEq] at hA'
          obtain ⟨rfl, rfl, _⟩ := hA'
          exact hc0' : w'.cell? ⟨b, off + k * 4, none⟩ = some (.int .i64 ss[k].c)))
        obtain ⟨D, d, rfl⟩ := ho.shape
        have hkl : xs.length ≤ 32 := by rw [HX.out, List.length_map, List.length_take]; omega
        have HT := hide (show xs ++ [ss[k].c] = (ss.take (k + 1)).map (·.c) by rw [HX.out, List.take_succ_eq_append_getElem hlt, List.map_append]; rfl)
        obtain ⟨x, hx⟩ : ∃ x, x = ss[k].c := ⟨_, rfl⟩
        rw [← hx] at HC HT
        clear hx
        subst hA
        have hqz := hQ.lt
        have hzW := ho.old.size
        have hql := ho.lo
        have hk32 : k ≤ 32 := by omega
        have hl0 := hlt
        go_wp2_with fail
        have a0 := HC.out wr.drew ho.drew.old
        have s0 : wr.drew.cell? ⟨q, 1, none⟩ = some (.slice D xs.length d) := ((show Bk wr.drew q #[.int .i64 0, .slice D xs.length d] 38 from hQ).cell 1).trans rfl
        have hod := ho.drew
        have hQd : Bk wr.drew q #[.int .i64 0, .slice D xs.length d] 38 := hQ
        have hzd : wr.drew.heap.size = wr.heap.size := rfl
        have ho1 := hod.alloc (Obj.cells #[.int .i64 x] 2)
        have hBl := Rd.one_new wr.drew x 2
        have hQ1 := hQd.alloc (Obj.cells #[.int .i64 x] 2)
        have a1 := HC.out _ ho1.old
        have s1 : (wr.drew.alloc (Obj.cells #[.int .i64 x] 2)).cell? ⟨q, 1, none⟩ = some (.slice D xs.length d) := (hQ1.cell 1).trans rfl
        have hdz : q + 1 ≤ (wr.drew.alloc (Obj.cells #[.int .i64 x] 2)).heap.size := by simp; omega
        clear ho hQ hod hQd
        refine wp_region_F 8 (fun w' => w'.cell? ⟨b, off + k * 4, none⟩ = some (Value.int .i64 x)) (fun w' => w'.cell? ⟨q, 1, none⟩ = some (Value.slice D xs.length d)) (by kernel_rfl) ⟨a0, s0⟩ (fun hHeld => ?_)
        try simp only [Act.put, List.setIfInBounds_toArray, List.set_cons_zero, List.set_cons_succ]
        refine wpAnyF_take (i := 0) (v := ?_) (by (simp only [List.getElem?_toArray, List.getElem?_cons_zero]; rfl)) (by kernel_rfl) (by kernel_rfl) (by kernel_rfl) (by decide) (by exact fun _ _ _ h => h) ⟨hHeld.1, .inr hHeld.2⟩ (Or.inl ⟨by rfl, ?_⟩) ?_
        rotate_left
        · (intro w' _; go_simp <;> with_reducible rfl)
        try simp only [Act.put, List.setIfInBounds_toArray, List.set_cons_zero, List.set_cons_succ]
        refine wpAnyF_load (i := 1) (v := ?_) (by (simp only [List.getElem?_toArray, List.getElem?_cons_succ, List.getElem?_cons_zero]; rfl)) (by kernel_rfl) (by kernel_rfl) (by kernel_rfl) (by decide) (by exact fun _ _ _ h => h) hHeld (by kernel_rfl) (by kernel_rfl) (Or.inl ⟨by rfl, ?_⟩) ?_
        rotate_left
        · (intro w' hSw; (try dsimp only at hSw); obtain hSb0 := hSw; go_simp <;> with_reducible rfl)
        try simp only [Act.put, List.setIfInBounds_toArray, List.set_cons_zero, List.set_cons_succ]
        refine wpAnyF_take (i := 2) (v := ?_) (by (simp only [List.getElem?_toArray, List.getElem?_cons_succ, List.getElem?_cons_zero]; rfl)) (by kernel_rfl) (by kernel_rfl) (by kernel_rfl) (by decide) (by exact fun _ _ _ h => h) ⟨hHeld.1, .inr hHeld.2⟩ (Or.inl ⟨by rfl, ?_⟩) ?_
        rotate_left
        · (intro w' _; go_simp <;> with_reducible rfl)
        try simp only [Act.put, List.setIfInBounds_toArray, List.set_cons_zero, List.set_cons_succ]
        refine wpAnyF_take (i := 3) (v := ?_) (by (simp only [List.getElem?_toArray, List.getElem?_cons_succ, List.getElem?_cons_zero]; rfl)) (by kernel_rfl) (by kernel_rfl) (by kernel_rfl) (by decide) (by exact fun _ _ _ h => h) ⟨hHeld.1, .inr hHeld.2⟩ (Or.inl ⟨by rfl, ?_⟩) ?_
        rotate_left
        · (intro w' _; go_simp <;> with_reducible rfl)
        try simp only [Act.put, List.setIfInBounds_toArray, List.set_cons_zero, List.set_cons_succ]
        refine wpAnyF_take (i := 4) (v := ?_) (by (simp only [List.getElem?_toArray, List.getElem?_cons_succ, List.getElem?_cons_zero]; rfl)) (by kernel_rfl) (by kernel_rfl) (by kernel_rfl) (by decide) (by exact fun _ _ _ h => h) ⟨hHeld.1, .inr hHeld.2⟩ (Or.inl ⟨by rfl, ?_⟩) ?_
        rotate_left
        · (intro w' _; go_simp <;> with_reducible rfl)
        try simp only [Act.put, List.setIfInBounds_toArray, List.set_cons_zero, List.set_cons_succ]
        refine wpAnyF_take (i := 5) (v := ?_) (by (simp only [List.getElem?_toArray, List.getElem?_cons_succ, List.getElem?_cons_zero]; rfl)) (by kernel_rfl) (by kernel_rfl) (by kernel_rfl) (by decide) (by exact fun _ _ _ h => h) ⟨hHeld.1, .inr hHeld.2⟩ (Or.inl ⟨by rfl, ?_⟩) ?_
        rotate_left
        · (intro w' _; go_simp <;> with_reducible rfl)
        try simp only [Act.put, List.setIfInBounds_toArray, List.set_cons_zero, List.set_cons_succ]
        refine wpAnyF_keep (i := 6) (v := ?_) (by (simp only [List.getElem?_toArray, List.getElem?_cons_succ, List.getElem?_cons_zero]; rfl)) (by kernel_rfl) (by kernel_rfl) (by kernel_rfl) (by decide) (by exact fun _ _ _ h => h) ⟨hHeld.1, .inr hHeld.2⟩ (Or.inl ⟨by rfl, ?_⟩) ?_
        rotate_left
        · (intro w' hSw; (try dsimp only at hSw); obtain hSa0 := hSw; go_simp <;> with_reducible rfl)
        try simp only [Act.put, List.setIfInBounds_toArray, List.set_cons_zero, List.set_cons_succ]
        refine wpAnyF_ready (rs := [7]) (by kernel_rfl) (by simp) ?_
        refine AllReadyF.cons (by (simp only [List.getElem?_toArray, List.getElem?_cons_succ, List.getElem?_cons_zero]; rfl)) (fun K hK => ?_) AllReadyF.nil
        go_simp
        refine hK.out _ _ ⟨a1, s1⟩ (fun hNew => ?_)
        clear hK K hHeld
        have hHeld := hNew
        clear hNew
        try simp only [Act.put, List.setIfInBounds_toArray, List.set_cons_zero, List.set_cons_succ]
        refine wpAnyF_ready (rs := [8]) (by kernel_rfl) (by simp) ?_
        refine AllReadyF.last (by (simp only [List.getElem?_toArray, List.getElem?_cons_succ, List.getElem?_cons_zero]; rfl)) (by kernel_rfl) (fun K hK => ?_) AllReadyF.nil
        refine step_append_rd _ (by rfl) (.tmp 22) (.tmp 28) 25 (by rfl) (q + 1) 2 i0 (.int .i64 0) 8 Try.underlying25 hi hz0 hz1 hz2 rfl .i64 (.slice D xs.length d) xs.length _ (by rfl) ho1.row (some ⟨wr.drew.heap.size, 0, none⟩) [x] 1 (wr.drew.heap.size + 1) (by rfl) hBl (by unfold maxLen; simp only [List.length_cons, List.length_nil]; omega) (by simp only [List.length_cons, List.length_nil]; omega) hdz ?_
        intro v5 w5 o5 g5 hat5
        obtain ⟨D5, d5, hv5⟩ := own_shape o5
        subst hv5
        obtain ⟨V5, hV5⟩ : ∃ V5, V5 = Value.slice D5 (xs.length + [x].length) d5 := ⟨_, rfl⟩
        rw [← hV5] at o5 hat5
        have hn5 := own_apart ho1.row q (.inl (Nat.lt_succ_self q))
        have hQ5 := hQ1.grown g5 hn5
        have ho5 := ho1.more o5 g5
        have a5 := HC.out _ ho5.old
        have f5 := hQ5.frozen 1
        have e5 : w5.cell? ⟨q, 1, none⟩ = some (.slice D xs.length d) := (hQ5.cell 1).trans rfl
        have a6 := HC.out _ ((ho5.old).setCell (p := ⟨q, 1, none⟩) (by simp only; omega) V5)
        have H5 := hide (show Bk (w5.setCell ⟨q, 1, none⟩ V5) q #[.int .i64 0, V5] 38 ∧ OwnI W (q + 1) (xs ++ [x]) V5 (w5.setCell ⟨q, 1, none⟩ V5) from ⟨by have := hQ5.set_ 1 V5; exact this, ownsRow_setCell_below ho5.row (a := ⟨q, 1, none⟩) (Nat.lt_succ_self q) V5, ho5.old.setCell (p := ⟨q, 1, none⟩) (by simp only; omega) _, ho5.lo⟩)
        subst hV5
        clear o5 g5 hat5 ho1 hBl hQ1 hQ5 ho5 hn5
        refine hK.out _ _ a5 ?_
        clear hK K
        try simp only [Act.put, List.setIfInBounds_toArray, List.set_cons_zero, List.set_cons_succ]
        refine wpAnyF_take (i := 9) (v := ?_) (by (simp only [List.getElem?_toArray, List.getElem?_cons_succ, List.getElem?_cons_zero]; rfl)) (by kernel_rfl) (by kernel_rfl) (by kernel_rfl) (by decide) (by exact fun _ _ _ h => h) ⟨a5, .inl (by kernel_rfl)⟩ (Or.inl ⟨by rfl, ?_⟩) ?_
        rotate_left
        · (intro w' _; go_simp <;> with_reducible rfl)
        try simp only [Act.put, List.setIfInBounds_toArray, List.set_cons_zero, List.set_cons_succ]
        refine wpAnyF_ready (rs := [10]) (by kernel_rfl) (by simp) ?_
        refine AllReadyF.last (by (simp only [List.getElem?_toArray, List.getElem?_cons_succ, List.getElem?_cons_zero]; rfl)) (by kernel_rfl) (fun K hK => ?_) AllReadyF.nil
        go_simp
        refine hK.out _ _ a6 ?_
        clear hK K
        try simp only [Act.put, List.setIfInBounds_toArray, List.set_cons_zero, List.set_cons_succ]
        refine wpAnyF_done (by kernel_rfl) ?_ _
        go_wp2
        go_roundw
        case rel => exact ⟨k + 1, _, _, by omega, by go_num, H5.out.1, H5.out.2, HT⟩
        case measure => simp [intOf]; omega
      · obtain rfl : k = ss.length := by omega
        rw [TE] at HX
        obtain ⟨D, d, rfl⟩ := ho.shape
        have hb := ho.old
        have hrow := ho.row
        have hql := ho.lo
        have p0 := (hQ.cell 0).trans (rfl : _ = some (Value.int .i64 0))
        have p1 := (hQ.cell 1).trans (rfl : _ = some (Value.slice D xs.length d))
        have q0 := W_cell HW.out hb 0
        have q1 := W_cell HW.out hb 1
        have f0 := W_frozen HW.out hb 0
        have f1 := W_frozen HW.out hb 1
        simp at q0 q1
        have hzz := W_size HW.out
        have O1 := hide (ownsRow_setCell_below (ownsRow_setCell_below hrow (a := ⟨w.heap.size, 0, none⟩) (by simp only; omega) (.int .i64 0)) (a := ⟨w.heap.size, 1, none⟩) (by simp only; omega) (.slice D xs.length d))
        clear hrow ho hQ
        go_wp2
        refine bodyPost_ret (v := .agg #[.int .i64 0, .slice D xs.length d]) (by simp [results, Try.results20, go_sem, q0, q1]) rfl ?_
        have e := HX.out
        subst e
        exact ⟨D, d, rfl, own_mono O1.out (by omega), ((W_below HW.out hb).setCell (Nat.le_refl _) _).setCell (Nat.le_refl _) _⟩
  · rw [pkL_bad h0]
    obtain ⟨F, hF⟩ : ∃ F, F = logF ss n := ⟨_, rfl⟩
    rw [← hF] at LF h0 ⊢
    have g0 : (F != 0) = true := bne_iff_ne.2 h0
    have g1 : (F == 0) = false := beq_eq_false_iff_ne.2 h0
    clear hF h0
    go_enter Try.func20, Try.ntmps20
    go_wp2_with fail
    rw [← HW.out]
    refine LF.out.mono ?_
    rintro e w1 ⟨rfl, hb⟩
    have q0 := W_cell HW.out hb 0
    have q1 := W_cell HW.out hb 1
    have f0 := W_frozen HW.out hb 0
    have f1 := W_frozen HW.out hb 1
    simp at q0 q1
    go_wp2
    refine bodyPost_ret (v := .agg #[.int .i64 F, .slice none 0 0]) (by simp [results, Try.results20, go_sem, q0, q1]) rfl ?_
    exact ⟨none, 0, rfl, World.ownsRow_nil _ _ _ _, ((W_below HW.out hb).setCell (Nat.le_refl _) _).setCell (Nat.le_refl _) _⟩
end Go.Proofs.Ythomadhdjapahaa
