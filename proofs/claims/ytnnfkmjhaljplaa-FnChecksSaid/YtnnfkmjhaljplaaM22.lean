/- What the laws' walks rest upon, part 22. -/
import Derived.Test.YtnnfkmjhaljplaaM11
import Derived.Test.YtnnfkmjhaljplaaM06
import Derived.Test.YtnnfkmjhaljplaaM01
import Derived.Test.YtnnfkmjhaljplaaM12
import Derived.Test.YtnnfkmjhaljplaaM02
import Derived.Test.YtnnfkmjhaljplaaM15
namespace Go.Proofs.Ytnnfkmjhaljplaa
open Go.RowKit
/-- A split log of N cores in the call's own memory, its row in block gv. -/
structure SpAt (W : World) (base gv N : Nat) (t : List (List Ev)) (us : List Value) (w : World) : Prop where
 own : OwnT w base (.slice (some ⟨gv, 0, none⟩) N N) t us
 len : t.length = N
 old : Below W.heap.size W w
 lo : W.heap.size ≤ base
section
variable {W w w1 : World} {base gv N i : Nat} {t : List (List Ev)} {us : List Value} {u u' : Value} {es' : List Ev}
theorem SpAt.below (h : SpAt W base gv N t us w) (hb : Below w.heap.size w w1) : SpAt W base gv N t us w1 := ⟨h.own.below hb, h.len, h.old.trans (hb.mono h.old.size), h.lo⟩
theorem SpAt.alloc (h : SpAt W base gv N t us w) (o : Obj) : SpAt W base gv N t us (w.alloc o) := h.below ((Below.refl _ _).alloc (Nat.le_refl _) _)
theorem SpAt.drew (h : SpAt W base gv N t us w) : SpAt W base gv N t us w.drew := h.below (Below.refl _ _).drew
theorem SpAt.hgv (h : SpAt W base gv N t us w) : base ≤ gv ∧ gv < w.heap.size := h.own.row.lt gv rfl
theorem SpAt.at_ (h : SpAt W base gv N t us w) (hi : i < N) (hit : i < t.length) : ∃ a c, us[i]? = some (.slice a t[i].length c) ∧ w.ownsRow base 81 3 (.slice a t[i].length c) t[i].length (evs t[i]) ∧ (∀ b, (Value.slice a t[i].length c).ownBlock = some b → b ≠ gv) ∧ w.cell? ⟨gv, i, none⟩ = some (.slice a t[i].length c) := by
 have hl := h.len
 subst hl
 obtain ⟨u, h1, h2, h3⟩ := h.own.rows i hit
 obtain ⟨a, c, rfl⟩ := own_shape h2
 refine ⟨a, c, h1, h2, fun b hb e => h3 b hb (by rw [e]; rfl), ?_⟩
 rw [h.own.row.cellAt i (by have := h.own.len; omega)]
 exact h1
theorem SpAt.at2 {L : List Ev} (h : SpAt W base gv N t us w) (hui : us[i]? = some u) (hL : t[i]? = some L) : w.ownsRow base 81 3 u L.length (evs L) := by
 obtain ⟨hi, hu, _⟩ := h.own.at_ hui
 rw [List.getElem?_eq_getElem hi, Option.some.injEq] at hL
 rw [← hL]
 exact hu
theorem SpAt.store (h : SpAt W base gv N t us w) (hui : us[i]? = some u) (hg : w.grownBy w1 u.ownBlock) (hu' : w1.ownsRow base 81 3 u' es'.length (evs es')) (hat : u'.ownBlock = u.ownBlock ∨ u'.ownBlock = some w.heap.size) :
  SpAt W base gv N (t.set i es') (us.set i u') (w1.setCell ⟨gv, i, none⟩ u') := by
 have hgv := h.hgv
 have hlo := h.lo
 have hl := h.len
 subst hl
 obtain ⟨hi, hu, hu3⟩ := h.own.at_ hui
 have := h.own.swap (es' := es') hui hg (fun b e => .inl e) hu' (fun b hb => by
  rcases hat with e | e
  ·exact .inl (e.symm.trans hb)
  ·rw [e] at hb; simp only [Option.some.injEq] at hb; exact .inr (Nat.le_of_eq hb))
 refine ⟨this, by rw [List.length_set], (h.old.trans (grown_below hu hg h.old.size h.lo)).setCell (by simp only; omega) _, h.lo⟩
theorem SpAt.row5 (h : SpAt W base gv N t us w) (hui : us[i]? = some u) (hg : w.grownBy w1 u.ownBlock) : w1.cell? ⟨gv, i, none⟩ = some u ∧ w1.frozen? ⟨gv, i, none⟩ = false := by
 have hl := h.len
 subst hl
 obtain ⟨hi, hu, hu3⟩ := h.own.at_ hui
 have r := h.own.row.kept hg (own_sep fun b hb e => by simp only [Value.ownBlock, Option.some.injEq] at hb; subst hb; exact hu3 _ e rfl)
 refine ⟨?_, r.frozenAt i⟩
 rw [r.cellAt i (by have := h.own.len; omega)]
 exact hui
end
/-- What SplitLog tells. -/
def SlPost (ss : List Stp) (n : Int) (w : World) (e : Ending) (w' : World) : Prop :=
 ∃ A c us, e = .returned (.agg #[.int .i64 (logF ss n), .slice A (slT ss n).length c]) ∧ OwnT w' w.heap.size (.slice A (slT ss n).length c) (slT ss n) us ∧ Below w.heap.size w w'
set_option maxRecDepth 100000 in
set_option maxHeartbeats 1600000 in
theorem implSp_any (ss : List Stp) (n : Int) (A : Option Addr) (c : Nat) (w : World) (hm : ss.length ≤ maxLen) (h : RdP w w.heap.size A ss) :
  Calls Try.prog 16 #[.slice A ss.length c, .int .i64 n] w (SlPost ss n w) := by
 unfold SlPost
 obtain ⟨W, hW⟩ : ∃ W, W = w.alloc (Obj.cells #[Value.int .i64 0, .slice none 0 0] 39) := ⟨_, rfl⟩
 have HW := hide hW
 have hR : RdP W W.heap.size A ss := by subst hW; exact (h.alloc (Nat.le_refl _) _).lt
 clear hW h
 have LF := hide (implLogF_any ss n A c W hm hR)
 by_cases h0 : logF ss n = 0
 ·rw [sl_ok h0]
  rw [h0] at LF ⊢
  obtain ⟨hn, hl, hG, _⟩ := logF_zero h0
  have HA := hide (logG_all hG)
  obtain ⟨N, rfl⟩ := Int.eq_ofNat_of_zero_le (show 0 ≤ n by omega)
  rw [Int.toNat_natCast]
  have hN4 : N ≤ 4 := by omega
  have hN1 : 1 ≤ N := by omega
  clear h0 hn hG
  go_enter Try.func16, Try.ntmps16
  go_wp2_with fail
  rw [← HW.out]
  refine LF.out.mono ?_
  rintro e w1 ⟨rfl, b1⟩
  have z1 := b1.size
  clear LF
  obtain ⟨i1, hj, hy0, hy1, hy2⟩ := info_parts info_events
  obtain ⟨i0, hi0, hz0, hz1, hz2⟩ := info_parts info_event
  go_wp2_with (at_make; refine wpList_make_full _ rfl _ _ 31 rfl W.heap.size 79 i1 (.slice none 0 0) 1 Try.underlying31 hj hy0 hy1 .i64 .i64 _ _ N rfl rfl rfl rfl (by rw [hy2]; omega) (by unfold maxLen; omega) z1 ?_; intro w2 hown hg)
  rw [made_slices] at hown
  have oT := ownT_made hown
  rw [← spT_nil] at oT
  obtain ⟨gv, hgv⟩ : ∃ g, g = w1.heap.size := ⟨_, rfl⟩
  obtain ⟨base, hbase⟩ : ∃ g, g = W.heap.size := ⟨_, rfl⟩
  have sp : SpAt W base gv N (spT N []) (List.replicate N (.slice none 0 0)) w2 := by
   rw [hgv, hbase]
   exact ⟨oT, spT_length N [], b1.grown hg z1 (fun k e => by cases e), Nat.le_refl _⟩
  have HGV := hide hgv
  clear hg hown oT hgv
  rw [← HGV.out]
  have HBASE := hide hbase
  clear hbase
  go_wp2_with fail
  go_loopw [20] (fun i wr => ∃ (k : Nat) (t : List (List Ev)) (us : List Value), k ≤ ss.length ∧ i = .int .i64 k ∧ SpAt W base gv N t us wr ∧ Hid (t = spT N (ss.take k))) (fun i _ => ss.length - (intOf i).toNat)
  case atStart => exact ⟨0, _, _, Nat.zero_le _, rfl, sp, hide rfl⟩
  case round =>
   obtain ⟨k, t, us, hk, rfl, hs, HX⟩ := hrel
   clear sp
   by_cases hlt : k < ss.length
   ·obtain ⟨b, off, rfl, hbb, hc0, hc1, hc2, hc3⟩ := (hR.below hs.old).get hlt
    have hcr := (HA.out _ (List.getElem_mem hlt)).1
    obtain ⟨i, hi⟩ := Int.eq_ofNat_of_zero_le hcr.1
    have hiN : i < N := by omega
    have HT := hide (show t.set i (colE (i : Int) (ss.take k) ++ [ss[k].e]) = spT N (ss.take (k + 1)) by rw [HX.out, List.take_succ_eq_append_getElem hlt, spT_snoc N _ _ i hi])
    have hit : i < t.length := by rw [hs.len]; exact hiN
    have HL := hide (show t[i] = colE (i : Int) (ss.take k) by have e := HX.out; subst e; exact spT_get N _ i hit)
    have hl8 : t[i].length ≤ 32 := by rw [HL.out, colE_length]; exact Nat.le_trans (cntL_le _ _) (by rw [List.length_take]; omega)
    rw [← HL.out] at HT
    obtain ⟨ak, ck, hu, hown, hu3, hxk⟩ := hs.at_ hiN hit
    obtain ⟨L, hL⟩ : ∃ L, L = t[i] := ⟨_, rfl⟩
    rw [← hL] at HT hl8 hu hown hu3 hxk
    obtain ⟨x, hx⟩ : ∃ x, x = ss[k] := ⟨_, rfl⟩
    rw [← hx] at HT hi
    have hA2 : ¬ N ≤ i := by omega
    have hka : (0 : Int) ≤ (i : Int) := by omega
    have hkb : (i : Int) < (N : Int) := by omega
    have hgv := hs.hgv
    have hlo := hs.lo
    have hzW := hs.old.size
    have hLi : t[i]? = some L := by rw [hL]; exact List.getElem?_eq_getElem hit
    have hold : ∀ b, (Value.slice ak L.length ck).ownBlock = some b → base ≤ b ∧ b < wr.heap.size := fun b hb => hown.lt b hb
    clear hcr hit HL hL
    rw [← hx, hi] at hc0
    rw [← hx] at hc1 hc2 hc3
    clear hx hi hown hxk
    go_wp2_with fail
    generalize hwx : wr.alloc (Obj.cells #[.int .i64 i, .int .i64 x.e.k, .int .i64 x.e.a, .int .i64 x.e.v] 85) = wx
    obtain ⟨p, hp⟩ : ∃ p, p = wr.heap.size := ⟨_, rfl⟩
    rw [← hp] at hold hgv
    rw [← hp]
    have kp : Bk wx.drew p #[.int .i64 i, .int .i64 x.e.k, .int .i64 x.e.a, .int .i64 x.e.v] 85 := by rw [← hwx, hp]; exact Bk.new wr _ _
    have hsx : SpAt W base gv N t us wx.drew := by rw [← hwx]; exact (hs.alloc _).drew
    have hgp : p ≠ gv := by omega
    clear hwx hp hs hc0 hc1 hc2 hc3
    have AC : ∀ w', Bk w' p #[.int .i64 i, .int .i64 x.e.k, .int .i64 x.e.a, .int .i64 x.e.v] 85 → w'.cell? ⟨p, 0, none⟩ = some (Value.int .i64 i) ∧ w'.cell? ⟨p, 1, none⟩ = some (Value.int .i64 x.e.k) ∧ w'.cell? ⟨p, 2, none⟩ = some (Value.int .i64 x.e.a) ∧ w'.cell? ⟨p, 3, none⟩ = some (Value.int .i64 x.e.v) := fun w' h => ⟨(h.cell 0).trans rfl, (h.cell 1).trans rfl, (h.cell 2).trans rfl, (h.cell 3).trans rfl⟩
    have a0 := AC _ kp
    have s0 : wx.drew.cell? ⟨gv, i, none⟩ = some (.slice ak L.length ck) := (hsx.row5 hu (World.grownBy.refl _ _)).1
    obtain ⟨wy, hwy⟩ : ∃ wy, wy = wx.drew := ⟨_, rfl⟩
    rw [← hwy] at a0 s0 kp hsx
    have hs1 := hsx.alloc (.cells #[.int .i64 x.e.k, .int .i64 x.e.a, .int .i64 x.e.v] 81)
    have kp1 := kp.alloc (.cells #[.int .i64 x.e.k, .int .i64 x.e.a, .int .i64 x.e.v] 81)
    have a1 := AC _ kp1
    have s1 : (wy.alloc (.cells #[.int .i64 x.e.k, .int .i64 x.e.a, .int .i64 x.e.v] 81)).cell? ⟨gv, i, none⟩ = some (.slice ak L.length ck) := (hs1.row5 hu (World.grownBy.refl _ _)).1
    have hBl := RdE.one_new wy x.e 81
    have ho1 := hs1.at2 hu hLi
    have hzy : base ≤ (wy.alloc (.cells #[.int .i64 x.e.k, .int .i64 x.e.a, .int .i64 x.e.v] 81)).heap.size := by have := hs1.hgv; omega
    have hnp : some p ≠ (Value.slice ak L.length ck).ownBlock := fun e => by have := (hold p e.symm).2; omega
    subst hwy
    clear kp hsx
    refine wp_region_F 11 (fun w' => w'.cell? ⟨p, 0, none⟩ = some (Value.int .i64 i) ∧ w'.cell? ⟨p, 1, none⟩ = some (Value.int .i64 x.e.k) ∧ w'.cell? ⟨p, 2, none⟩ = some (Value.int .i64 x.e.a) ∧ w'.cell? ⟨p, 3, none⟩ = some (Value.int .i64 x.e.v)) (fun w' => w'.cell? ⟨gv, i, none⟩ = some (Value.slice ak L.length ck)) (by kernel_rfl) ⟨a0, s0⟩ (fun hHeld => ?_)
    try simp only [Act.put, List.setIfInBounds_toArray, List.set_cons_zero, List.set_cons_succ]
    refine wpAnyF_take (i := 0) (v := ?_) (by (simp only [List.getElem?_toArray, List.getElem?_cons_zero]; rfl)) (by kernel_rfl) (by kernel_rfl) (by kernel_rfl) (by decide) (by exact fun _ _ _ h => h) ⟨hHeld.1, .inr hHeld.2⟩ (Or.inl ⟨by rfl, ?_⟩) ?_
    rotate_left
    ·(intro w' _; go_simp <;> with_reducible rfl)
    try simp only [Act.put, List.setIfInBounds_toArray, List.set_cons_zero, List.set_cons_succ]
    refine wpAnyF_take (i := 1) (v := ?_) (by (simp only [List.getElem?_toArray, List.getElem?_cons_succ, List.getElem?_cons_zero]; rfl)) (by kernel_rfl) (by kernel_rfl) (by kernel_rfl) (by decide) (by exact fun _ _ _ h => h) ⟨hHeld.1, .inr hHeld.2⟩ (Or.inl ⟨by rfl, ?_⟩) ?_
    rotate_left
    ·(intro w' _; go_simp <;> with_reducible rfl)
    try simp only [Act.put, List.setIfInBounds_toArray, List.set_cons_zero, List.set_cons_succ]
    refine wpAnyF_keep (i := 2) (v := ?_) (by (simp only [List.getElem?_toArray, List.getElem?_cons_succ, List.getElem?_cons_zero]; rfl)) (by kernel_rfl) (by kernel_rfl) (by kernel_rfl) (by decide) (by exact fun _ _ _ h => h) ⟨hHeld.1, .inr hHeld.2⟩ (Or.inl ⟨by rfl, ?_⟩) ?_
    rotate_left
    ·(intro w' hSw; (try dsimp only at hSw); obtain ⟨hSa0, hSa1, hSa2, hSa3⟩ := hSw; go_simp <;> with_reducible rfl)
    try simp only [Act.put, List.setIfInBounds_toArray, List.set_cons_zero, List.set_cons_succ]
    refine wpAnyF_take (i := 3) (v := ?_) (by (simp only [List.getElem?_toArray, List.getElem?_cons_succ, List.getElem?_cons_zero]; rfl)) (by kernel_rfl) (by kernel_rfl) (by kernel_rfl) (by decide) (by exact fun _ _ _ h => h) ⟨hHeld.1, .inr hHeld.2⟩ (Or.inl ⟨by rfl, ?_⟩) ?_
    rotate_left
    ·(intro w' _; go_simp <;> with_reducible rfl)
    try simp only [Act.put, List.setIfInBounds_toArray, List.set_cons_zero, List.set_cons_succ]
    refine wpAnyF_take (i := 4) (v := ?_) (by (simp only [List.getElem?_toArray, List.getElem?_cons_succ, List.getElem?_cons_zero]; rfl)) (by kernel_rfl) (by kernel_rfl) (by kernel_rfl) (by decide) (by exact fun _ _ _ h => h) ⟨hHeld.1, .inr hHeld.2⟩ (Or.inl ⟨by rfl, ?_⟩) ?_
    rotate_left
    ·(intro w' _; go_simp <;> with_reducible rfl)
    try simp only [Act.put, List.setIfInBounds_toArray, List.set_cons_zero, List.set_cons_succ]
    refine wpAnyF_keep (i := 5) (v := ?_) (by (simp only [List.getElem?_toArray, List.getElem?_cons_succ, List.getElem?_cons_zero]; rfl)) (by kernel_rfl) (by kernel_rfl) (by kernel_rfl) (by decide) (by exact fun _ _ _ h => h) ⟨hHeld.1, .inr hHeld.2⟩ (Or.inl ⟨by rfl, ?_⟩) ?_
    rotate_left
    ·(intro w' hSw; (try dsimp only at hSw); obtain ⟨hSa0, hSa1, hSa2, hSa3⟩ := hSw; go_simp <;> with_reducible rfl)
    try simp only [Act.put, List.setIfInBounds_toArray, List.set_cons_zero, List.set_cons_succ]
    refine wpAnyF_take (i := 6) (v := ?_) (by (simp only [List.getElem?_toArray, List.getElem?_cons_succ, List.getElem?_cons_zero]; rfl)) (by kernel_rfl) (by kernel_rfl) (by kernel_rfl) (by decide) (by exact fun _ _ _ h => h) ⟨hHeld.1, .inr hHeld.2⟩ (Or.inl ⟨by rfl, ?_⟩) ?_
    rotate_left
    ·(intro w' _; go_simp <;> with_reducible rfl)
    try simp only [Act.put, List.setIfInBounds_toArray, List.set_cons_zero, List.set_cons_succ]
    refine wpAnyF_load (i := 7) (v := ?_) (by (simp only [List.getElem?_toArray, List.getElem?_cons_succ, List.getElem?_cons_zero]; rfl)) (by kernel_rfl) (by kernel_rfl) (by kernel_rfl) (by decide) (by exact fun _ _ _ h => h) hHeld (by kernel_rfl) (by kernel_rfl) (Or.inl ⟨by rfl, ?_⟩) ?_
    rotate_left
    ·(intro w' hSw; (try dsimp only at hSw); obtain hSb0 := hSw; go_simp <;> with_reducible rfl)
    try simp only [Act.put, List.setIfInBounds_toArray, List.set_cons_zero, List.set_cons_succ]
    refine wpAnyF_take (i := 8) (v := ?_) (by (simp only [List.getElem?_toArray, List.getElem?_cons_succ, List.getElem?_cons_zero]; rfl)) (by kernel_rfl) (by kernel_rfl) (by kernel_rfl) (by decide) (by exact fun _ _ _ h => h) ⟨hHeld.1, .inr hHeld.2⟩ (Or.inl ⟨by rfl, ?_⟩) ?_
    rotate_left
    ·(intro w' _; go_simp <;> with_reducible rfl)
    try simp only [Act.put, List.setIfInBounds_toArray, List.set_cons_zero, List.set_cons_succ]
    refine wpAnyF_keep (i := 9) (v := ?_) (by (simp only [List.getElem?_toArray, List.getElem?_cons_succ, List.getElem?_cons_zero]; rfl)) (by kernel_rfl) (by kernel_rfl) (by kernel_rfl) (by decide) (by exact fun _ _ _ h => h) ⟨hHeld.1, .inr hHeld.2⟩ (Or.inl ⟨by rfl, ?_⟩) ?_
    rotate_left
    ·(intro w' hSw; (try dsimp only at hSw); obtain ⟨hSa0, hSa1, hSa2, hSa3⟩ := hSw; go_simp <;> with_reducible rfl)
    try simp only [Act.put, List.setIfInBounds_toArray, List.set_cons_zero, List.set_cons_succ]
    refine wpAnyF_ready (rs := [10]) (by kernel_rfl) (by simp) ?_
    refine AllReadyF.cons (by (simp only [List.getElem?_toArray, List.getElem?_cons_succ, List.getElem?_cons_zero]; rfl)) (fun K hK => ?_) AllReadyF.nil
    go_simp
    refine hK.out _ _ ⟨a1, s1⟩ (fun hNew => ?_)
    clear hK K hHeld
    have hHeld := hNew
    clear hNew
    try simp only [Act.put, List.setIfInBounds_toArray, List.set_cons_zero, List.set_cons_succ]
    refine wpAnyF_ready (rs := [11]) (by kernel_rfl) (by simp) ?_
    refine AllReadyF.last (by (simp only [List.getElem?_toArray, List.getElem?_cons_succ, List.getElem?_cons_zero]; rfl)) (by kernel_rfl) (fun K hK => ?_) AllReadyF.nil
    refine step_append_re _ (by rfl) (.tmp 31) (.tmp 34) 79 (by rfl) base 81 i0 (.agg #[.int .i64 0, .int .i64 0, .int .i64 0]) 24 Try.underlying79 hi0 hz0 hz1 hz2 rfl (.slice ak L.length ck) L.length (evs L) (by rfl) ho1 (some ⟨wx.drew.heap.size, 0, none⟩) [x.e] 1 (wx.drew.heap.size + 1) (by rfl) hBl (by unfold maxLen; simp only [List.length_cons, List.length_nil]; omega) (by simp only [List.length_cons, List.length_nil]; omega) hzy ?_
    intro v5 w5 o5 g5 hat5
    simp only [List.length_cons, List.length_nil, Nat.zero_add] at o5
    rw [show evs L ++ evs [x.e] = evs (L ++ [x.e]) from (evs_append _ _).symm] at o5
    obtain ⟨D5, d5, hv5⟩ := own_shape o5
    subst hv5
    obtain ⟨hc5, hf5⟩ := hs1.row5 hu g5
    have H5 := hide (hs1.store (es' := L ++ [x.e]) hu g5 (by rw [List.length_append, List.length_singleton]; exact o5) hat5)
    have kp5 := kp1.grown g5 hnp
    have A5 := AC _ kp5
    have A6 := AC _ (kp5.far (p := ⟨gv, i, none⟩) hgp (.slice D5 (L.length + 1) d5))
    clear kp1 kp5
    clear o5 g5 hat5 ho1 hBl hs1
    refine hK.out _ _ A5 ?_
    clear hK K
    try simp only [Act.put, List.setIfInBounds_toArray, List.set_cons_zero, List.set_cons_succ]
    refine wpAnyF_take (i := 12) (v := ?_) (by (simp only [List.getElem?_toArray, List.getElem?_cons_succ, List.getElem?_cons_zero]; rfl)) (by kernel_rfl) (by kernel_rfl) (by kernel_rfl) (by decide) (by exact fun _ _ _ h => h) ⟨A5, .inl (by kernel_rfl)⟩ (Or.inl ⟨by rfl, ?_⟩) ?_
    rotate_left
    ·(intro w' _; go_simp <;> with_reducible rfl)
    try simp only [Act.put, List.setIfInBounds_toArray, List.set_cons_zero, List.set_cons_succ]
    refine wpAnyF_ready (rs := [13]) (by kernel_rfl) (by simp) ?_
    refine AllReadyF.last (by (simp only [List.getElem?_toArray, List.getElem?_cons_succ, List.getElem?_cons_zero]; rfl)) (by kernel_rfl) (fun K hK => ?_) AllReadyF.nil
    go_simp
    refine hK.out _ _ A6 ?_
    clear hK K
    try simp only [Act.put, List.setIfInBounds_toArray, List.set_cons_zero, List.set_cons_succ]
    refine wpAnyF_done (by kernel_rfl) ?_ _
    go_wp2
    go_roundw
    case rel => exact ⟨k + 1, _, _, by omega, by go_num, H5.out, HT⟩
    case measure => simp [intOf]; omega
   ·obtain rfl : k = ss.length := by omega
    rw [List.take_length] at HX
    have hb := hs.old
    have hgv := hs.hgv
    have q0 := W_cell HW.out hb 0
    have q1 := W_cell HW.out hb 1
    have f0 := W_frozen HW.out hb 0
    have f1 := W_frozen HW.out hb 1
    simp at q0 q1
    have hzz := W_size HW.out
    have O1 := hide (show OwnT ((wr.setCell ⟨w.heap.size, 0, none⟩ (.int .i64 0)).setCell ⟨w.heap.size, 1, none⟩ (.slice (some ⟨gv, 0, none⟩) N N)) base (.slice (some ⟨gv, 0, none⟩) N N) t us from (hs.own.kept (grown_set wr w.heap.size 0 (.int .i64 0)) (fun b e => by cases e; rw [HBASE.out]; omega)).kept (grown_set _ w.heap.size 1 _) (fun b e => by cases e; rw [HBASE.out]; omega))
    clear hs
    go_wp2
    refine bodyPost_ret (v := .agg #[.int .i64 0, .slice (some ⟨gv, 0, none⟩) N N]) (by simp [results, Try.results16, go_sem, q0, q1]) rfl ?_
    have e := HX.out
    subst e
    have hlen : (spT N ss).length = N := spT_length N ss
    rw [hlen]
    exact ⟨some ⟨gv, 0, none⟩, N, us, rfl, O1.out.mono (by rw [HBASE.out]; omega), ((W_below HW.out hb).setCell (Nat.le_refl _) _).setCell (Nat.le_refl _) _⟩
 ·rw [sl_bad h0]
  obtain ⟨F, hF⟩ : ∃ F, F = logF ss n := ⟨_, rfl⟩
  rw [← hF] at LF h0 ⊢
  have g0 : (F != 0) = true := bne_iff_ne.2 h0
  have g1 : (F == 0) = false := beq_eq_false_iff_ne.2 h0
  clear hF h0
  go_enter Try.func16, Try.ntmps16
  go_wp2_with fail
  rw [← HW.out]
  refine LF.out.mono ?_
  rintro e w1 ⟨rfl, hb⟩
  have q0 := W_cell HW.out hb 0
  have q1 := W_cell HW.out hb 1
  have f0 := W_frozen HW.out hb 0
  have f1 := W_frozen HW.out hb 1
  simp at q0 q1
  go_wp2
  refine bodyPost_ret (v := .agg #[.int .i64 F, .slice none 0 0]) (by simp [results, Try.results16, go_sem, q0, q1]) rfl ?_
  exact ⟨none, 0, [], rfl, ⟨World.ownsRow_nil _ _ _ _, fun i hi => by simp at hi, fun i j u u' _ hu => by simp at hu⟩, ((W_below HW.out hb).setCell (Nat.le_refl _) _).setCell (Nat.le_refl _) _⟩
set_option maxRecDepth 100000 in
set_option maxHeartbeats 1600000 in
theorem l6Split_any (ss : List Stp) (N : Nat) (A : Option Addr) (c : Nat) (W : World) (hl : ss.length ≤ 32) (hN1 : 1 ≤ N) (hN4 : N ≤ 4) (hG : ∀ s ∈ ss, 0 ≤ s.c ∧ s.c ≤ (N : Int) - 1) (hR : RdP W W.heap.size A ss) :
  Calls Try.prog 81 #[.slice A ss.length c, .int .i64 N] W fun e w' => ∃ g us, e = .returned (.slice (some ⟨g, 0, none⟩) N N) ∧ SpAt W W.heap.size g N (spT N ss) us w' := by
 have HA := hide (fun s hs => (⟨hG s hs, trivial⟩ : ((0 : Int) ≤ s.c ∧ s.c ≤ (N : Int) - 1) ∧ True))
 clear hG
 go_enter Try.func81, Try.ntmps81
 obtain ⟨i1, hj, hy0, hy1, hy2⟩ := info_parts info_events
 obtain ⟨i0, hi0, hz0, hz1, hz2⟩ := info_parts info_event
 go_wp2_with (at_make; refine wpList_make_full _ rfl _ _ 31 rfl W.heap.size 79 i1 (.slice none 0 0) 1 Try.underlying31 hj hy0 hy1 .i64 .i64 _ _ N rfl rfl rfl rfl (by rw [hy2]; omega) (by unfold maxLen; omega) (Nat.le_refl _) ?_; intro w2 hown hg)
 rw [made_slices] at hown
 have oT := ownT_made hown
 rw [← spT_nil] at oT
 obtain ⟨gv, hgv⟩ : ∃ g, g = W.heap.size := ⟨_, rfl⟩
 obtain ⟨base, hbase⟩ : ∃ g, g = W.heap.size := ⟨_, rfl⟩
 have sp : SpAt W base gv N (spT N []) (List.replicate N (.slice none 0 0)) w2 := by
  rw [hgv, hbase]
  exact ⟨oT, spT_length N [], (Below.refl _ _).grown hg (Nat.le_refl _) (fun k e => by cases e), Nat.le_refl _⟩
 have HGV := hide hgv
 clear hg hown oT hgv
 rw [← HGV.out]
 have HBASE := hide hbase
 clear hbase
 go_wp2_with fail
 go_loopw [11] (fun i wr => ∃ (k : Nat) (t : List (List Ev)) (us : List Value), k ≤ ss.length ∧ i = .int .i64 k ∧ SpAt W base gv N t us wr ∧ Hid (t = spT N (ss.take k))) (fun i _ => ss.length - (intOf i).toNat)
 case atStart => exact ⟨0, _, _, Nat.zero_le _, rfl, sp, hide rfl⟩
 case round =>
   obtain ⟨k, t, us, hk, rfl, hs, HX⟩ := hrel
   clear sp
   by_cases hlt : k < ss.length
   ·obtain ⟨b, off, hAA, hbb, _, _, _, _⟩ := hR.get hlt
    have HC := hide (fun w' (hb : Below W.heap.size W w') => (by
     obtain ⟨b', off', hA', hbb', c0, c1, c2, c3⟩ := (hR.below hb).get hlt
     rw [hAA] at hA'
     simp only [Option.some.injEq, Addr.mk.injEq] at hA'
     obtain ⟨rfl, rfl, _⟩ := hA'
     exact ⟨c0, c1, c2, c3⟩ : w'.cell? ⟨b, off + k * 4, none⟩ = some (.int .i64 ss[k].c) ∧ w'.cell? ⟨b, off + k * 4 + 1, none⟩ = some (.int .i64 ss[k].e.k) ∧ w'.cell? ⟨b, off + k * 4 + 2, none⟩ = some (.int .i64 ss[k].e.a) ∧ w'.cell? ⟨b, off + k * 4 + 3, none⟩ = some (.int .i64 ss[k].e.v)))
    have hcr := (HA.out _ (List.getElem_mem hlt)).1
    obtain ⟨i, hi⟩ := Int.eq_ofNat_of_zero_le hcr.1
    have hiN : i < N := by omega
    have HT := hide (show t.set i (colE (i : Int) (ss.take k) ++ [ss[k].e]) = spT N (ss.take (k + 1)) by rw [HX.out, List.take_succ_eq_append_getElem hlt, spT_snoc N _ _ i hi])
    have hit : i < t.length := by rw [hs.len]; exact hiN
    have HL := hide (show t[i] = colE (i : Int) (ss.take k) by have e := HX.out; subst e; exact spT_get N _ i hit)
    have hl8 : t[i].length ≤ 32 := by rw [HL.out, colE_length]; exact Nat.le_trans (cntL_le _ _) (by rw [List.length_take]; omega)
    rw [← HL.out] at HT
    obtain ⟨ak, ck, hu, hown, hu3, hxk⟩ := hs.at_ hiN hit
    obtain ⟨L, hL⟩ : ∃ L, L = t[i] := ⟨_, rfl⟩
    rw [← hL] at HT hl8 hu hown hu3 hxk
    obtain ⟨x, hx⟩ : ∃ x, x = ss[k] := ⟨_, rfl⟩
    rw [← hx] at HT hi
    have hA2 : ¬ N ≤ i := by omega
    have hka : (0 : Int) ≤ (i : Int) := by omega
    have hkb : (i : Int) < (N : Int) := by omega
    have hgv := hs.hgv
    have hlo := hs.lo
    have hzW := hs.old.size
    have hLi : t[i]? = some L := by rw [hL]; exact List.getElem?_eq_getElem hit
    have hold : ∀ b, (Value.slice ak L.length ck).ownBlock = some b → base ≤ b ∧ b < wr.heap.size := fun b hb => hown.lt b hb
    clear hcr hit HL hL
    rw [← hx, hi] at HC
    have HAA := hide hAA
    clear hx hi hown hxk hAA
    have e1 := HAA.out
    subst e1
    go_wp2_with fail
    have hsx := hs.drew
    obtain ⟨wy, hwy⟩ : ∃ wy, wy = wr.drew := ⟨_, rfl⟩
    rw [← hwy] at hsx
    have a0 := HC.out _ hsx.old
    have s0 : wy.cell? ⟨gv, i, none⟩ = some (.slice ak L.length ck) := (hsx.row5 hu (World.grownBy.refl _ _)).1
    have hs1 := hsx.alloc (.cells #[.int .i64 x.e.k, .int .i64 x.e.a, .int .i64 x.e.v] 81)
    have a1 := HC.out _ hs1.old
    have s1 : (wy.alloc (.cells #[.int .i64 x.e.k, .int .i64 x.e.a, .int .i64 x.e.v] 81)).cell? ⟨gv, i, none⟩ = some (.slice ak L.length ck) := (hs1.row5 hu (World.grownBy.refl _ _)).1
    have hBl := RdE.one_new wy x.e 81
    have ho1 := hs1.at2 hu hLi
    have hzy : base ≤ (wy.alloc (.cells #[.int .i64 x.e.k, .int .i64 x.e.a, .int .i64 x.e.v] 81)).heap.size := by have := hs1.hgv; omega
    subst hwy
    clear hs hsx
    refine wp_region_F 20 (fun w' => w'.cell? ⟨b, off + k * 4, none⟩ = some (Value.int .i64 i) ∧ w'.cell? ⟨b, off + k * 4 + 1, none⟩ = some (Value.int .i64 x.e.k) ∧ w'.cell? ⟨b, off + k * 4 + 2, none⟩ = some (Value.int .i64 x.e.a) ∧ w'.cell? ⟨b, off + k * 4 + 3, none⟩ = some (Value.int .i64 x.e.v)) (fun w' => w'.cell? ⟨gv, i, none⟩ = some (Value.slice ak L.length ck)) (by kernel_rfl) ⟨a0, s0⟩ (fun hHeld => ?_)
    try simp only [Act.put, List.setIfInBounds_toArray, List.set_cons_zero, List.set_cons_succ]
    refine wpAnyF_take (i := 0) (v := ?_) (by (simp only [List.getElem?_toArray, List.getElem?_cons_zero]; rfl)) (by kernel_rfl) (by kernel_rfl) (by kernel_rfl) (by decide) (by exact fun _ _ _ h => h) ⟨hHeld.1, .inr hHeld.2⟩ (Or.inl ⟨by rfl, ?_⟩) ?_
    rotate_left
    ·(intro w' _; go_simp <;> with_reducible rfl)
    try simp only [Act.put, List.setIfInBounds_toArray, List.set_cons_zero, List.set_cons_succ]
    refine wpAnyF_take (i := 1) (v := ?_) (by (simp only [List.getElem?_toArray, List.getElem?_cons_succ, List.getElem?_cons_zero]; rfl)) (by kernel_rfl) (by kernel_rfl) (by kernel_rfl) (by decide) (by exact fun _ _ _ h => h) ⟨hHeld.1, .inr hHeld.2⟩ (Or.inl ⟨by rfl, ?_⟩) ?_
    rotate_left
    ·(intro w' _; go_simp <;> with_reducible rfl)
    try simp only [Act.put, List.setIfInBounds_toArray, List.set_cons_zero, List.set_cons_succ]
    refine wpAnyF_take (i := 2) (v := ?_) (by (simp only [List.getElem?_toArray, List.getElem?_cons_succ, List.getElem?_cons_zero]; rfl)) (by kernel_rfl) (by kernel_rfl) (by kernel_rfl) (by decide) (by exact fun _ _ _ h => h) ⟨hHeld.1, .inr hHeld.2⟩ (Or.inl ⟨by rfl, ?_⟩) ?_
    rotate_left
    ·(intro w' _; go_simp <;> with_reducible rfl)
    try simp only [Act.put, List.setIfInBounds_toArray, List.set_cons_zero, List.set_cons_succ]
    refine wpAnyF_take (i := 3) (v := ?_) (by (simp only [List.getElem?_toArray, List.getElem?_cons_succ, List.getElem?_cons_zero]; rfl)) (by kernel_rfl) (by kernel_rfl) (by kernel_rfl) (by decide) (by exact fun _ _ _ h => h) ⟨hHeld.1, .inr hHeld.2⟩ (Or.inl ⟨by rfl, ?_⟩) ?_
    rotate_left
    ·(intro w' _; go_simp <;> with_reducible rfl)
    try simp only [Act.put, List.setIfInBounds_toArray, List.set_cons_zero, List.set_cons_succ]
    refine wpAnyF_take (i := 4) (v := ?_) (by (simp only [List.getElem?_toArray, List.getElem?_cons_succ, List.getElem?_cons_zero]; rfl)) (by kernel_rfl) (by kernel_rfl) (by kernel_rfl) (by decide) (by exact fun _ _ _ h => h) ⟨hHeld.1, .inr hHeld.2⟩ (Or.inl ⟨by rfl, ?_⟩) ?_
    rotate_left
    ·(intro w' _; go_simp <;> with_reducible rfl)
    try simp only [Act.put, List.setIfInBounds_toArray, List.set_cons_zero, List.set_cons_succ]
    refine wpAnyF_keep (i := 5) (v := ?_) (by (simp only [List.getElem?_toArray, List.getElem?_cons_succ, List.getElem?_cons_zero]; rfl)) (by kernel_rfl) (by kernel_rfl) (by kernel_rfl) (by decide) (by exact fun _ _ _ h => h) ⟨hHeld.1, .inr hHeld.2⟩ (Or.inl ⟨by rfl, ?_⟩) ?_
    rotate_left
    ·(intro w' hSw; (try dsimp only at hSw); obtain ⟨hSa0, hSa1, hSa2, hSa3⟩ := hSw; go_simp <;> with_reducible rfl)
    try simp only [Act.put, List.setIfInBounds_toArray, List.set_cons_zero, List.set_cons_succ]
    refine wpAnyF_take (i := 6) (v := ?_) (by (simp only [List.getElem?_toArray, List.getElem?_cons_succ, List.getElem?_cons_zero]; rfl)) (by kernel_rfl) (by kernel_rfl) (by kernel_rfl) (by decide) (by exact fun _ _ _ h => h) ⟨hHeld.1, .inr hHeld.2⟩ (Or.inl ⟨by rfl, ?_⟩) ?_
    rotate_left
    ·(intro w' _; go_simp <;> with_reducible rfl)
    try simp only [Act.put, List.setIfInBounds_toArray, List.set_cons_zero, List.set_cons_succ]
    refine wpAnyF_take (i := 7) (v := ?_) (by (simp only [List.getElem?_toArray, List.getElem?_cons_succ, List.getElem?_cons_zero]; rfl)) (by kernel_rfl) (by kernel_rfl) (by kernel_rfl) (by decide) (by exact fun _ _ _ h => h) ⟨hHeld.1, .inr hHeld.2⟩ (Or.inl ⟨by rfl, ?_⟩) ?_
    rotate_left
    ·(intro w' _; go_simp <;> with_reducible rfl)
    try simp only [Act.put, List.setIfInBounds_toArray, List.set_cons_zero, List.set_cons_succ]
    refine wpAnyF_take (i := 8) (v := ?_) (by (simp only [List.getElem?_toArray, List.getElem?_cons_succ, List.getElem?_cons_zero]; rfl)) (by kernel_rfl) (by kernel_rfl) (by kernel_rfl) (by decide) (by exact fun _ _ _ h => h) ⟨hHeld.1, .inr hHeld.2⟩ (Or.inl ⟨by rfl, ?_⟩) ?_
    rotate_left
    ·(intro w' _; go_simp <;> with_reducible rfl)
    try simp only [Act.put, List.setIfInBounds_toArray, List.set_cons_zero, List.set_cons_succ]
    refine wpAnyF_take (i := 9) (v := ?_) (by (simp only [List.getElem?_toArray, List.getElem?_cons_succ, List.getElem?_cons_zero]; rfl)) (by kernel_rfl) (by kernel_rfl) (by kernel_rfl) (by decide) (by exact fun _ _ _ h => h) ⟨hHeld.1, .inr hHeld.2⟩ (Or.inl ⟨by rfl, ?_⟩) ?_
    rotate_left
    ·(intro w' _; go_simp <;> with_reducible rfl)
    try simp only [Act.put, List.setIfInBounds_toArray, List.set_cons_zero, List.set_cons_succ]
    refine wpAnyF_take (i := 10) (v := ?_) (by (simp only [List.getElem?_toArray, List.getElem?_cons_succ, List.getElem?_cons_zero]; rfl)) (by kernel_rfl) (by kernel_rfl) (by kernel_rfl) (by decide) (by exact fun _ _ _ h => h) ⟨hHeld.1, .inr hHeld.2⟩ (Or.inl ⟨by rfl, ?_⟩) ?_
    rotate_left
    ·(intro w' _; go_simp <;> with_reducible rfl)
    try simp only [Act.put, List.setIfInBounds_toArray, List.set_cons_zero, List.set_cons_succ]
    refine wpAnyF_keep (i := 11) (v := ?_) (by (simp only [List.getElem?_toArray, List.getElem?_cons_succ, List.getElem?_cons_zero]; rfl)) (by kernel_rfl) (by kernel_rfl) (by kernel_rfl) (by decide) (by exact fun _ _ _ h => h) ⟨hHeld.1, .inr hHeld.2⟩ (Or.inl ⟨by rfl, ?_⟩) ?_
    rotate_left
    ·(intro w' hSw; (try dsimp only at hSw); obtain ⟨hSa0, hSa1, hSa2, hSa3⟩ := hSw; go_simp <;> with_reducible rfl)
    try simp only [Act.put, List.setIfInBounds_toArray, List.set_cons_zero, List.set_cons_succ]
    refine wpAnyF_take (i := 12) (v := ?_) (by (simp only [List.getElem?_toArray, List.getElem?_cons_succ, List.getElem?_cons_zero]; rfl)) (by kernel_rfl) (by kernel_rfl) (by kernel_rfl) (by decide) (by exact fun _ _ _ h => h) ⟨hHeld.1, .inr hHeld.2⟩ (Or.inl ⟨by rfl, ?_⟩) ?_
    rotate_left
    ·(intro w' _; go_simp <;> with_reducible rfl)
    try simp only [Act.put, List.setIfInBounds_toArray, List.set_cons_zero, List.set_cons_succ]
    refine wpAnyF_load (i := 13) (v := ?_) (by (simp only [List.getElem?_toArray, List.getElem?_cons_succ, List.getElem?_cons_zero]; rfl)) (by kernel_rfl) (by kernel_rfl) (by kernel_rfl) (by decide) (by exact fun _ _ _ h => h) hHeld (by kernel_rfl) (by kernel_rfl) (Or.inl ⟨by rfl, ?_⟩) ?_
    rotate_left
    ·(intro w' hSw; (try dsimp only at hSw); obtain hSb0 := hSw; go_simp <;> with_reducible rfl)
    try simp only [Act.put, List.setIfInBounds_toArray, List.set_cons_zero, List.set_cons_succ]
    refine wpAnyF_take (i := 14) (v := ?_) (by (simp only [List.getElem?_toArray, List.getElem?_cons_succ, List.getElem?_cons_zero]; rfl)) (by kernel_rfl) (by kernel_rfl) (by kernel_rfl) (by decide) (by exact fun _ _ _ h => h) ⟨hHeld.1, .inr hHeld.2⟩ (Or.inl ⟨by rfl, ?_⟩) ?_
    rotate_left
    ·(intro w' _; go_simp <;> with_reducible rfl)
    try simp only [Act.put, List.setIfInBounds_toArray, List.set_cons_zero, List.set_cons_succ]
    refine wpAnyF_take (i := 15) (v := ?_) (by (simp only [List.getElem?_toArray, List.getElem?_cons_succ, List.getElem?_cons_zero]; rfl)) (by kernel_rfl) (by kernel_rfl) (by kernel_rfl) (by decide) (by exact fun _ _ _ h => h) ⟨hHeld.1, .inr hHeld.2⟩ (Or.inl ⟨by rfl, ?_⟩) ?_
    rotate_left
    ·(intro w' _; go_simp <;> with_reducible rfl)
    try simp only [Act.put, List.setIfInBounds_toArray, List.set_cons_zero, List.set_cons_succ]
    refine wpAnyF_take (i := 16) (v := ?_) (by (simp only [List.getElem?_toArray, List.getElem?_cons_succ, List.getElem?_cons_zero]; rfl)) (by kernel_rfl) (by kernel_rfl) (by kernel_rfl) (by decide) (by exact fun _ _ _ h => h) ⟨hHeld.1, .inr hHeld.2⟩ (Or.inl ⟨by rfl, ?_⟩) ?_
    rotate_left
    ·(intro w' _; go_simp <;> with_reducible rfl)
    try simp only [Act.put, List.setIfInBounds_toArray, List.set_cons_zero, List.set_cons_succ]
    refine wpAnyF_take (i := 17) (v := ?_) (by (simp only [List.getElem?_toArray, List.getElem?_cons_succ, List.getElem?_cons_zero]; rfl)) (by kernel_rfl) (by kernel_rfl) (by kernel_rfl) (by decide) (by exact fun _ _ _ h => h) ⟨hHeld.1, .inr hHeld.2⟩ (Or.inl ⟨by rfl, ?_⟩) ?_
    rotate_left
    ·(intro w' _; go_simp <;> with_reducible rfl)
    try simp only [Act.put, List.setIfInBounds_toArray, List.set_cons_zero, List.set_cons_succ]
    refine wpAnyF_keep (i := 18) (v := ?_) (by (simp only [List.getElem?_toArray, List.getElem?_cons_succ, List.getElem?_cons_zero]; rfl)) (by kernel_rfl) (by kernel_rfl) (by kernel_rfl) (by decide) (by exact fun _ _ _ h => h) ⟨hHeld.1, .inr hHeld.2⟩ (Or.inl ⟨by rfl, ?_⟩) ?_
    rotate_left
    ·(intro w' hSw; (try dsimp only at hSw); obtain ⟨hSa0, hSa1, hSa2, hSa3⟩ := hSw; go_simp <;> with_reducible rfl)
    try simp only [Act.put, List.setIfInBounds_toArray, List.set_cons_zero, List.set_cons_succ]
    refine wpAnyF_ready (rs := [19]) (by kernel_rfl) (by simp) ?_
    refine AllReadyF.cons (by (simp only [List.getElem?_toArray, List.getElem?_cons_succ, List.getElem?_cons_zero]; rfl)) (fun K hK => ?_) AllReadyF.nil
    go_simp
    refine hK.out _ _ ⟨a1, s1⟩ (fun hNew => ?_)
    clear hK K hHeld
    have hHeld := hNew
    clear hNew
    try simp only [Act.put, List.setIfInBounds_toArray, List.set_cons_zero, List.set_cons_succ]
    refine wpAnyF_ready (rs := [20]) (by kernel_rfl) (by simp) ?_
    refine AllReadyF.last (by (simp only [List.getElem?_toArray, List.getElem?_cons_succ, List.getElem?_cons_zero]; rfl)) (by kernel_rfl) (fun K hK => ?_) AllReadyF.nil
    refine step_append_re _ (by rfl) (.tmp 27) (.tmp 33) 79 (by rfl) base 81 i0 (.agg #[.int .i64 0, .int .i64 0, .int .i64 0]) 24 Try.underlying79 hi0 hz0 hz1 hz2 rfl (.slice ak L.length ck) L.length (evs L) (by rfl) ho1 (some ⟨wr.drew.heap.size, 0, none⟩) [x.e] 1 (wr.drew.heap.size + 1) (by rfl) hBl (by unfold maxLen; simp only [List.length_cons, List.length_nil]; omega) (by simp only [List.length_cons, List.length_nil]; omega) hzy ?_
    intro v5 w5 o5 g5 hat5
    simp only [List.length_cons, List.length_nil, Nat.zero_add] at o5
    rw [show evs L ++ evs [x.e] = evs (L ++ [x.e]) from (evs_append _ _).symm] at o5
    obtain ⟨D5, d5, hv5⟩ := own_shape o5
    subst hv5
    obtain ⟨hc5, hf5⟩ := hs1.row5 hu g5
    have H5 := hide (hs1.store (es' := L ++ [x.e]) hu g5 (by rw [List.length_append, List.length_singleton]; exact o5) hat5)
    have b5 : Below W.heap.size W w5 := hs1.old.trans (grown_below ho1 g5 hs1.old.size hs1.lo)
    have A5 := HC.out _ b5
    have A6 := HC.out _ (b5.setCell (p := ⟨gv, i, none⟩) (by simp only; omega) (.slice D5 (L.length + 1) d5))
    clear o5 g5 hat5 ho1 hBl hs1
    refine hK.out _ _ A5 ?_
    clear hK K
    try simp only [Act.put, List.setIfInBounds_toArray, List.set_cons_zero, List.set_cons_succ]
    refine wpAnyF_take (i := 21) (v := ?_) (by (simp only [List.getElem?_toArray, List.getElem?_cons_succ, List.getElem?_cons_zero]; rfl)) (by kernel_rfl) (by kernel_rfl) (by kernel_rfl) (by decide) (by exact fun _ _ _ h => h) ⟨A5, .inl (by kernel_rfl)⟩ (Or.inl ⟨by rfl, ?_⟩) ?_
    rotate_left
    ·(intro w' _; go_simp <;> with_reducible rfl)
    try simp only [Act.put, List.setIfInBounds_toArray, List.set_cons_zero, List.set_cons_succ]
    refine wpAnyF_ready (rs := [22]) (by kernel_rfl) (by simp) ?_
    refine AllReadyF.last (by (simp only [List.getElem?_toArray, List.getElem?_cons_succ, List.getElem?_cons_zero]; rfl)) (by kernel_rfl) (fun K hK => ?_) AllReadyF.nil
    go_simp
    refine hK.out _ _ A6 ?_
    clear hK K
    try simp only [Act.put, List.setIfInBounds_toArray, List.set_cons_zero, List.set_cons_succ]
    refine wpAnyF_done (by kernel_rfl) ?_ _
    go_wp2
    go_roundw
    case rel => exact ⟨k + 1, _, _, by omega, by go_num, H5.out, HT⟩
    case measure => simp [intOf]; omega
   ·obtain rfl : k = ss.length := by omega
    rw [List.take_length] at HX
    go_wp2
    go_ret
    have e := HX.out
    subst e
    rw [HBASE.out] at hs
    exact ⟨gv, us, rfl, hs⟩
end Go.Proofs.Ytnnfkmjhaljplaa
namespace Go.Proofs.Ytnnfkmjhaljplaa
open Go.RowKit
theorem lwBig_no (l : List Int) (A : Option Addr) (c : Nat) (w : World) (hl : l.length ≤ 1048576) :
  Calls Try.prog 6 #[.slice A l.length c] w fun e w' => e = .returned (.bool false) ∧ w = w' := by
 go_enter Try.func6, Try.ntmps6
 go_wp2
 go_ret
 exact ⟨ret_bool (by simp; omega), rfl⟩
theorem lwBig_yes (l : List Int) (A : Option Addr) (c : Nat) (w : World) (hl : ¬ l.length ≤ 1048576) (hm : l.length ≤ maxLen) :
  Calls Try.prog 6 #[.slice A l.length c] w fun e w' => e = .returned (.bool true) ∧ w = w' := by
 unfold maxLen at hm
 go_enter Try.func6, Try.ntmps6
 go_wp2
 go_ret
 exact ⟨ret_bool (by simp; omega), rfl⟩
end Go.Proofs.Ytnnfkmjhaljplaa
namespace Go.Proofs.Ytnnfkmjhaljplaa
open Go.RowKit
theorem bentK : BentOk := fun g k A c l w hS hk => l2Bent_any g k A c l w hS hk
end Go.Proofs.Ytnnfkmjhaljplaa
