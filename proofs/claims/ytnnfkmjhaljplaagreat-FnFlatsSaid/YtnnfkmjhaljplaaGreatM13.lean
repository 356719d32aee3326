/- What the laws' walks rest upon, part 13. -/
import Derived.Test.YtnnfkmjhaljplaaGreatM10
import Derived.Test.YtnnfkmjhaljplaaGreatM12
import Derived.Test.YtnnfkmjhaljplaaGreatM04
namespace Go.Proofs.YtnnfkmjhaljplaaGreat
open Go.RowKit
theorem ord_at {t : List (List Ev)} {O : List Int} (hok : okO t O) {k : Nat} (hk : k < O.length) : ∃ j : Nat, ∃ hj : j < t.length, O[k] = (j : Int) ∧ cntO (O.take k) (j : Int) < t[j].length := by
  have h1 := hok O[k]
  have h2 := cntO_mem (List.getElem_mem hk)
  have h3 := lenT_in (t := t) (p := O[k]) (by omega)
  obtain ⟨j, hj⟩ := Int.eq_ofNat_of_zero_le h3.1
  have hjt : j < t.length := by omega
  refine ⟨j, hjt, hj, ?_⟩
  rw [hj, lenT_at t j hjt] at h1
  have e2 : cntO O (j : Int) = cntO (O.take k) (j : Int) + cntO (O.drop k) (j : Int) := by rw [← cntO_append, List.take_append_drop]
  have e3 : 0 < cntO (O.drop k) (j : Int) := by
    rw [List.drop_eq_getElem_cons hk, cntO, if_pos hj]
    omega
  omega
/-- How far each core is. -/
def atR (n : Nat) (O : List Int) : List Value := (List.range n).map fun j : Nat => Value.int .i64 ((cntO O (j : Int) : Nat) : Int)
theorem atR_get (n : Nat) (O : List Int) (i : Nat) (h : i < n) : (atR n O)[i]? = some (.int .i64 ((cntO O (i : Int) : Nat) : Int)) := by simp [atR, h]
theorem atR_nil (n : Nat) : atR n [] = List.replicate n (Value.int .i64 0) := by
  apply List.ext_getElem
  · simp [atR]
  · intro i h1 h2
    simp [atR, cntO]
theorem atR_set (n : Nat) (O : List Int) (i : Nat) : (atR n O).set i (.int .i64 (((cntO O (i : Int) : Nat) : Int) + 1)) = atR n (O ++ [(i : Int)]) := by
  apply List.ext_getElem
  · simp [atR]
  · intro j h1 h2
    by_cases hij : i = j
    · subst hij
      rw [List.getElem_set_self]
      simp only [atR, List.getElem_map, List.getElem_range, Value.int.injEq, true_and]
      rw [cntO_snoc, if_pos rfl]
      omega
    · rw [List.getElem_set_ne hij]
      simp only [atR, List.getElem_map, List.getElem_range, Value.int.injEq, true_and]
      rw [cntO_snoc, if_neg (by omega), Nat.add_zero]
/-- Where the model's merging stands. -/
structure MsS (w3 : World) (gat q N : Nat) (t : List (List Ev)) (O1 O2 : List Int) (v : Value) (w : World) : Prop where
  box : Bk w q #[.int .i64 0, v] 75
  row : w.ownsRow (q + 1) 66 4 v O1.length (stps (logO t O1))
  at_ : w.ownsRow gat 2 1 (.slice (some ⟨gat, 0, none⟩) N N) N (atR N O2)
  old : Below gat w3 w
  gq : gat < q
  top : q + 1 ≤ w.heap.size
section
variable {w3 w w' w5 : World} {gat q N : Nat} {t : List (List Ev)} {O O1 O2 : List Int} {v v5 : Value} {p : Int}
theorem MsS.alloc (h : MsS w3 gat q N t O1 O2 v w) (ob : Obj) : MsS w3 gat q N t O1 O2 v (w.alloc ob) := ⟨h.box.alloc ob, h.row.alloc ob, h.at_.alloc ob, h.old.alloc (by have := h.top; have := h.gq; omega) ob, h.gq, by have := h.top; simp; omega⟩
theorem MsS.drew (h : MsS w3 gat q N t O1 O2 v w) : MsS w3 gat q N t O1 O2 v w.drew := ⟨h.box, own_below h.row (Below.refl _ _).drew (Nat.le_refl _), own_below h.at_ (Below.refl _ _).drew (Nat.le_refl _), h.old.trans ((Below.refl _ _).drew), h.gq, h.top⟩
theorem MsS.acell (h : MsS w3 gat q N t O1 O2 v w) (i : Nat) (hi : i < N) : w.cell? ⟨gat, i, none⟩ = some (.int .i64 ((cntO O2 (i : Int) : Nat) : Int)) := by
  rw [h.at_.cellAt i (by omega)]
  exact atR_get N O2 i hi
/-- Behind the append: what lies; behind the store: where it stands. -/
theorem MsS.step (h : MsS w3 gat q N t O O2 v w) (i : Nat) (hi : i < N) (ho : w5.ownsRow (q + 1) 66 4 v5 (O.length + 1) (stps (logO t O) ++ stps [⟨p, evAtO t p (cntO O p)⟩])) (hg : w.grownBy w5 v.ownBlock) :
    (Below gat w3 w5 ∧ w5.cell? ⟨gat, i, none⟩ = w.cell? ⟨gat, i, none⟩ ∧ w5.cell? ⟨q, 1, none⟩ = some v ∧ w5.frozen? ⟨q, 1, none⟩ = false) ∧ MsS w3 gat q N t (O ++ [p]) O2 v5 (w5.setCell ⟨q, 1, none⟩ v5) := by
  have hgq := h.gq
  have htop := h.top
  have hbx := h.box.grown hg (own_apart h.row q (.inl (Nat.lt_succ_self q)))
  have hat := h.at_.kept hg (own_sep fun b hb e => by simp only [Value.ownBlock, Option.some.injEq] at hb; have := h.row.lt b e; omega)
  have b5 : Below gat w3 w5 := h.old.trans (grown_below h.row hg (by omega) (by omega))
  refine ⟨⟨b5, by rw [hat.cellAt i (by omega), h.at_.cellAt i (by omega)], (hbx.cell 1).trans rfl, hbx.frozen 1⟩, ?_, ?_, ?_, b5.setCell (by simp only; omega) _, hgq, ?_⟩
  · have := hbx.set_ 1 v5
    exact this
  · rw [logO_snoc, stps_append, List.length_append, List.length_singleton]
    exact ownsRow_setCell_below ho (a := ⟨q, 1, none⟩) (Nat.lt_succ_self q) v5
  · exact hat.kept (grown_set w5 q 1 v5) (own_sep fun b hb e => by simp only [Value.ownBlock, Option.some.injEq] at hb e; omega)
  · have := hg.size
    simp
    omega
/-- Behind the core's own step. -/
theorem MsS.next (h : MsS w3 gat q N t O1 O v w) (i : Nat) : MsS w3 gat q N t O1 (O ++ [(i : Int)]) v (w.setCell ⟨gat, i, none⟩ (.int .i64 (((cntO O (i : Int) : Nat) : Int) + 1))) := by
  have hgq := h.gq
  have h1 := (h.at_.stored i (.int .i64 (((cntO O (i : Int) : Nat) : Int) + 1))).1
  rw [atR_set] at h1
  exact ⟨h.box.far (p := ⟨gat, i, none⟩) (by simp only; omega) _, ownsRow_setCell_below h.row (a := ⟨gat, i, none⟩) (by simp only; omega) _, h1, h.old.setCell (Nat.le_refl _) _, hgq, by simpa using h.top⟩
end
set_option maxRecDepth 100000 in
set_option maxHeartbeats 1600000 in
theorem specMg_ok (t : List (List Ev)) (picks : List Int) (A Ap : Option Addr) (c cp : Nat) (w : World) (h0 : trF t = 0) (ht1 : 1 ≤ t.length) (ht4 : t.length ≤ 4) (hall : ∀ l ∈ t, l.length ≤ 8) (hpk : picks.length ≤ 100) (h : RdT w w.heap.size A t) (hp : Rd .i64 w w.heap.size Ap picks) :
    Calls Tryz.prog 44 #[.slice A t.length c, .slice Ap picks.length cp] w fun e w' => ∃ A c, e = .returned (.agg #[.int .i64 0, .slice A (logO t (ordF t picks)).length c]) ∧ w'.ownsRow w.heap.size 66 4 (.slice A (logO t (ordF t picks)).length c) (logO t (ordF t picks)).length (stps (logO t (ordF t picks))) ∧ Below w.heap.size w w' := by
  obtain ⟨W, hW⟩ : ∃ W, W = w.alloc (Obj.cells #[Value.int .i64 0, .slice none 0 0] 75) := ⟨_, rfl⟩
  have HW := hide hW
  have hR : RdT W W.heap.size A t := by subst hW; exact (h.alloc (Nat.le_refl _) _).lt
  have hP : Rd .i64 W W.heap.size Ap picks := by subst hW; exact (hp.alloc (Nat.le_refl _) _).lt
  clear hW h hp
  have TF := hide (specTrF_any t A c W (by unfold maxLen; omega) hR)
  rw [h0] at TF
  obtain ⟨i1, hi1, hy0, hy1, hy2⟩ := info_parts info_i64
  obtain ⟨i0, hi0, hz0, hz1, hz2⟩ := info_parts info_step
  have HOK := hide (ordF_ok t picks)
  have hOl := ordF_len (picks := picks) hall
  have SO := hide (fun W A c hl hp => l6Order_any t picks A Ap c cp W ht1 ht4 hall (by omega) hl hp)
  have SL := hide (fun W h => l6Len_any t A c W (by omega) h)
  obtain ⟨O, hO⟩ : ∃ O, O = ordF t picks := ⟨_, rfl⟩
  rw [← hO] at HOK hOl SO
  have HO := hide hO
  have hO32 : O.length ≤ 132 := by omega
  clear hO hOl h0
  go_enter Tryz.func44, Tryz.ntmps44
  go_wp2_with fail
  rw [← HW.out]
  refine TF.out.mono ?_
  rintro e w1 ⟨rfl, b1⟩
  have hR1 := (hR.below b1).lt
  have z1 := b1.size
  go_wp2_with fail
  refine (SL.out w1 hR1).mono ?_
  rintro e w2 ⟨v1, rfl, o1⟩
  have hrow1 := o1.row
  have hb12 := o1.old
  obtain ⟨A1, c1, rfl⟩ := o1.shape
  have rd1 := Rd.of_own hrow1
  have z2 := hb12.size
  have hP2 := (hP.below (b1.trans (hb12.mono z1))).lt
  clear o1 hrow1
  go_wp2_with fail
  have SO2 := SO.out w2 A1 c1 rd1 hP2
  rw [lensI_length]
  refine SO2.mono ?_
  rintro e w3 ⟨v2, rfl, o2⟩
  have hb23 := o2.old
  have z3 := hb23.size
  obtain ⟨A2, c2, rfl⟩ := o2.shape
  have rd2 := Rd.of_own o2.row
  have b3 : Below W.heap.size W w3 := b1.trans ((hb12.mono z1).trans (hb23.mono (by omega)))
  have hR3 := (hR.below b3)
  clear o2 SO2 SO SL rd1 hP2 hR1
  have MD : (madeCells (Value.int .i64 0).cells (t.length * 1)).toList = atR t.length [] := by rw [atR_nil, made_i64]
  go_wp2_with (at_make; refine wpList_make_full _ rfl _ _ 29 rfl w3.heap.size 2 i1 (.int .i64 0) 1 Tryz.underlying29 hi1 hy0 hy1 .i64 .i64 _ _ t.length rfl rfl rfl rfl (by rw [hy2]; omega) (by unfold maxLen; omega) (Nat.le_refl _) ?_; intro w4 hown hg; have z4 := hg.size; have hlt4 := (hown.lt w3.heap.size rfl).2)
  rw [MD] at hown
  obtain ⟨gat, hgat⟩ : ∃ g, g = w3.heap.size := ⟨_, rfl⟩
  obtain ⟨q, hq⟩ : ∃ g, g = w4.heap.size := ⟨_, rfl⟩
  have s0 : MsS w3 gat q t.length t [] [] (.slice none 0 0) (w4.alloc (Obj.cells #[.int .i64 0, .slice none 0 0] 75)) := by
    rw [hgat, hq]
    exact ⟨Bk.new _ _ _, World.ownsRow_nil _ _ _ _, hown.alloc _, ((Below.refl _ _).grown hg (Nat.le_refl _) (fun k e => by cases e)).alloc z4 _, hlt4, by simp⟩
  have hgW : W.heap.size ≤ gat := by omega
  rw [← hgat] at rd2
  have HGAT := hide hgat
  have HQ := hide hq
  clear hown hg MD hgat hq
  go_wp2_with fail
  rw [← HQ.out, ← HGAT.out]
  go_loopw [31] (fun i wr => ∃ (k : Nat) (v : Value), k ≤ O.length ∧ i = .int .i64 k ∧ MsS w3 gat q t.length t (O.take k) (O.take k) v wr) (fun i _ => O.length - (intOf i).toNat)
  case atStart => exact ⟨0, _, Nat.zero_le _, rfl, s0⟩
  case round =>
    obtain ⟨k, v, hk, rfl, hs⟩ := hrel
    clear s0
    by_cases hlt : k < O.length
    · obtain ⟨b2, off2, rfl, hbb2, hx⟩ := (rd2.below hs.old).get hlt
      obtain ⟨p, hpt, hp, hcp⟩ := ord_at HOK.out hlt
      have HT := hide (show O.take k ++ [(p : Int)] = O.take (k + 1) by rw [List.take_succ_eq_append_getElem hlt, hp])
      rw [hp] at hx
      have hkl : (O.take k).length ≤ 132 := by rw [List.length_take]; omega
      obtain ⟨P, hP'⟩ : ∃ P, P = O.take k := ⟨_, rfl⟩
      rw [← hP'] at hs HT hkl hcp
      obtain ⟨j, hj⟩ : ∃ j, j = cntO P (p : Int) := ⟨_, rfl⟩
      rw [← hj] at hcp
      have h8 := hall _ (List.getElem_mem hpt)
      obtain ⟨bk, off, a, d, hA, hbb, hcc, hle, hdm, hre⟩ := (hR3.get hpt)
      obtain ⟨eb, eo, ha, hebb, _, _, _⟩ := hre.get hcp
      have HX : Hid (evAtO t (p : Int) (cntO P (p : Int)) = t[p][j]) := hide (by rw [← hj]; exact evAtO_get t p j hpt hcp)
      obtain ⟨x, hxx⟩ : ∃ x, x = t[p][j] := ⟨_, rfl⟩
      have AC : ∀ w', Below gat w3 w' → w'.cell? ⟨gat, p, none⟩ = some (Value.int .i64 (j : Int)) → w'.cell? ⟨bk, off + p, none⟩ = some (Value.slice a t[p].length d) ∧ w'.cell? ⟨gat, p, none⟩ = some (Value.int .i64 (j : Int)) ∧ w'.cell? ⟨eb, eo + j * 3, none⟩ = some (Value.int .i64 x.k) ∧ w'.cell? ⟨eb, eo + j * 3 + 1, none⟩ = some (Value.int .i64 x.a) ∧ w'.cell? ⟨eb, eo + j * 3 + 2, none⟩ = some (Value.int .i64 x.v) := fun w' hb hg => by
        have hb' := hb.mono hgW
        obtain ⟨bk', off', a', d', hA', _, hcc', _, _, hre'⟩ := (hR3.below hb').get hpt
        rw [hA] at hA'
        simp only [Option.some.injEq, Addr.mk.injEq] at hA'
        obtain ⟨rfl, rfl, _⟩ := hA'
        have e1 := (hb'.cell (p := ⟨bk, off + p, none⟩) hbb).trans hcc
        obtain ⟨eb', eo', ha', _, g0, g1, g2⟩ := (hre.below hb').get hcp
        rw [ha] at ha'
        simp only [Option.some.injEq, Addr.mk.injEq] at ha'
        obtain ⟨rfl, rfl, _⟩ := ha'
        rw [hxx]
        exact ⟨e1, hg, g0, g1, g2⟩
      rw [← hxx] at HX
      have HAC := hide AC
      obtain ⟨n, hn⟩ : ∃ n, n = t[p].length := ⟨_, rfl⟩
      rw [← hn] at hcp h8 hle HAC
      have hst := hide (show hs.1 = hs.1 from rfl)
      obtain ⟨D, dd, rfl⟩ := own_shape hs.row
      have HJ := hide hj
      have hacell := fun w' (h : MsS w3 gat q t.length t P P (.slice D P.length dd) w') => by
        have := h.acell p hpt
        rw [← hj] at this
        exact this
      have HAJ := hide hacell
      have HP := hide hP'
      have hA1 : decide (n ≤ j) = false := decide_eq_false (by omega)
      have hA2 : ¬ n ≤ j := by omega
      have hA3 : ¬ t.length ≤ p := by omega
      have hA4 : (p : Int) < (t.length : Int) := by omega
      have hA5 : (j : Int) < (n : Int) := by omega
      subst hA ha
      clear hn hxx hj AC hre hcc hebb hbb hst hacell hP' hp
      go_wp2_with fail
      have hsd := hs.drew
      have a0 := HAC.out _ hsd.old (HAJ.out _ hsd)
      have s0 : wr.drew.cell? ⟨q, 1, none⟩ = some (.slice D P.length dd) := (hsd.box.cell 1).trans rfl
      have hs1 := hsd.alloc (Obj.cells #[.int .i64 (p : Int), .int .i64 x.k, .int .i64 x.a, .int .i64 x.v] 66)
      have a1 := HAC.out _ hs1.old (HAJ.out _ hs1)
      have s1 : (wr.drew.alloc (Obj.cells #[.int .i64 (p : Int), .int .i64 x.k, .int .i64 x.a, .int .i64 x.v] 66)).cell? ⟨q, 1, none⟩ = some (.slice D P.length dd) := (hs1.box.cell 1).trans rfl
      have hBl := RdP.one_new wr.drew ⟨(p : Int), x⟩ 66
      have ho1 := hs1.row
      have hz1' := hs1.top
      clear hs hsd
      refine wp_region_F 15 (fun w' => w'.cell? ⟨bk, off + p, none⟩ = some (Value.slice (some ⟨eb, eo, none⟩) n d) ∧ w'.cell? ⟨gat, p, none⟩ = some (Value.int .i64 (j : Int)) ∧ w'.cell? ⟨eb, eo + j * 3, none⟩ = some (Value.int .i64 x.k) ∧ w'.cell? ⟨eb, eo + j * 3 + 1, none⟩ = some (Value.int .i64 x.a) ∧ w'.cell? ⟨eb, eo + j * 3 + 2, none⟩ = some (Value.int .i64 x.v)) (fun w' => w'.cell? ⟨q, 1, none⟩ = some (Value.slice D P.length dd)) (by kernel_rfl) ⟨a0, s0⟩ (fun hHeld => ?_)
      try simp only [Act.put, List.setIfInBounds_toArray, List.set_cons_zero, List.set_cons_succ]
      refine wpAnyF_take (i := 0) (v := ?_) (by (simp only [List.getElem?_toArray, List.getElem?_cons_zero]; rfl)) (by kernel_rfl) (by kernel_rfl) (by kernel_rfl) (by decide) (by exact fun _ _ _ h => h) ⟨hHeld.1, .inr hHeld.2⟩ (Or.inl ⟨by rfl, ?_⟩) ?_
      rotate_left
      · (intro w' _; go_simp <;> with_reducible rfl)
      try simp only [Act.put, List.setIfInBounds_toArray, List.set_cons_zero, List.set_cons_succ]
      refine wpAnyF_load (i := 1) (v := ?_) (by (simp only [List.getElem?_toArray, List.getElem?_cons_succ, List.getElem?_cons_zero]; rfl)) (by kernel_rfl) (by kernel_rfl) (by kernel_rfl) (by decide) (by exact fun _ _ _ h => h) hHeld (by kernel_rfl) (by kernel_rfl) (Or.inl ⟨by rfl, ?_⟩) ?_
      rotate_left
      · (intro w' hSw; (try dsimp only at hSw); obtain hSb0 := hSw; go_simp <;> with_reducible rfl)
      try simp only [Act.put, List.setIfInBounds_toArray, List.set_cons_zero, List.set_cons_succ]
      refine wpAnyF_take (i := 2) (v := ?_) (by (simp only [List.getElem?_toArray, List.getElem?_cons_succ, List.getElem?_cons_zero]; rfl)) (by kernel_rfl) (by kernel_rfl) (by kernel_rfl) (by decide) (by exact fun _ _ _ h => h) ⟨hHeld.1, .inr hHeld.2⟩ (Or.inl ⟨by rfl, ?_⟩) ?_
      rotate_left
      · (intro w' _; go_simp <;> with_reducible rfl)
      try simp only [Act.put, List.setIfInBounds_toArray, List.set_cons_zero, List.set_cons_succ]
      refine wpAnyF_take (i := 3) (v := ?_) (by (simp only [List.getElem?_toArray, List.getElem?_cons_succ, List.getElem?_cons_zero]; rfl)) (by kernel_rfl) (by kernel_rfl) (by kernel_rfl) (by decide) (by exact fun _ _ _ h => h) ⟨hHeld.1, .inr hHeld.2⟩ (Or.inl ⟨by rfl, ?_⟩) ?_
      rotate_left
      · (intro w' _; go_simp <;> with_reducible rfl)
      try simp only [Act.put, List.setIfInBounds_toArray, List.set_cons_zero, List.set_cons_succ]
      refine wpAnyF_take (i := 4) (v := ?_) (by (simp only [List.getElem?_toArray, List.getElem?_cons_succ, List.getElem?_cons_zero]; rfl)) (by kernel_rfl) (by kernel_rfl) (by kernel_rfl) (by decide) (by exact fun _ _ _ h => h) ⟨hHeld.1, .inr hHeld.2⟩ (Or.inl ⟨by rfl, ?_⟩) ?_
      rotate_left
      · (intro w' _; go_simp <;> with_reducible rfl)
      try simp only [Act.put, List.setIfInBounds_toArray, List.set_cons_zero, List.set_cons_succ]
      refine wpAnyF_take (i := 5) (v := ?_) (by (simp only [List.getElem?_toArray, List.getElem?_cons_succ, List.getElem?_cons_zero]; rfl)) (by kernel_rfl) (by kernel_rfl) (by kernel_rfl) (by decide) (by exact fun _ _ _ h => h) ⟨hHeld.1, .inr hHeld.2⟩ (Or.inl ⟨by rfl, ?_⟩) ?_
      rotate_left
      · (intro w' _; go_simp <;> with_reducible rfl)
      try simp only [Act.put, List.setIfInBounds_toArray, List.set_cons_zero, List.set_cons_succ]
      refine wpAnyF_keep (i := 6) (v := ?_) (by (simp only [List.getElem?_toArray, List.getElem?_cons_succ, List.getElem?_cons_zero]; rfl)) (by kernel_rfl) (by kernel_rfl) (by kernel_rfl) (by decide) (by exact fun _ _ _ h => h) ⟨hHeld.1, .inr hHeld.2⟩ (Or.inl ⟨by rfl, ?_⟩) ?_
      rotate_left
      · (intro w' hSw; (try dsimp only at hSw); obtain ⟨hSa0, hSa1, hSa2, hSa3, hSa4⟩ := hSw; go_simp <;> with_reducible rfl)
      try simp only [Act.put, List.setIfInBounds_toArray, List.set_cons_zero, List.set_cons_succ]
      refine wpAnyF_take (i := 7) (v := ?_) (by (simp only [List.getElem?_toArray, List.getElem?_cons_succ, List.getElem?_cons_zero]; rfl)) (by kernel_rfl) (by kernel_rfl) (by kernel_rfl) (by decide) (by exact fun _ _ _ h => h) ⟨hHeld.1, .inr hHeld.2⟩ (Or.inl ⟨by rfl, ?_⟩) ?_
      rotate_left
      · (intro w' _; go_simp <;> with_reducible rfl)
      try simp only [Act.put, List.setIfInBounds_toArray, List.set_cons_zero, List.set_cons_succ]
      refine wpAnyF_take (i := 8) (v := ?_) (by (simp only [List.getElem?_toArray, List.getElem?_cons_succ, List.getElem?_cons_zero]; rfl)) (by kernel_rfl) (by kernel_rfl) (by kernel_rfl) (by decide) (by exact fun _ _ _ h => h) ⟨hHeld.1, .inr hHeld.2⟩ (Or.inl ⟨by rfl, ?_⟩) ?_
      rotate_left
      · (intro w' _; go_simp <;> with_reducible rfl)
      try simp only [Act.put, List.setIfInBounds_toArray, List.set_cons_zero, List.set_cons_succ]
      refine wpAnyF_take (i := 9) (v := ?_) (by (simp only [List.getElem?_toArray, List.getElem?_cons_succ, List.getElem?_cons_zero]; rfl)) (by kernel_rfl) (by kernel_rfl) (by kernel_rfl) (by decide) (by exact fun _ _ _ h => h) ⟨hHeld.1, .inr hHeld.2⟩ (Or.inl ⟨by rfl, ?_⟩) ?_
      rotate_left
      · (intro w' _; go_simp <;> with_reducible rfl)
      try simp only [Act.put, List.setIfInBounds_toArray, List.set_cons_zero, List.set_cons_succ]
      refine wpAnyF_keep (i := 10) (v := ?_) (by (simp only [List.getElem?_toArray, List.getElem?_cons_succ, List.getElem?_cons_zero]; rfl)) (by kernel_rfl) (by kernel_rfl) (by kernel_rfl) (by decide) (by exact fun _ _ _ h => h) ⟨hHeld.1, .inr hHeld.2⟩ (Or.inl ⟨by rfl, ?_⟩) ?_
      rotate_left
      · (intro w' hSw; (try dsimp only at hSw); obtain ⟨hSa0, hSa1, hSa2, hSa3, hSa4⟩ := hSw; go_simp <;> with_reducible rfl)
      try simp only [Act.put, List.setIfInBounds_toArray, List.set_cons_zero, List.set_cons_succ]
      refine wpAnyF_take (i := 11) (v := ?_) (by (simp only [List.getElem?_toArray, List.getElem?_cons_succ, List.getElem?_cons_zero]; rfl)) (by kernel_rfl) (by kernel_rfl) (by kernel_rfl) (by decide) (by exact fun _ _ _ h => h) ⟨hHeld.1, .inr hHeld.2⟩ (Or.inl ⟨by rfl, ?_⟩) ?_
      rotate_left
      · (intro w' _; go_simp <;> with_reducible rfl)
      try simp only [Act.put, List.setIfInBounds_toArray, List.set_cons_zero, List.set_cons_succ]
      refine wpAnyF_keep (i := 12) (v := ?_) (by (simp only [List.getElem?_toArray, List.getElem?_cons_succ, List.getElem?_cons_zero]; rfl)) (by kernel_rfl) (by kernel_rfl) (by kernel_rfl) (by decide) (by exact fun _ _ _ h => h) ⟨hHeld.1, .inr hHeld.2⟩ (Or.inl ⟨by rfl, ?_⟩) ?_
      rotate_left
      · (intro w' hSw; (try dsimp only at hSw); obtain ⟨hSa0, hSa1, hSa2, hSa3, hSa4⟩ := hSw; go_simp <;> with_reducible rfl)
      try simp only [Act.put, List.setIfInBounds_toArray, List.set_cons_zero, List.set_cons_succ]
      refine wpAnyF_take (i := 13) (v := ?_) (by (simp only [List.getElem?_toArray, List.getElem?_cons_succ, List.getElem?_cons_zero]; rfl)) (by kernel_rfl) (by kernel_rfl) (by kernel_rfl) (by decide) (by exact fun _ _ _ h => h) ⟨hHeld.1, .inr hHeld.2⟩ (Or.inl ⟨by rfl, ?_⟩) ?_
      rotate_left
      · (intro w' _; go_simp <;> with_reducible rfl)
      try simp only [Act.put, List.setIfInBounds_toArray, List.set_cons_zero, List.set_cons_succ]
      refine wpAnyF_ready (rs := [14]) (by kernel_rfl) (by simp) ?_
      refine AllReadyF.cons (by (simp only [List.getElem?_toArray, List.getElem?_cons_succ, List.getElem?_cons_zero]; rfl)) (fun K hK => ?_) AllReadyF.nil
      go_simp
      refine hK.out _ _ ⟨a1, s1⟩ (fun hNew => ?_)
      clear hK K hHeld
      have hHeld := hNew
      clear hNew
      try simp only [Act.put, List.setIfInBounds_toArray, List.set_cons_zero, List.set_cons_succ]
      refine wpAnyF_ready (rs := [15]) (by kernel_rfl) (by simp) ?_
      refine AllReadyF.last (by (simp only [List.getElem?_toArray, List.getElem?_cons_succ, List.getElem?_cons_zero]; rfl)) (by kernel_rfl) (fun K hK => ?_) AllReadyF.nil
      refine step_append_rp _ (by rfl) (.tmp 36) (.tmp 49) 24 (by rfl) (q + 1) 66 i0 (.agg #[.int .i64 0, .int .i64 0, .int .i64 0, .int .i64 0]) 32 Tryz.underlying24 hi0 hz0 hz1 hz2 rfl (.slice D P.length dd) P.length _ (by rfl) ho1 (some ⟨wr.drew.heap.size, 0, none⟩) [⟨(p : Int), x⟩] 1 (wr.drew.heap.size + 1) (by rfl) hBl (by unfold maxLen; simp only [List.length_cons, List.length_nil]; omega) (by simp only [List.length_cons, List.length_nil]; omega) hz1' ?_
      intro v5 w5 o5 g5 hat5
      obtain ⟨D5, d5, hv5⟩ := own_shape o5
      subst hv5
      obtain ⟨⟨b5, e5, c5, f5⟩, s5⟩ := hs1.step (p := (p : Int)) p hpt (by rw [HX.out]; exact o5) g5
      have a5 := HAC.out _ b5 (e5.trans (HAJ.out _ hs1))
      have a6 := HAC.out _ s5.old (by have := s5.acell p hpt; rw [← HJ.out] at this; exact this)
      have S5 := hide s5
      clear o5 g5 hat5 ho1 hBl hs1 s5 b5 e5
      refine hK.out _ _ a5 ?_
      clear hK K
      try simp only [Act.put, List.setIfInBounds_toArray, List.set_cons_zero, List.set_cons_succ]
      refine wpAnyF_take (i := 16) (v := ?_) (by (simp only [List.getElem?_toArray, List.getElem?_cons_succ, List.getElem?_cons_zero]; rfl)) (by kernel_rfl) (by kernel_rfl) (by kernel_rfl) (by decide) (by exact fun _ _ _ h => h) ⟨a5, .inl (by kernel_rfl)⟩ (Or.inl ⟨by rfl, ?_⟩) ?_
      rotate_left
      · (intro w' _; go_simp <;> with_reducible rfl)
      try simp only [Act.put, List.setIfInBounds_toArray, List.set_cons_zero, List.set_cons_succ]
      refine wpAnyF_ready (rs := [17]) (by kernel_rfl) (by simp) ?_
      refine AllReadyF.last (by (simp only [List.getElem?_toArray, List.getElem?_cons_succ, List.getElem?_cons_zero]; rfl)) (by kernel_rfl) (fun K hK => ?_) AllReadyF.nil
      go_simp
      refine hK.out _ _ a6 ?_
      clear hK K
      try simp only [Act.put, List.setIfInBounds_toArray, List.set_cons_zero, List.set_cons_succ]
      refine wpAnyF_done (by kernel_rfl) ?_ _
      generalize w5.setCell ⟨q, 1, none⟩ (.slice D5 (P.length + 1) d5) = Y at S5 ⊢
      have hc7 := S5.out.acell p hpt
      rw [← HJ.out] at hc7
      have hf7 := S5.out.at_.frozenAt p
      have hj8 : j ≤ 8 := by omega
      go_wp2
      have s7 := S5.out.next p
      rw [← HJ.out, HT.out] at s7
      go_roundw
      case rel => exact ⟨k + 1, _, by omega, by go_num, s7⟩
      case measure => simp [intOf]; omega
    · obtain rfl : k = O.length := by omega
      rw [List.take_length] at hs
      obtain ⟨D, d, rfl⟩ := own_shape hs.row
      have hrow := hs.row
      rw [← logO_length t] at hrow
      have hbx : Bk wr q #[.int .i64 0, .slice D (logO t O).length d] 75 := by rw [logO_length]; exact hs.box
      have hbw : Below W.heap.size W wr := b3.trans (hs.old.mono hgW)
      have hgq := hs.gq
      have hzz := W_size HW.out
      obtain ⟨L, hL⟩ : ∃ L, L = logO t O := ⟨_, rfl⟩
      rw [← hL] at hrow hbx
      have HL := hide (show L = logO t (ordF t picks) by rw [hL, HO.out])
      have p0 := (hbx.cell 0).trans (rfl : _ = some (Value.int .i64 0))
      have p1 := (hbx.cell 1).trans (rfl : _ = some (Value.slice D L.length d))
      have q0 := W_cell HW.out hbw 0
      have q1 := W_cell HW.out hbw 1
      have f0 := W_frozen HW.out hbw 0
      have f1 := W_frozen HW.out hbw 1
      simp at q0 q1
      have O1 := hide (ownsRow_setCell_below (ownsRow_setCell_below hrow (a := ⟨w.heap.size, 0, none⟩) (by simp only; omega) (.int .i64 0)) (a := ⟨w.heap.size, 1, none⟩) (by simp only; omega) (.slice D L.length d))
      clear hs hrow hbx hL
      go_wp2
      refine bodyPost_ret (v := .agg #[.int .i64 0, .slice D L.length d]) (by simp [results, Tryz.results44, go_sem, q0, q1]) rfl ?_
      have e := HL.out
      subst e
      exact ⟨D, d, rfl, own_mono O1.out (by omega), ((W_below HW.out hbw).setCell (Nat.le_refl _) _).setCell (Nat.le_refl _) _⟩
set_option maxRecDepth 100000 in
set_option maxHeartbeats 800000 in
theorem specMg_any (t : List (List Ev)) (picks : List Int) (A Ap : Option Addr) (c cp : Nat) (w : World) (hm : t.length ≤ maxLen) (hpm : picks.length ≤ maxLen) (h : RdT w w.heap.size A t) (hp : Rd .i64 w w.heap.size Ap picks) :
    Calls Tryz.prog 44 #[.slice A t.length c, .slice Ap picks.length cp] w (MgPost t picks w) := by
  unfold MgPost
  unfold maxLen at hpm
  by_cases h0 : trF t = 0
  · by_cases hpk : picks.length ≤ 100
    · have e := mgC_ok h0 hpk
      rw [mgL_ok e, e]
      have h1 : 1 ≤ t.length ∧ t.length ≤ 4 := by
        by_cases h : 1 ≤ t.length ∧ t.length ≤ 4
        · exact h
        · unfold trF at h0; rw [if_neg h] at h0; omega
      have h2 : stsF t = 0 := by unfold trF at h0; rw [if_pos h1] at h0; exact h0
      have key : ∀ u : List (List Ev), stsF u = 0 → ∀ l ∈ u, l.length ≤ 8 := by
        intro u
        induction u with
        | nil => intro _ l hl; simp at hl
        | cons x r ih =>
          intro h l hl
          rw [stsF] at h
          by_cases hx : stF x = 0
          · rw [if_pos hx] at h
            rcases List.mem_cons.1 hl with rfl | hl
            · exact (stF_zero hx).1
            · exact ih h l hl
          · rw [if_neg hx] at h; exact absurd h hx
      exact specMg_ok t picks A Ap c cp w h0 h1.1 h1.2 (key t h2) hpk h hp
    · have e := mgC_many h0 hpk
      rw [mgL_bad (by rw [e]; decide), e]
      obtain ⟨W, hW⟩ : ∃ W, W = w.alloc (Obj.cells #[Value.int .i64 0, .slice none 0 0] 75) := ⟨_, rfl⟩
      have HW := hide hW
      have hR : RdT W W.heap.size A t := by subst hW; exact (h.alloc (Nat.le_refl _) _).lt
      clear hW h
      have TF := hide (specTrF_any t A c W hm hR)
      rw [h0] at TF
      have hpk' : 100 < picks.length := by omega
      clear hpk h0 e
      go_enter Tryz.func44, Tryz.ntmps44
      go_wp2_with fail
      rw [← HW.out]
      refine TF.out.mono ?_
      rintro e w1 ⟨rfl, hb⟩
      have q0 := W_cell HW.out hb 0
      have q1 := W_cell HW.out hb 1
      have f0 := W_frozen HW.out hb 0
      have f1 := W_frozen HW.out hb 1
      simp at q0 q1
      go_wp2
      refine bodyPost_ret (v := .agg #[.int .i64 2, .slice none 0 0]) (by simp [results, Tryz.results44, go_sem, q0, q1]) rfl ?_
      exact ⟨none, 0, rfl, World.ownsRow_nil _ _ _ _, ((W_below HW.out hb).setCell (Nat.le_refl _) _).setCell (Nat.le_refl _) _⟩
  · have e := mgC_bad (picks := picks) h0
    rw [mgL_bad (by rw [e]; exact h0), e]
    obtain ⟨W, hW⟩ : ∃ W, W = w.alloc (Obj.cells #[Value.int .i64 0, .slice none 0 0] 75) := ⟨_, rfl⟩
    have HW := hide hW
    have hR : RdT W W.heap.size A t := by subst hW; exact (h.alloc (Nat.le_refl _) _).lt
    clear hW h
    have TF := hide (specTrF_any t A c W hm hR)
    obtain ⟨F, hF⟩ : ∃ F, F = trF t := ⟨_, rfl⟩
    rw [← hF] at TF h0 ⊢
    have g0 : (F != 0) = true := bne_iff_ne.2 h0
    have g1 : (F == 0) = false := beq_eq_false_iff_ne.2 h0
    clear hF h0 e
    go_enter Tryz.func44, Tryz.ntmps44
    go_wp2_with fail
    rw [← HW.out]
    refine TF.out.mono ?_
    rintro e w1 ⟨rfl, hb⟩
    have q0 := W_cell HW.out hb 0
    have q1 := W_cell HW.out hb 1
    have f0 := W_frozen HW.out hb 0
    have f1 := W_frozen HW.out hb 1
    simp at q0 q1
    go_wp2
    refine bodyPost_ret (v := .agg #[.int .i64 F, .slice none 0 0]) (by simp [results, Tryz.results44, go_sem, q0, q1]) rfl ?_
    exact ⟨none, 0, rfl, World.ownsRow_nil _ _ _ _, ((W_below HW.out hb).setCell (Nat.le_refl _) _).setCell (Nat.le_refl _) _⟩
end Go.Proofs.YtnnfkmjhaljplaaGreat
