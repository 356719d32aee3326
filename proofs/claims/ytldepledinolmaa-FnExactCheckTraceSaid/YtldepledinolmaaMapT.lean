/- The contract of the program's takeNext. -/
import Derived.Test.YtldepledinolmaaMapL
namespace Go.Proofs.Ytldepledinolmaa
open Go.RowKit Go.Maps

theorem grownM_new {w w2 : World} {row : Option Nat} (h : w.grownBy w2 row) {g : Nat} (hg : w.heap.size ≤ g) (i : Nat) (u : Value) : w.grownBy (w2.setCell ⟨g, i, none⟩ u) row :=
  ⟨h.os, h.tape, h.output, by simpa using h.size, fun k hk hne => (Below.heap_setCell w2 ⟨g, i, none⟩ u k (by simp only; omega)).trans (h.block k hk hne)⟩
/-- What takeNext tells. -/
def TnPost (w : World) (B M n : Nat) (t : List (List Ev)) (O : List Int) (p : Int) (e : Ending) (w' : World) : Prop :=
  (cntO O p < lenT t p ∧ e = .returned (.tuple #[evV (evAtO t p (cntO O p)).k (evAtO t p (cntO O p)).a (evAtO t p (cntO O p)).v, .bool true]) ∧ LeftM w' B M (n + 1) t (O ++ [p]) ∧ w.grownBy w' (some M)) ∨
  (¬ cntO O p < lenT t p ∧ e = .returned (.tuple #[evV 0 0 0, .bool false]) ∧ LeftM w' B M n t O ∧ Below w.heap.size w w')

set_option maxRecDepth 100000 in
set_option maxHeartbeats 1600000 in
theorem take_no (w : World) (B M n : Nat) (t : List (List Ev)) (O : List Int) (p : Int) (hp : I64 p) (hB : B ≤ w.heap.size) (h : LeftM w B M n t O) (hlt : ¬ cntO O p < lenT t p) :
    Calls Try.prog 111 #[.map (some M), .int .i64 p] w (TnPost w B M n t O p) := by
  unfold TnPost
  have hkey : keyOf Try.prog 2 (.int .i64 p) = some (.int .i64 p) := keyOf_int_mk Try.underlying2 (WalkArith.wf_i64 hp)
  have HL := hide h
  obtain ⟨D, hown, hD⟩ := h
  have hhas : Maps.has D (.int .i64 p) = false := by rw [(hD p hp).1]; exact decide_eq_false hlt
  have hat := Maps.atKey_of_not_has hhas zH
  have hown1 := hown.alloc (Obj.cells #[.int .i64 0, .int .i64 0, .int .i64 0] 98)
  have HN := hide hlt
  clear hD hlt hown
  go_enter Try.func111, Try.ntmps111
  go_wp2_with (first | (at_lookup; refine wpList_lookup_held _ rfl _ _ 157 rfl 2 96 lawK Try.underlying157 (zeroEs _) M n D rfl hown1 _ _ rfl hkey (.slice none 0 0) hat false hhas ?_) | go_in)
  refine bodyPost_ret (v := .tuple #[evV 0 0 0, .bool false]) (by simp [results, Try.results111, go_sem]) rfl ?_
  exact .inr ⟨HN.out, rfl, HL.out.below ((Below.refl _ _).alloc (Nat.le_refl _) _) hB, (Below.refl _ _).alloc (Nat.le_refl _) _⟩

theorem evAtO_head {t : List (List Ev)} {p : Int} {c : Nat} (h : c < lenT t p) : ∃ (hl : 0 < ((t.getD p.toNat []).drop c).length), ((t.getD p.toNat []).drop c)[0] = evAtO t p c := by
  have h0 := lenT_in (t := t) (p := p) (by omega)
  unfold lenT at h
  rw [if_pos h0.1] at h
  refine ⟨by rw [List.length_drop]; omega, ?_⟩
  rw [List.getElem_drop]
  unfold evAtO
  rw [List.getD_eq_getElem?_getD (l := t.getD p.toNat []), List.getElem?_eq_getElem (by omega)]
  rfl

set_option maxRecDepth 100000 in
set_option maxHeartbeats 1600000 in
theorem take_yes (w : World) (B M n : Nat) (t : List (List Ev)) (O : List Int) (p : Int) (hp : I64 p) (hB : B ≤ w.heap.size) (hBM : B ≤ M) (hn : n ≤ 1000) (h : LeftM w B M n t O) (hlt : cntO O p < lenT t p) :
    Calls Try.prog 111 #[.map (some M), .int .i64 p] w (TnPost w B M n t O p) := by
  unfold TnPost
  have hkey : keyOf Try.prog 2 (.int .i64 p) = some (.int .i64 p) := keyOf_int_mk Try.underlying2 (WalkArith.wf_i64 hp)
  have hMw := h.lt
  obtain ⟨D, hown, hD⟩ := h
  have hhas : Maps.has D (.int .i64 p) = true := by rw [(hD p hp).1]; exact decide_eq_true hlt
  obtain ⟨a, d, hat, hmd, hdm, hr⟩ := (hD p hp).2 hlt
  have HM := hide (fun D' (e : D' = _) => take_math hown.isMap hlt hmd hdm hr e hD)
  obtain ⟨hl0, hev⟩ := evAtO_head hlt
  have HN := hide hlt
  obtain ⟨x, hx⟩ : ∃ x, x = evAtO t p (cntO O p) := ⟨_, rfl⟩
  rw [← hx] at hev
  have HR := hide (fun w' (hb : Below B w w') => by
    obtain ⟨b, off, e, hbb, c0, c1, c2⟩ := (hr.below hb).get (i := 0) hl0
    rw [hev] at c0 c1 c2
    rw [Nat.zero_mul, Nat.add_zero] at c0 c1 c2
    exact (⟨b, off, e, hbb, c0, c1, c2⟩ : ∃ b off, a = some ⟨b, off, none⟩ ∧ b < B ∧ w'.cell? ⟨b, off, none⟩ = some (.int .i64 x.k) ∧ w'.cell? ⟨b, off + 1, none⟩ = some (.int .i64 x.a) ∧ w'.cell? ⟨b, off + 2, none⟩ = some (.int .i64 x.v)))
  obtain ⟨b, off, ha, _⟩ := HR.out w (Below.refl _ _)
  have HX := hide hx
  obtain ⟨m, hm⟩ : ∃ m, m = lenT t p - cntO O p := ⟨_, rfl⟩
  have hm1 : 1 ≤ m := by omega
  have hm2 : m ≤ maxLen := by omega
  rw [← hm] at hat hmd HM
  unfold maxLen at hm2
  have hown1 := hown.alloc (Obj.cells #[.int .i64 0, .int .i64 0, .int .i64 0] 98)
  have gA : w.grownBy (w.alloc (Obj.cells #[.int .i64 0, .int .i64 0, .int .i64 0] 98)) (some M) := World.grownBy_alloc _ _ _
  have kG := Bk.new w #[.int .i64 0, .int .i64 0, .int .i64 0] 98
  have R1 := fun W => run_tailM a m 1 d 1 W rfl hm1
  have R1' := R1
  subst ha
  obtain ⟨a', ha'⟩ : ∃ a', a' = cutM (some ⟨b, off, none⟩) 1 d := ⟨_, rfl⟩
  rw [← ha'] at R1 HM
  have hGM : w.heap.size ≠ M := by omega
  have HD := hide hD
  clear hx hm hD hl0 hev hlt hr hown R1' ha'
  by_cases h1 : m = 1
  · subst h1
    have HM2 := hide (fun D' e => HM.out D' (by rw [if_pos rfl]; exact e))
    go_enter Try.func111, Try.ntmps111
    go_wp2_with (first
      | (at_lookup; refine wpList_lookup_held _ rfl _ _ 157 rfl 2 96 lawK Try.underlying157 (zeroEs _) M n D rfl hown1 _ _ rfl hkey _ hat true hhas ?_)
      | (at_mapUpdate; refine wpList_mapUpdate_own _ rfl _ _ _ 157 rfl 2 96 lawK Try.underlying157 rdH M n D rfl hown1 (by unfold maxLen; omega) _ _ _ rfl rfl hkey (.held (.slice a' (1 - 1) (d - 1))) [] rfl ?_; intro w1 hown2 hgrow1)
      | (at_delete; refine wpList_delete_own _ rfl _ _ 157 2 rfl 96 lawK Try.underlying157 rdH M (n + 1) _ rfl hown2 _ _ rfl hkey ?_; intro w2 hown3 hturn; have gT := (gA.trans hgrow1).trans hturn.grown; have bT : Below B w w2 := (Below.refl _ _).grown gT hB (fun k e => by cases e; exact hBM); obtain ⟨b', off', hbo, hbb, c0, c1, c2⟩ := HR.out w2 bT; obtain ⟨rfl, rfl⟩ : b' = b ∧ off' = off := (by simp only [Option.some.injEq, Addr.mk.injEq] at hbo; exact ⟨hbo.1.symm, hbo.2.1.symm⟩); have kG2 := (kG.grown hgrow1 (by simp; omega)).grown hturn.grown (by simp; omega); have q0 := kG2.cell 0; have q1 := kG2.cell 1; have q2 := kG2.cell 2; have f0 := kG2.frozen 0; have f1 := kG2.frozen 1; have f2 := kG2.frozen 2; simp at q0 q1 q2; clear hgrow1 hturn)
      | go_in)
    have kG3 := ((kG2.set_ 0 (.int .i64 x.k)).set_ 1 (.int .i64 x.a)).set_ 2 (.int .i64 x.v)
    have p0 := kG3.cell 0
    have p1 := kG3.cell 1
    have p2 := kG3.cell 2
    simp at p0 p1 p2
    refine bodyPost_ret (v := .tuple #[evV x.k x.a x.v, .bool true]) (by simp [results, Try.results111, go_sem, p0, p1, p2]) rfl ?_
    have gF := grownM_new (grownM_new (grownM_new gT (Nat.le_refl _) 0 (.int .i64 x.k)) (Nat.le_refl _) 1 (.int .i64 x.a)) (Nat.le_refl _) 2 (.int .i64 x.v)
    have bF := (Below.refl B w).grown gF hB (fun k e => by cases e; exact hBM)
    refine .inl ⟨HN.out, by rw [← HX.out], ⟨_, (((hown3.setCell (a := ⟨w.heap.size, 0, none⟩) hGM.symm _).setCell (a := ⟨w.heap.size, 1, none⟩) hGM.symm _).setCell (a := ⟨w.heap.size, 2, none⟩) hGM.symm _), fun q hq => ⟨(HM2.out _ rfl q hq).1, fun hc => ?_⟩⟩, gF⟩
    obtain ⟨a1, d1, e1, e2, e3, e4⟩ := (HM2.out _ rfl q hq).2 hc
    exact ⟨a1, d1, e1, e2, e3, e4.below bF⟩
  · have HM2 := hide (fun D' e => HM.out D' (by rw [if_neg h1]; exact e))
    have hm1' : ((m : Int) == 1) = false := beq_eq_false_iff_ne.2 (by omega)
    have hm2' : ¬ (m : Int) = 1 := by omega
    have hm3 : (0 : Int) < (m : Int) := by omega
    clear h1
    go_enter Try.func111, Try.ntmps111
    go_wp2_with (first
      | (at_lookup; refine wpList_lookup_held _ rfl _ _ 157 rfl 2 96 lawK Try.underlying157 (zeroEs _) M n D rfl hown1 _ _ rfl hkey _ hat true hhas ?_)
      | (at_mapUpdate; refine wpList_mapUpdate_own _ rfl _ _ _ 157 rfl 2 96 lawK Try.underlying157 rdH M n D rfl hown1 (by unfold maxLen; omega) _ _ _ rfl rfl hkey (.held (.slice a' (m - 1) (d - 1))) [] rfl ?_; intro w1 hown2 hgrow1; have gT := (gA.trans hgrow1); have bT : Below B w w1 := (Below.refl _ _).grown gT hB (fun k e => by cases e; exact hBM); obtain ⟨b', off', hbo, hbb, c0, c1, c2⟩ := HR.out w1 bT; obtain ⟨rfl, rfl⟩ : b' = b ∧ off' = off := (by simp only [Option.some.injEq, Addr.mk.injEq] at hbo; exact ⟨hbo.1.symm, hbo.2.1.symm⟩); have kG2 := (kG.grown hgrow1 (by simp; omega)); have q0 := kG2.cell 0; have q1 := kG2.cell 1; have q2 := kG2.cell 2; have f0 := kG2.frozen 0; have f1 := kG2.frozen 1; have f2 := kG2.frozen 2; simp at q0 q1 q2; clear hgrow1)
      | go_in)
    have kG3 := ((kG2.set_ 0 (.int .i64 x.k)).set_ 1 (.int .i64 x.a)).set_ 2 (.int .i64 x.v)
    have p0 := kG3.cell 0
    have p1 := kG3.cell 1
    have p2 := kG3.cell 2
    simp at p0 p1 p2
    refine bodyPost_ret (v := .tuple #[evV x.k x.a x.v, .bool true]) (by simp [results, Try.results111, go_sem, p0, p1, p2]) rfl ?_
    have gF := grownM_new (grownM_new (grownM_new gT (Nat.le_refl _) 0 (.int .i64 x.k)) (Nat.le_refl _) 1 (.int .i64 x.a)) (Nat.le_refl _) 2 (.int .i64 x.v)
    have bF := (Below.refl B w).grown gF hB (fun k e => by cases e; exact hBM)
    refine .inl ⟨HN.out, by rw [← HX.out], ⟨_, (((hown2.setCell (a := ⟨w.heap.size, 0, none⟩) hGM.symm _).setCell (a := ⟨w.heap.size, 1, none⟩) hGM.symm _).setCell (a := ⟨w.heap.size, 2, none⟩) hGM.symm _), fun q hq => ⟨(HM2.out _ rfl q hq).1, fun hc => ?_⟩⟩, gF⟩
    obtain ⟨a1, d1, e1, e2, e3, e4⟩ := (HM2.out _ rfl q hq).2 hc
    exact ⟨a1, d1, e1, e2, e3, e4.below bF⟩

theorem takeN_any (w : World) (B M n : Nat) (t : List (List Ev)) (O : List Int) (p : Int) (hp : I64 p) (hB : B ≤ w.heap.size) (hBM : B ≤ M) (hn : n ≤ 1000) (h : LeftM w B M n t O) :
    Calls Try.prog 111 #[.map (some M), .int .i64 p] w (TnPost w B M n t O p) := by
  by_cases hlt : cntO O p < lenT t p
  · exact take_yes w B M n t O p hp hB hBM hn h hlt
  · exact take_no w B M n t O p hp hB h hlt
end Go.Proofs.Ytldepledinolmaa
