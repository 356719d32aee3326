/- Plain mathematics of chapter 7: an op of a right machine does what one memory would do. No program is named here. -/
import Derived.Test.YtifijhfeeammkaaMsi2
namespace Go.Proofs.Ytifijhfeeammkaa

/-- Each cell and each modified line bears an address of S. -/
def SrcS (n L : Nat) (S : List Int) (m : Mac) : Prop := (∀ c ∈ m.mem, c.a ∈ S) ∧ ∀ i k, i < n → k < L → (ln m.cs i k).k = 2 → (ln m.cs i k).a ∈ S
/-- What a step keeps. -/
structure KeepM (n L : Nat) (m m' : Mac) : Prop where
  good : GoodM n L m'
  val : ∀ a v, HasV n L m a v → HasV n L m' a v
  src : ∀ S, SrcS n L S m → SrcS n L S m'
theorem KeepM.refl {n L : Nat} {m : Mac} (h : GoodM n L m) : KeepM n L m m := ⟨h, fun _ _ h => h, fun _ h => h⟩
theorem KeepM.trans {n L : Nat} {m m' m'' : Mac} (h : KeepM n L m m') (k : KeepM n L m' m'') : KeepM n L m m'' := ⟨k.good, fun a v x => k.val a v (h.val a v x), fun S x => k.src S (h.src S x)⟩
/-- No line of this address is modified. -/
def NoMod (n L : Nat) (a : Int) (m : Mac) : Prop := ∀ i k, i < n → k < L → ¬ ((ln m.cs i k).k = 2 ∧ (ln m.cs i k).a = a)
section
variable {n L : Nat} {m : Mac}
theorem GoodM.downK (h : GoodM n L m) {i k : Nat} (hi : i < n) (hk : k < L) (h2 : (ln m.cs i k).k = 2) {y : Ev} (hy : y = lnZ ∨ y = ⟨1, (ln m.cs i k).a, (ln m.cs i k).v⟩) :
    KeepM n L m ⟨setL m.cs i k y, backM m.mem (ln m.cs i k).a (ln m.cs i k).v⟩ ∧ NoMod n L (ln m.cs i k).a ⟨setL m.cs i k y, backM m.mem (ln m.cs i k).a (ln m.cs i k).v⟩ := by
  obtain ⟨a1, a2⟩ := h.down hi hk h2 hy
  have LS := fun i' k' => h.shp.ln_set hi hk y i' k'
  have hyk : y.k ≠ 2 := by rcases hy with rfl | rfl <;> simp [lnZ]
  refine ⟨⟨a1, a2, fun S ⟨s1, s2⟩ => ⟨fun c hc => ?_, fun i' k' hi' hk' hm => ?_⟩⟩, fun i' k' hi' hk' hc => ?_⟩
  · rcases back_mem hc with ⟨rfl, _⟩ | x
    · exact s2 i k hi hk h2
    · exact s1 c x
  · simp only [LS] at hm ⊢
    by_cases e : i' = i ∧ k' = k
    · rw [if_pos e] at hm; exact absurd hm hyk
    · rw [if_neg e] at hm ⊢
      exact s2 i' k' hi' hk' hm
  · simp only [LS] at hc
    by_cases e : i' = i ∧ k' = k
    · rw [if_pos e] at hc; exact hyk hc.1
    · rw [if_neg e] at hc
      exact e (h.alone hi hk hi' hk' h2 (by omega) hc.2)
theorem GoodM.dropK (h : GoodM n L m) {i k : Nat} (hi : i < n) (hk : k < L) (h2 : (ln m.cs i k).k ≠ 2) : KeepM n L m ⟨setL m.cs i k lnZ, m.mem⟩ := by
  obtain ⟨a1, a2⟩ := h.drop hi hk h2
  have LS := fun i' k' => h.shp.ln_set hi hk lnZ i' k'
  refine ⟨a1, a2, fun S ⟨s1, s2⟩ => ⟨s1, fun i' k' hi' hk' hm => ?_⟩⟩
  simp only [LS] at hm ⊢
  by_cases e : i' = i ∧ k' = k
  · rw [if_pos e] at hm; simp [lnZ] at hm
  · rw [if_neg e] at hm ⊢
    exact s2 i' k' hi' hk' hm
theorem setL_same {n L : Nat} {cs : List (List Ev)} (h : Shp7 n L cs) {i k : Nat} (hi : i < n) (hk : k < L) {x : Ev} (hx : x = ln cs i k) : setL cs i k x = cs := by
  have hi' : i < cs.length := by rw [h.1]; exact hi
  have hr := h.row hi
  have e0 : cs.getD i [] = cs[i] := by simp [hi']
  have hk' : k < cs[i].length := by rw [← e0, hr]; exact hk
  unfold setL
  rw [e0, hx, ln_get cs i k hi' hk', List.set_getElem_self, List.set_getElem_self]
/-- The own line, made free of another address. -/
theorem free_ok (h : GoodM n L m) {c k : Nat} (hc : c < n) (hk : k < L) (a : Int) :
    KeepM n L m (freeL c k a m) ∧ (freeL c k a m).mem.length ≤ m.mem.length + 1 ∧ ((ln (freeL c k a m).cs c k).k = 0 ∨ (ln (freeL c k a m).cs c k).a = a) ∧ (m.cs.getD c []).length = ((freeL c k a m).cs.getD c []).length := by
  obtain ⟨x, hx⟩ : ∃ x, x = ln m.cs c k := ⟨_, rfl⟩
  unfold freeL
  simp only [← hx]
  by_cases h1 : x.k ≠ 0 ∧ x.a ≠ a
  · rw [if_pos h1]
    have LS := fun i' k' => h.shp.ln_set hc hk lnZ i' k'
    have S1 := h.shp.set_ (k := k) hc lnZ
    by_cases h2 : x.k = 2
    · rw [if_pos h2]
      have D := h.downK hc hk (by rw [← hx]; exact h2) (y := lnZ) (.inl rfl)
      rw [← hx] at D
      refine ⟨D.1, back_len _ _ _, .inl ?_, by rw [h.shp.row hc, S1.row hc]⟩
      rw [LS, if_pos ⟨rfl, rfl⟩]
      rfl
    · rw [if_neg h2]
      refine ⟨h.dropK hc hk (by rw [← hx]; exact h2), by simp only; omega, .inl ?_, by rw [h.shp.row hc, S1.row hc]⟩
      rw [LS, if_pos ⟨rfl, rfl⟩]
      rfl
  · rw [if_neg h1]
    refine ⟨KeepM.refl h, by omega, ?_, rfl⟩
    rw [← hx]
    by_cases h0 : x.k = 0
    · exact .inl h0
    · refine .inr ?_
      by_cases ha : x.a = a
      · exact ha
      · exact absurd ⟨h0, ha⟩ h1
def Bad (store : Bool) (a : Int) (x : Ev) : Prop := x.k ≠ 0 ∧ x.a = a ∧ (store = true ∨ x.k = 2)
/-- One core gives up its line. -/
theorem give_ok (h : GoodM n L m) {c k i : Nat} (hi : i < n) (hk : k < L) (a : Int) (store : Bool) :
    KeepM n L m (giveL c k a store m i) ∧ (∀ i' k', ¬ (i' = i ∧ k' = k) → ln (giveL c k a store m i).cs i' k' = ln m.cs i' k') ∧ (i = c → giveL c k a store m i = m) ∧ (i ≠ c → ¬ Bad store a (ln (giveL c k a store m i).cs i k)) ∧
    ((giveL c k a store m i).mem.length = m.mem.length ∨ ((giveL c k a store m i).mem.length ≤ m.mem.length + 1 ∧ NoMod n L a (giveL c k a store m i))) ∧ (NoMod n L a m → NoMod n L a (giveL c k a store m i) ∧ (giveL c k a store m i).mem = m.mem) := by
  obtain ⟨x, hx⟩ : ∃ x, x = ln m.cs i k := ⟨_, rfl⟩
  unfold giveL
  simp only [← hx]
  by_cases h1 : i = c ∨ x.k = 0 ∨ x.a ≠ a
  · rw [if_pos h1]
    refine ⟨KeepM.refl h, fun _ _ _ => rfl, fun _ => rfl, fun hne hb => ?_, .inl rfl, fun hn => ⟨hn, rfl⟩⟩
    rw [← hx] at hb
    rcases h1 with e | e | e
    · exact hne e
    · exact hb.1 e
    · exact e hb.2.1
  · rw [if_neg h1]
    have hic : i ≠ c := fun e => h1 (.inl e)
    have hx0 : x.k ≠ 0 := fun e => h1 (.inr (.inl e))
    have hxa : x.a = a := by
      by_cases ha : x.a = a
      · exact ha
      · exact absurd (.inr (.inr ha)) h1
    obtain ⟨y, hy⟩ : ∃ y, y = (if store = true then lnZ else (⟨1, x.a, x.v⟩ : Ev)) := ⟨_, rfl⟩
    rw [← hy]
    have hy2 : y = lnZ ∨ y = ⟨1, x.a, x.v⟩ := by
      rw [hy]; split
      · exact .inl rfl
      · exact .inr rfl
    have hyb : ¬ Bad store a y := by
      rintro ⟨b1, _, b3⟩
      cases store with
      | true => rw [hy] at b1; simp [lnZ] at b1
      | false => rw [hy] at b3; simp at b3
    have LS := fun i' k' => h.shp.ln_set hi hk y i' k'
    by_cases h2 : x.k = 2
    · rw [if_pos h2]
      have D := h.downK hi hk (by rw [← hx]; exact h2) (y := y) (by rw [← hx]; exact hy2)
      rw [← hx] at D
      refine ⟨D.1, fun i' k' hne => by rw [LS, if_neg hne], fun e => absurd e hic, fun _ => by rw [LS, if_pos ⟨rfl, rfl⟩]; exact hyb, .inr ⟨back_len _ _ _, by rw [← hxa]; exact D.2⟩, fun hn => ?_⟩
      exact absurd ⟨by rw [← hx]; exact h2, by rw [← hx]; exact hxa⟩ (hn i k hi hk)
    · rw [if_neg h2]
      have hx1 : x.k = 1 := by
        have := (lineF_zero.1 (h.line i hi k hk)).1
        rw [← hx] at this
        omega
      have K : KeepM n L m ⟨setL m.cs i k y, m.mem⟩ := by
        rcases hy2 with e | e
        · rw [e]; exact h.dropK hi hk (by rw [← hx]; exact h2)
        · have e3 : y = ln m.cs i k := by rw [e, ← hx, ← hx1]
          rw [setL_same h.shp hi hk e3]
          exact KeepM.refl h
      refine ⟨K, fun i' k' hne => by rw [LS, if_neg hne], fun e => absurd e hic, fun _ => by rw [LS, if_pos ⟨rfl, rfl⟩]; exact hyb, .inl rfl, fun hn => ⟨fun i' k' hi' hk' hcc => ?_, rfl⟩⟩
      simp only [LS] at hcc
      by_cases e : i' = i ∧ k' = k
      · rw [if_pos e] at hcc
        rcases hy2 with e2 | e2 <;> rw [e2] at hcc <;> simp [lnZ] at hcc
      · rw [if_neg e] at hcc
        exact hn i' k' hi' hk' hcc
end
/-- Core by core they give up their lines. -/
theorem fold_ok {n L c k : Nat} (hk : k < L) (a : Int) (store : Bool) : ∀ (l : List Nat) (m : Mac), GoodM n L m → (∀ i ∈ l, i < n) →
    KeepM n L m (l.foldl (giveL c k a store) m) ∧ (∀ i' k', (i' ∉ l ∨ i' = c ∨ k' ≠ k) → ln (l.foldl (giveL c k a store) m).cs i' k' = ln m.cs i' k') ∧ (∀ i ∈ l, i ≠ c → ¬ Bad store a (ln (l.foldl (giveL c k a store) m).cs i k)) ∧
    ((l.foldl (giveL c k a store) m).mem.length = m.mem.length ∨ ((l.foldl (giveL c k a store) m).mem.length ≤ m.mem.length + 1 ∧ NoMod n L a (l.foldl (giveL c k a store) m))) ∧ (NoMod n L a m → NoMod n L a (l.foldl (giveL c k a store) m) ∧ (l.foldl (giveL c k a store) m).mem = m.mem)
  | [], m, h, _ => ⟨KeepM.refl h, fun _ _ _ => rfl, fun i hi => by simp at hi, .inl rfl, fun hn => ⟨hn, rfl⟩⟩
  | i :: r, m, h, hl => by
    have hi := hl i (by simp)
    obtain ⟨g1, g2, g3, g4, g5, g6⟩ := give_ok h (c := c) hi hk a store
    obtain ⟨f1, f2, f3, f4, f5⟩ := fold_ok hk a store r (giveL c k a store m i) g1.good fun j hj => hl j (by simp [hj])
    simp only [List.foldl_cons]
    refine ⟨g1.trans f1, fun i' k' hh => ?_, fun j hj hjc => ?_, ?_, fun hn => ?_⟩
    · rw [f2 i' k' (by
        rcases hh with a | a | a
        · exact .inl fun e => a (by simp [e])
        · exact .inr (.inl a)
        · exact .inr (.inr a))]
      by_cases hic : i = c
      · rw [g3 hic]
      · refine g2 i' k' fun e => ?_
        rcases hh with b | b | b
        · exact b (by simp [e.1])
        · exact hic (e.1.symm.trans b)
        · exact b e.2
    · rcases List.mem_cons.1 hj with rfl | hjr
      · by_cases hjr : j ∈ r
        · exact f3 j hjr hjc
        · rw [f2 j k (.inl hjr)]; exact g4 hjc
      · exact f3 j hjr hjc
    · rcases g5 with e | ⟨e, hn⟩
      · rcases f4 with e2 | ⟨e2, hn2⟩
        · exact .inl (e2.trans e)
        · exact .inr ⟨by omega, hn2⟩
      · obtain ⟨hn2, e2⟩ := f5 hn
        exact .inr ⟨by rw [e2]; exact e, hn2⟩
    · obtain ⟨a1, a2⟩ := g6 hn
      obtain ⟨b1, b2⟩ := f5 a1
      exact ⟨b1, b2.trans a2⟩
section
variable {n L : Nat} {m : Mac}
theorem others_ok (h : GoodM n L m) {c k : Nat} (hk : k < L) (a : Int) (store : Bool) :
    KeepM n L m (others c k a store m) ∧ (∀ k', ln (others c k a store m).cs c k' = ln m.cs c k') ∧ (∀ i, i < n → i ≠ c → ¬ Bad store a (ln (others c k a store m).cs i k)) ∧ (others c k a store m).mem.length ≤ m.mem.length + 1 := by
  unfold others
  obtain ⟨f1, f2, f3, f4, _⟩ := fold_ok (c := c) hk a store (List.range m.cs.length) m h fun i hi => by rw [List.mem_range, h.shp.1] at hi; exact hi
  refine ⟨f1, fun k' => f2 c k' (.inr (.inl rfl)), fun i hi hic => f3 i (by rw [List.mem_range, h.shp.1]; exact hi) hic, ?_⟩
  rcases f4 with e | ⟨e, _⟩ <;> omega
theorem place_ok (h : GoodM n L m) {c : Nat} (hc : c < n) {a : Int} : placeOf m c a < L ∧ a % (L : Int) = (placeOf m c a : Int) := by
  have hL := h.nL.2.2.1
  unfold placeOf
  rw [h.shp.row hc]
  have h1 := Int.emod_nonneg a (show (L : Int) ≠ 0 by omega)
  have h2 := Int.emod_lt_of_pos a (show (0 : Int) < (L : Int) by omega)
  omega
theorem opF_zero {o : Ev} (h : opF o = 0) : (o.k = 0 ∧ o.v = 0 ∨ o.k = 1) ∧ (0 ≤ o.a ∧ o.a ≤ 999999) ∧ (0 ≤ o.v ∧ o.v ≤ 999999) := by
  unfold opF at h
  by_cases h1 : evF o = 0
  · rw [if_pos h1] at h
    have h2 := evF_zero h1
    by_cases h3 : o.k = 0 ∧ o.v ≠ 0
    · rw [if_pos h3] at h; omega
    · refine ⟨?_, ⟨h2.2.1, h2.2.2.1⟩, ⟨h2.2.2.2.1, h2.2.2.2.2⟩⟩
      rcases h2.1 with e | e
      · by_cases hv : o.v = 0
        · exact .inl ⟨e, hv⟩
        · exact absurd ⟨e, hv⟩ h3
      · exact .inr e
  · rw [if_neg h1] at h; exact absurd h h1
/-- What an op does: the machine is right again; the address has the value; no other address is turned. -/
structure DidM (n L : Nat) (m : Mac) (o : Ev) (m' : Mac) (v : Int) : Prop where
  good : GoodM n L m'
  other : ∀ b u, b ≠ o.a → HasV n L m b u → HasV n L m' b u
  here : HasV n L m' o.a v
  stored : o.k = 1 → v = o.v
  loaded : o.k = 0 → HasV n L m o.a v
  len : m'.mem.length ≤ m.mem.length + 2
  src : ∀ S, SrcS n L S m → SrcS n L (if o.k = 1 then o.a :: S else S) m'
theorem own_mod {c k : Nat} (h : GoodM n L m) (hc : c < n) (hk : k < L) {a : Int} (h2 : (ln m.cs c k).k = 2) (ha : (ln m.cs c k).a = a) (j : Nat) (hj : j < n) (hjc : j ≠ c) (h0 : (ln m.cs j k).k ≠ 0) : (ln m.cs j k).a ≠ a := by
  rw [← ha]
  exact (h.tog c hc k hk).2 j hj hjc h2 h0
theorem has_ex (n L : Nat) (m : Mac) (a : Int) : ∃ v, HasV n L m a v := by
  by_cases h : NoMod n L a m
  · exact ⟨_, .inr ⟨h, rfl⟩⟩
  · unfold NoMod at h
    have : ∃ i k, i < n ∧ k < L ∧ ((ln m.cs i k).k = 2 ∧ (ln m.cs i k).a = a) := by
      apply Classical.byContradiction
      intro hh
      exact h fun i k hi hk hc => hh ⟨i, k, hi, hk, hc⟩
    obtain ⟨i, k, hi, hk, e1, e2⟩ := this
    exact ⟨_, .inl ⟨i, k, hi, hk, e1, e2, rfl⟩⟩
theorem do_ok (h : GoodM n L m) {c : Nat} (hc : c < n) {o : Ev} (ho : opF o = 0) : DidM n L m o (doM m c o).1 (doM m c o).2 := by
  obtain ⟨hkd, ha, hv⟩ := opF_zero ho
  obtain ⟨hk, hp⟩ := place_ok h hc (a := o.a)
  obtain ⟨k, hkk⟩ : ∃ k, k = placeOf m c o.a := ⟨_, rfl⟩
  rw [← hkk] at hk hp
  obtain ⟨F1, F2, F3, _⟩ := free_ok h hc hk o.a
  obtain ⟨m1, hm1⟩ : ∃ m1, m1 = freeL c k o.a m := ⟨_, rfl⟩
  rw [← hm1] at F1 F2 F3
  unfold doM
  simp only [← hkk, ← hm1]
  by_cases h1 : o.k = 1
  · rw [if_pos h1]
    obtain ⟨m2, hm2⟩ : ∃ m2, m2 = (if (ln m1.cs c k).k = 2 then m1 else others c k o.a true m1) := ⟨_, rfl⟩
    rw [← hm2]
    have K : KeepM n L m1 m2 ∧ ((ln m2.cs c k).k = 0 ∨ (ln m2.cs c k).a = o.a) ∧ (∀ j, j < n → j ≠ c → (ln m2.cs j k).k ≠ 0 → (ln m2.cs j k).a ≠ o.a) ∧ m2.mem.length ≤ m1.mem.length + 1 := by
      by_cases h2 : (ln m1.cs c k).k = 2
      · rw [if_pos h2] at hm2
        rw [hm2]
        exact ⟨KeepM.refl F1.good, F3, own_mod F1.good hc hk h2 (by rcases F3 with e | e; omega; exact e), by omega⟩
      · rw [if_neg h2] at hm2
        obtain ⟨O1, O2, O3, O4⟩ := others_ok F1.good (c := c) hk o.a true
        rw [← hm2] at O1 O2 O3 O4
        refine ⟨O1, by rw [O2]; exact F3, fun j hj hjc h0 he => O3 j hj hjc ⟨h0, he, .inl rfl⟩, O4⟩
    obtain ⟨K1, K2, K3, K4⟩ := K
    obtain ⟨s1, s2, s3⟩ := K1.good.store hc hk ha hv hp K2 K3
    have LS := fun i' k' => K1.good.shp.ln_set hc hk ⟨2, o.a, o.v⟩ i' k'
    refine ⟨s1, fun b u hb hu => s3 b u hb (K1.val b u (F1.val b u hu)), s2, fun _ => rfl, fun e => by omega, by simp only; omega, fun S hS => ?_⟩
    rw [if_pos h1]
    obtain ⟨t1, t2⟩ := K1.src S (F1.src S hS)
    refine ⟨fun c' hc' => by simp [t1 c' hc'], fun i' k' hi' hk' hm => ?_⟩
    simp only [LS] at hm ⊢
    by_cases e : i' = c ∧ k' = k
    · rw [if_pos e]; simp
    · rw [if_neg e] at hm ⊢
      simp [t2 i' k' hi' hk' hm]
  · rw [if_neg h1]
    have hk0 : o.k = 0 := by omega
    by_cases h2 : (ln m1.cs c k).k = 0
    · rw [if_pos h2]
      obtain ⟨O1, O2, O3, O4⟩ := others_ok F1.good (c := c) hk o.a false
      obtain ⟨m2, hm2⟩ : ∃ m2, m2 = others c k o.a false m1 := ⟨_, rfl⟩
      rw [← hm2] at O1 O2 O3 O4 ⊢
      have hno : NoMod n L o.a m2 := fun i' k' hi' hk' hcc => by
        have e := O1.good.at_ hi' hk' (by omega)
        rw [hcc.2, hp] at e
        have e' : k' = k := by omega
        subst e'
        by_cases hic : i' = c
        · rw [hic, O2] at hcc; omega
        · exact O3 i' hi' hic ⟨by omega, hcc.2, .inr hcc.1⟩
      obtain ⟨l1, l2⟩ := O1.good.load hc hk ha hp (by rw [O2]; exact h2) hno
      have LS := fun i' k' => O1.good.shp.ln_set hc hk ⟨1, o.a, readM m2.mem o.a⟩ i' k'
      have hval : HasV n L m2 o.a (readM m2.mem o.a) := .inr ⟨hno, rfl⟩
      refine ⟨l1, fun b u _ hu => l2 b u (O1.val b u (F1.val b u hu)), l2 _ _ hval, fun e => absurd e h1, fun _ => ?_, by simp only; omega, fun S hS => ?_⟩
      · obtain ⟨u, hu⟩ := has_ex n L m o.a
        have e := HasV.unique O1.good (O1.val _ _ (F1.val _ _ hu)) hval
        rw [← e]; exact hu
      · rw [if_neg h1]
        obtain ⟨t1, t2⟩ := O1.src S (F1.src S hS)
        refine ⟨t1, fun i' k' hi' hk' hm => ?_⟩
        simp only [LS] at hm ⊢
        by_cases e : i' = c ∧ k' = k
        · rw [if_pos e] at hm; simp at hm
        · rw [if_neg e] at hm ⊢
          exact t2 i' k' hi' hk' hm
    · rw [if_neg h2]
      have hoa : (ln m1.cs c k).a = o.a := by rcases F3 with e | e; exact absurd e h2; exact e
      have hval : HasV n L m1 o.a (ln m1.cs c k).v := by
        by_cases h3 : (ln m1.cs c k).k = 2
        · exact .inl ⟨c, k, hc, hk, h3, hoa, rfl⟩
        · have hx1 : (ln m1.cs c k).k = 1 := by
            have := (lineF_zero.1 (F1.good.line c hc k hk)).1
            omega
          have hs := (F1.good.tog c hc k hk).1 hx1
          rw [hoa] at hs
          refine .inr ⟨fun i' k' hi' hk' hcc => ?_, hs⟩
          obtain ⟨e1, e2⟩ := F1.good.alone hi' hk' hc hk hcc.1 h2 (by rw [hoa, hcc.2])
          rw [← e1, ← e2] at hcc
          exact h3 hcc.1
      refine ⟨F1.good, fun b u _ hu => F1.val b u hu, hval, fun e => absurd e h1, fun _ => ?_, by simp only; omega, fun S hS => by rw [if_neg h1]; exact F1.src S hS⟩
      obtain ⟨u, hu⟩ := has_ex n L m o.a
      have e := HasV.unique F1.good (F1.val _ _ hu) hval
      rw [← e]; exact hu
end
end Go.Proofs.Ytifijhfeeammkaa
