/- Plain mathematics of chapter 7: right machines, what each address has, and the single steps that keep both. No program is named here. -/
import Derived.Test.YtifijhfeeammkaaMsi
namespace Go.Proofs.Ytifijhfeeammkaa

theorem lineF_zero {L k : Nat} {x : Ev} : lineF L k x = 0 ↔ (0 ≤ x.k ∧ x.k ≤ 2) ∧ (x.k = 0 → x.a = 0 ∧ x.v = 0) ∧ (0 ≤ x.a ∧ x.a ≤ 999999 ∧ 0 ≤ x.v ∧ x.v ≤ 999999) ∧ (x.k ≠ 0 → x.a % (L : Int) = (k : Int)) := by
  unfold lineF
  by_cases h1 : (0 ≤ x.k ∧ x.k ≤ 2) ∧ (x.k = 0 → x.a = 0 ∧ x.v = 0)
  · rw [if_pos h1]
    by_cases h2 : 0 ≤ x.a ∧ x.a ≤ 999999 ∧ 0 ≤ x.v ∧ x.v ≤ 999999
    · rw [if_pos h2]
      by_cases h3 : x.k ≠ 0 ∧ x.a % (L : Int) ≠ (k : Int)
      · rw [if_pos h3]
        constructor
        · intro h; omega
        · intro h; exact absurd (h.2.2.2 h3.1) h3.2
      · rw [if_neg h3]
        refine ⟨fun _ => ⟨h1.1, h1.2, h2, fun h => ?_⟩, fun _ => rfl⟩
        by_cases h4 : x.a % (L : Int) = (k : Int)
        · exact h4
        · exact absurd ⟨h, h4⟩ h3
    · rw [if_neg h2]
      exact ⟨fun h => by omega, fun h => absurd h.2.2.1 h2⟩
  · rw [if_neg h1]
    exact ⟨fun h => by omega, fun h => absurd ⟨h.1, h.2.1⟩ h1⟩
theorem lineF_Z (L k : Nat) : lineF L k lnZ = 0 := by
  rw [lineF_zero]
  simp [lnZ]
/-- A right machine of n cores with L lines. -/
structure GoodM (n L : Nat) (m : Mac) : Prop where
  shp : Shp7 n L m.cs
  nL : 1 ≤ n ∧ n ≤ 4 ∧ 1 ≤ L ∧ L ≤ 4
  ok : ∀ c ∈ m.mem, celOk c
  ris : rise m.mem = true
  line : ∀ i, i < n → ∀ k, k < L → lineF L k (ln m.cs i k) = 0
  tog : Tog n L m
/-- What an address has. -/
def HasV (n L : Nat) (m : Mac) (a v : Int) : Prop :=
  (∃ i k, i < n ∧ k < L ∧ (ln m.cs i k).k = 2 ∧ (ln m.cs i k).a = a ∧ (ln m.cs i k).v = v) ∨
  ((∀ i k, i < n → k < L → ¬ ((ln m.cs i k).k = 2 ∧ (ln m.cs i k).a = a)) ∧ v = readM m.mem a)
section
variable {n L : Nat} {m : Mac}
theorem GoodM.at_ (h : GoodM n L m) {i k : Nat} (hi : i < n) (hk : k < L) (h0 : (ln m.cs i k).k ≠ 0) : (ln m.cs i k).a % (L : Int) = (k : Int) := ((lineF_zero.1 (h.line i hi k hk)).2.2.2) h0
theorem GoodM.same_place (h : GoodM n L m) {i k i' k' : Nat} (hi : i < n) (hk : k < L) (hi' : i' < n) (hk' : k' < L) (h0 : (ln m.cs i k).k ≠ 0) (h0' : (ln m.cs i' k').k ≠ 0) (ha : (ln m.cs i k).a = (ln m.cs i' k').a) : k = k' := by
  have e1 := h.at_ hi hk h0
  have e2 := h.at_ hi' hk' h0'
  rw [ha, e2] at e1
  omega
/-- At most one line of an address is modified, and it is alone. -/
theorem GoodM.alone (h : GoodM n L m) {i k i' k' : Nat} (hi : i < n) (hk : k < L) (hi' : i' < n) (hk' : k' < L) (h2 : (ln m.cs i k).k = 2) (h0' : (ln m.cs i' k').k ≠ 0) (ha : (ln m.cs i' k').a = (ln m.cs i k).a) : i' = i ∧ k' = k := by
  have e := h.same_place hi' hk' hi hk h0' (by omega) ha
  subst e
  by_cases hii : i' = i
  · exact ⟨hii, rfl⟩
  · exact absurd ha ((h.tog i hi k' hk).2 i' hi' hii h2 h0')
theorem HasV.unique (h : GoodM n L m) {a v v' : Int} (h1 : HasV n L m a v) (h2 : HasV n L m a v') : v = v' := by
  rcases h1 with ⟨i, k, hi, hk, e1, e2, e3⟩ | ⟨e1, e2⟩
  · rcases h2 with ⟨i', k', hi', hk', d1, d2, d3⟩ | ⟨d1, _⟩
    · obtain ⟨rfl, rfl⟩ := h.alone hi hk hi' hk' e1 (by omega) (d2.trans e2.symm)
      rw [← e3, ← d3]
    · exact absurd ⟨e1, e2⟩ (d1 i k hi hk)
  · rcases h2 with ⟨i', k', hi', hk', d1, d2, d3⟩ | ⟨_, d2⟩
    · exact absurd ⟨d1, d2⟩ (e1 i' k' hi' hk')
    · rw [e2, d2]
theorem HasV.bound (h : GoodM n L m) {a v : Int} (h1 : HasV n L m a v) : 0 ≤ v ∧ v ≤ 999999 := by
  rcases h1 with ⟨i, k, hi, hk, e1, e2, e3⟩ | ⟨_, e2⟩
  · have := (lineF_zero.1 (h.line i hi k hk)).2.2.1
    rw [e3] at this
    exact ⟨this.2.2.1, this.2.2.2⟩
  · rw [e2]
    have key : ∀ l : List Cel, (∀ c ∈ l, celOk c) → 0 ≤ readM l a ∧ readM l a ≤ 999999 := by
      intro l
      induction l with
      | nil => intro _; simp [readM]
      | cons c r ih =>
        intro hh
        rw [readM]
        split
        · have := hh c (by simp)
          unfold celOk at this
          omega
        · exact ih fun c hc => hh c (by simp [hc])
    exact key _ h.ok

/-- A modified line is written back; it is shared then, or gone. -/
theorem GoodM.down (h : GoodM n L m) {i k : Nat} (hi : i < n) (hk : k < L) (h2 : (ln m.cs i k).k = 2) {y : Ev} (hy : y = lnZ ∨ y = ⟨1, (ln m.cs i k).a, (ln m.cs i k).v⟩) :
    GoodM n L ⟨setL m.cs i k y, backM m.mem (ln m.cs i k).a (ln m.cs i k).v⟩ ∧ ∀ a v, HasV n L m a v → HasV n L ⟨setL m.cs i k y, backM m.mem (ln m.cs i k).a (ln m.cs i k).v⟩ a v := by
  obtain ⟨x, hx⟩ : ∃ x, x = ln m.cs i k := ⟨_, rfl⟩
  have hlx := h.line i hi k hk
  rw [← hx] at h2 hy hlx ⊢
  obtain ⟨_, _, ⟨xa0, xa1, xv0, xv1⟩, xp⟩ := lineF_zero.1 hlx
  have LS := fun i' k' => h.shp.ln_set hi hk y i' k'
  have RB := fun b => back_read h.ris x.a x.v b
  have hyk : y.k = 0 ∨ y.k = 1 := by rcases hy with rfl | rfl <;> simp [lnZ]
  -- another valid line of x's address is no other line
  have ALN : ∀ i' k', i' < n → k' < L → (ln m.cs i' k').k ≠ 0 → (ln m.cs i' k').a = x.a → i' = i ∧ k' = k := fun i' k' hi' hk' h0 ha => h.alone hi hk hi' hk' (by rw [← hx]; exact h2) h0 (by rw [← hx]; exact ha)
  refine ⟨⟨h.shp.set_ hi y, h.nL, back_ok h.ok ⟨xa0, xa1⟩ ⟨xv0, xv1⟩, back_rise h.ris _ _, fun i' hi' k' hk' => ?_, fun i' hi' k' hk' => ⟨?_, ?_⟩⟩, fun a v hv => ?_⟩
  · rw [LS]
    split
    · rename_i hh
      obtain ⟨rfl, rfl⟩ := hh
      rcases hy with rfl | rfl
      · exact lineF_Z _ _
      · rw [lineF_zero]
        simp only
        exact ⟨by omega, fun h => by omega, ⟨xa0, xa1, xv0, xv1⟩, fun _ => xp (by omega)⟩
    · exact h.line i' hi' k' hk'
  · simp only [LS, RB]
    split
    · intro hs
      rcases hy with rfl | rfl
      · simp [lnZ] at hs
      · simp
    · rename_i hne
      intro hs
      rw [if_neg (fun ha => hne (ALN i' k' hi' hk' (by omega) ha))]
      exact (h.tog i' hi' k' hk').1 hs
  · intro j hj hji hm hv
    simp only [LS] at hm hv ⊢
    by_cases e1 : i' = i ∧ k' = k
    · rw [if_pos e1] at hm; omega
    · rw [if_neg e1] at hm ⊢
      by_cases e2 : j = i ∧ k' = k
      · rw [if_pos e2] at hv ⊢
        rcases hy with rfl | rfl
        · simp [lnZ] at hv
        · simp only
          intro ha
          exact e1 (ALN i' k' hi' hk' (by omega) ha.symm)
      · rw [if_neg e2] at hv ⊢
        exact (h.tog i' hi' k' hk').2 j hj hji hm hv
  · by_cases ha : a = x.a
    · subst ha
      have hxv : v = x.v := HasV.unique h hv (.inl ⟨i, k, hi, hk, by rw [← hx]; exact h2, by rw [← hx], by rw [← hx]⟩)
      refine .inr ⟨fun i' k' hi' hk' hc => ?_, by show v = readM (backM m.mem x.a x.v) x.a; rw [RB, if_pos rfl]; exact hxv⟩
      simp only [LS] at hc
      by_cases e1 : i' = i ∧ k' = k
      · rw [if_pos e1] at hc; omega
      · rw [if_neg e1] at hc
        exact e1 (ALN i' k' hi' hk' (by omega) hc.2)
    · rcases hv with ⟨i', k', hi', hk', e1, e2, e3⟩ | ⟨e1, e2⟩
      · have hne : ¬ (i' = i ∧ k' = k) := by
          rintro ⟨rfl, rfl⟩
          rw [← hx] at e2
          exact ha e2.symm
        refine .inl ⟨i', k', hi', hk', ?_⟩
        simp only [LS]
        rw [if_neg hne]
        exact ⟨e1, e2, e3⟩
      · refine .inr ⟨fun i' k' hi' hk' hc => ?_, by simp only [RB]; rw [if_neg ha]; exact e2⟩
        simp only [LS] at hc
        by_cases d1 : i' = i ∧ k' = k
        · rw [if_pos d1] at hc; omega
        · rw [if_neg d1] at hc
          exact e1 i' k' hi' hk' hc
/-- A line that is not modified goes. -/
theorem GoodM.drop (h : GoodM n L m) {i k : Nat} (hi : i < n) (hk : k < L) (h2 : (ln m.cs i k).k ≠ 2) :
    GoodM n L ⟨setL m.cs i k lnZ, m.mem⟩ ∧ ∀ a v, HasV n L m a v → HasV n L ⟨setL m.cs i k lnZ, m.mem⟩ a v := by
  have LS := fun i' k' => h.shp.ln_set hi hk lnZ i' k'
  refine ⟨⟨h.shp.set_ hi _, h.nL, h.ok, h.ris, fun i' hi' k' hk' => ?_, fun i' hi' k' hk' => ⟨?_, ?_⟩⟩, fun a v hv => ?_⟩
  · rw [LS]
    split
    · exact lineF_Z _ _
    · exact h.line i' hi' k' hk'
  · simp only [LS]
    split
    · intro hs; simp [lnZ] at hs
    · exact (h.tog i' hi' k' hk').1
  · intro j hj hji hm hv
    simp only [LS] at hm hv ⊢
    by_cases e1 : i' = i ∧ k' = k
    · rw [if_pos e1] at hm; simp [lnZ] at hm
    · rw [if_neg e1] at hm ⊢
      by_cases e2 : j = i ∧ k' = k
      · rw [if_pos e2] at hv; simp [lnZ] at hv
      · rw [if_neg e2] at hv ⊢
        exact (h.tog i' hi' k' hk').2 j hj hji hm hv
  · rcases hv with ⟨i', k', hi', hk', e1, e2, e3⟩ | ⟨e1, e2⟩
    · have hne : ¬ (i' = i ∧ k' = k) := by
        rintro ⟨rfl, rfl⟩
        exact h2 e1
      refine .inl ⟨i', k', hi', hk', ?_⟩
      simp only [LS]
      rw [if_neg hne]
      exact ⟨e1, e2, e3⟩
    · refine .inr ⟨fun i' k' hi' hk' hc => ?_, e2⟩
      simp only [LS] at hc
      by_cases d1 : i' = i ∧ k' = k
      · rw [if_pos d1] at hc; simp [lnZ] at hc
      · rw [if_neg d1] at hc
        exact e1 i' k' hi' hk' hc
/-- A line is loaded where nothing is modified of this address. -/
theorem GoodM.load (h : GoodM n L m) {i k : Nat} (hi : i < n) (hk : k < L) {a : Int} (ha : 0 ≤ a ∧ a ≤ 999999) (hp : a % (L : Int) = (k : Int)) (h0 : (ln m.cs i k).k = 0) (hno : ∀ i' k', i' < n → k' < L → ¬ ((ln m.cs i' k').k = 2 ∧ (ln m.cs i' k').a = a)) :
    GoodM n L ⟨setL m.cs i k ⟨1, a, readM m.mem a⟩, m.mem⟩ ∧ ∀ b v, HasV n L m b v → HasV n L ⟨setL m.cs i k ⟨1, a, readM m.mem a⟩, m.mem⟩ b v := by
  have LS := fun i' k' => h.shp.ln_set hi hk ⟨1, a, readM m.mem a⟩ i' k'
  have hb := HasV.bound h (.inr ⟨hno, rfl⟩ : HasV n L m a (readM m.mem a))
  refine ⟨⟨h.shp.set_ hi _, h.nL, h.ok, h.ris, fun i' hi' k' hk' => ?_, fun i' hi' k' hk' => ⟨?_, ?_⟩⟩, fun b v hv => ?_⟩
  · rw [LS]
    split
    · rename_i hh
      obtain ⟨rfl, rfl⟩ := hh
      rw [lineF_zero]
      simp only
      exact ⟨by omega, fun h => by omega, ⟨ha.1, ha.2, hb.1, hb.2⟩, fun _ => hp⟩
    · exact h.line i' hi' k' hk'
  · simp only [LS]
    split
    · intro _; rfl
    · exact (h.tog i' hi' k' hk').1
  · intro j hj hji hm hv
    simp only [LS] at hm hv ⊢
    by_cases e1 : i' = i ∧ k' = k
    · rw [if_pos e1] at hm; simp only at hm; omega
    · rw [if_neg e1] at hm ⊢
      by_cases e2 : j = i ∧ k' = k
      · rw [if_pos e2]
        intro e
        exact hno i' k' hi' hk' ⟨hm, e.symm⟩
      · rw [if_neg e2] at hv ⊢
        exact (h.tog i' hi' k' hk').2 j hj hji hm hv
  · rcases hv with ⟨i', k', hi', hk', e1, e2, e3⟩ | ⟨e1, e2⟩
    · have hne : ¬ (i' = i ∧ k' = k) := by
        rintro ⟨rfl, rfl⟩
        omega
      refine .inl ⟨i', k', hi', hk', ?_⟩
      simp only [LS]
      rw [if_neg hne]
      exact ⟨e1, e2, e3⟩
    · refine .inr ⟨fun i' k' hi' hk' hc => ?_, e2⟩
      simp only [LS] at hc
      by_cases d1 : i' = i ∧ k' = k
      · rw [if_pos d1] at hc; simp only at hc; omega
      · rw [if_neg d1] at hc
        exact e1 i' k' hi' hk' hc
/-- A line is stored where no other core has one of this address. -/
theorem GoodM.store (h : GoodM n L m) {i k : Nat} (hi : i < n) (hk : k < L) {a v : Int} (ha : 0 ≤ a ∧ a ≤ 999999) (hv : 0 ≤ v ∧ v ≤ 999999) (hp : a % (L : Int) = (k : Int)) (h0 : (ln m.cs i k).k = 0 ∨ (ln m.cs i k).a = a)
    (hno : ∀ j, j < n → j ≠ i → (ln m.cs j k).k ≠ 0 → (ln m.cs j k).a ≠ a) :
    GoodM n L ⟨setL m.cs i k ⟨2, a, v⟩, m.mem⟩ ∧ HasV n L ⟨setL m.cs i k ⟨2, a, v⟩, m.mem⟩ a v ∧ ∀ b u, b ≠ a → HasV n L m b u → HasV n L ⟨setL m.cs i k ⟨2, a, v⟩, m.mem⟩ b u := by
  have LS := fun i' k' => h.shp.ln_set hi hk ⟨2, a, v⟩ i' k'
  refine ⟨⟨h.shp.set_ hi _, h.nL, h.ok, h.ris, fun i' hi' k' hk' => ?_, fun i' hi' k' hk' => ⟨?_, ?_⟩⟩, .inl ⟨i, k, hi, hk, ?_⟩, fun b u hb hu => ?_⟩
  · rw [LS]
    split
    · rename_i hh
      obtain ⟨rfl, rfl⟩ := hh
      rw [lineF_zero]
      simp only
      exact ⟨by omega, fun h => by omega, ⟨ha.1, ha.2, hv.1, hv.2⟩, fun _ => hp⟩
    · exact h.line i' hi' k' hk'
  · simp only [LS]
    split
    · intro e; simp at e
    · exact (h.tog i' hi' k' hk').1
  · intro j hj hji hm hw
    simp only [LS] at hm hw ⊢
    by_cases e1 : i' = i ∧ k' = k
    · rw [if_pos e1]
      obtain ⟨rfl, rfl⟩ := e1
      have e2 : ¬ (j = i' ∧ k' = k') := fun e => hji e.1
      rw [if_neg e2] at hw ⊢
      exact hno j hj hji hw
    · rw [if_neg e1] at hm ⊢
      by_cases e2 : j = i ∧ k' = k
      · rw [if_pos e2]
        obtain ⟨rfl, rfl⟩ := e2
        intro e
        exact hno i' hi' (fun e => hji e.symm) (by omega) e.symm
      · rw [if_neg e2] at hw ⊢
        exact (h.tog i' hi' k' hk').2 j hj hji hm hw
  · refine ⟨?_, ?_, ?_⟩ <;> (rw [LS, if_pos ⟨rfl, rfl⟩])
  · rcases hu with ⟨i', k', hi', hk', e1, e2, e3⟩ | ⟨e1, e2⟩
    · have hne : ¬ (i' = i ∧ k' = k) := by
        rintro ⟨rfl, rfl⟩
        rcases h0 with h0 | h0
        · omega
        · exact hb (e2.symm.trans h0)
      refine .inl ⟨i', k', hi', hk', ?_⟩
      simp only [LS]
      rw [if_neg hne]
      exact ⟨e1, e2, e3⟩
    · refine .inr ⟨fun i' k' hi' hk' hc => ?_, e2⟩
      simp only [LS] at hc
      by_cases d1 : i' = i ∧ k' = k
      · rw [if_pos d1] at hc; exact hb hc.2.symm
      · rw [if_neg d1] at hc
        exact e1 i' k' hi' hk' hc
end
end Go.Proofs.Ytifijhfeeammkaa
