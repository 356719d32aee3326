/- What the laws' walks rest upon, part 7. -/
import Derived.Test.YtnnfkmjhaljplaaGreatM03
namespace Go.Proofs.YtnnfkmjhaljplaaGreat
theorem lineF_zero {L k : Nat} {x : Ev} : lineF L k x = 0 ↔ (0 ≤ x.k ∧ x.k ≤ 2) ∧ (x.k = 0 → x.a = 0 ∧ x.v = 0) ∧ (0 ≤ x.a ∧ x.a ≤ 999999 ∧ 0 ≤ x.v ∧ x.v ≤ 999999) ∧ (x.k ≠ 0 → x.a % (L : Int) = (k : Int)) := by
  unfold lineF
  by_cases h1 : (0 ≤ x.k ∧ x.k ≤ 2) ∧ (x.k = 0 → x.a = 0 ∧ x.v = 0)
  · rw [if_pos h1]
    by_cases h2 : 0 ≤ x.a ∧ x.a ≤ 999999 ∧ 0 ≤ x.v ∧ x.v ≤ 999999
    · rw [if_pos h2]
      by_cases h3 : x.k ≠ 0 ∧ x.a % (L : Int) ≠ (k : Int)
      · rw [if_pos h3]
        constructor
        · intro h; omega
        · intro h; exact absurd (h.2.2.2 h3.1) h3.2
      · rw [if_neg h3]
        refine ⟨fun _ => ⟨h1.1, h1.2, h2, fun h => ?_⟩, fun _ => rfl⟩
        by_cases h4 : x.a % (L : Int) = (k : Int)
        · exact h4
        · exact absurd ⟨h, h4⟩ h3
    · rw [if_neg h2]
      exact ⟨fun h => by omega, fun h => absurd h.2.2.1 h2⟩
  · rw [if_neg h1]
    exact ⟨fun h => by omega, fun h => absurd ⟨h.1, h.2.1⟩ h1⟩
theorem lineF_Z (L k : Nat) : lineF L k lnZ = 0 := by
  rw [lineF_zero]
  simp [lnZ]
/-- A right machine of n cores with L lines. -/
structure GoodM (n L : Nat) (m : Mac) : Prop where
  shp : Shp7 n L m.cs
  nL : 1 ≤ n ∧ n ≤ 4 ∧ 1 ≤ L ∧ L ≤ 4
  ok : ∀ c ∈ m.mem, celOk c
  ris : rise m.mem = true
  line : ∀ i, i < n → ∀ k, k < L → lineF L k (ln m.cs i k) = 0
  tog : Tog n L m
/-- What an address has. -/
def HasV (n L : Nat) (m : Mac) (a v : Int) : Prop :=
  (∃ i k, i < n ∧ k < L ∧ (ln m.cs i k).k = 2 ∧ (ln m.cs i k).a = a ∧ (ln m.cs i k).v = v) ∨
  ((∀ i k, i < n → k < L → ¬ ((ln m.cs i k).k = 2 ∧ (ln m.cs i k).a = a)) ∧ v = readM m.mem a)
section
variable {n L : Nat} {m : Mac}
theorem GoodM.at_ (h : GoodM n L m) {i k : Nat} (hi : i < n) (hk : k < L) (h0 : (ln m.cs i k).k ≠ 0) : (ln m.cs i k).a % (L : Int) = (k : Int) := ((lineF_zero.1 (h.line i hi k hk)).2.2.2) h0
theorem GoodM.same_place (h : GoodM n L m) {i k i' k' : Nat} (hi : i < n) (hk : k < L) (hi' : i' < n) (hk' : k' < L) (h0 : (ln m.cs i k).k ≠ 0) (h0' : (ln m.cs i' k').k ≠ 0) (ha : (ln m.cs i k).a = (ln m.cs i' k').a) : k = k' := by
  have e1 := h.at_ hi hk h0
  have e2 := h.at_ hi' hk' h0'
  rw [ha, e2] at e1
  omega
/-- At most one line of an address is modified, and it is alone. -/
theorem GoodM.alone (h : GoodM n L m) {i k i' k' : Nat} (hi : i < n) (hk : k < L) (hi' : i' < n) (hk' : k' < L) (h2 : (ln m.cs i k).k = 2) (h0' : (ln m.cs i' k').k ≠ 0) (ha : (ln m.cs i' k').a = (ln m.cs i k).a) : i' = i ∧ k' = k := by
  have e := h.same_place hi' hk' hi hk h0' (by omega) ha
  subst e
  by_cases hii : i' = i
  · exact ⟨hii, rfl⟩
  · exact absurd ha ((h.tog i hi k' hk).2 i' hi' hii h2 h0')
theorem HasV.unique (h : GoodM n L m) {a v v' : Int} (h1 : HasV n L m a v) (h2 : HasV n L m a v') : v = v' := by
  rcases h1 with ⟨i, k, hi, hk, e1, e2, e3⟩ | ⟨e1, e2⟩
  · rcases h2 with ⟨i', k', hi', hk', d1, d2, d3⟩ | ⟨d1, _⟩
    · obtain ⟨rfl, rfl⟩ := h.alone hi hk hi' hk' e1 (by omega) (d2.trans e2.symm)
      rw [← e3, ← d3]
    · exact absurd ⟨e1, e2⟩ (d1 i k hi hk)
  · rcases h2 with ⟨i', k', hi', hk', d1, d2, d3⟩ | ⟨_, d2⟩
    · exact absurd ⟨d1, d2⟩ (e1 i' k' hi' hk')
    · rw [e2, d2]
theorem HasV.bound (h : GoodM n L m) {a v : Int} (h1 : HasV n L m a v) : 0 ≤ v ∧ v ≤ 999999 := by
  rcases h1 with ⟨i, k, hi, hk, e1, e2, e3⟩ | ⟨_, e2⟩
  · have := (lineF_zero.1 (h.line i hi k hk)).2.2.1
    rw [e3] at this
    exact ⟨this.2.2.1, this.2.2.2⟩
  · rw [e2]
    have key : ∀ l : List Cel, (∀ c ∈ l, celOk c) → 0 ≤ readM l a ∧ readM l a ≤ 999999 := by
      intro l
      induction l with
      | nil => intro _; simp [readM]
      | cons c r ih =>
        intro hh
        rw [readM]
        split
        · have := hh c (by simp)
          unfold celOk at this
          omega
        · exact ih fun c hc => hh c (by simp [hc])
    exact key _ h.ok
/-- A modified line is written back; it is shared then, or gone. -/
theorem GoodM.down (h : GoodM n L m) {i k : Nat} (hi : i < n) (hk : k < L) (h2 : (ln m.cs i k).k = 2) {y : Ev} (hy : y = lnZ ∨ y = ⟨1, (ln m.cs i k).a, (ln m.cs i k).v⟩) :
    GoodM n L ⟨setL m.cs i k y, backM m.mem (ln m.cs i k).a (ln m.cs i k).v⟩ ∧ ∀ a v, HasV n L m a v → HasV n L ⟨setL m.cs i k y, backM m.mem (ln m.cs i k).a (ln m.cs i k).v⟩ a v := by
  obtain ⟨x, hx⟩ : ∃ x, x = ln m.cs i k := ⟨_, rfl⟩
  have hlx := h.line i hi k hk
  rw [← hx] at h2 hy hlx ⊢
  obtain ⟨_, _, ⟨xa0, xa1, xv0, xv1⟩, xp⟩ := lineF_zero.1 hlx
  have LS := fun i' k' => h.shp.ln_set hi hk y i' k'
  have RB := fun b => back_read h.ris x.a x.v b
  have hyk : y.k = 0 ∨ y.k = 1 := by rcases hy with rfl | rfl <;> simp [lnZ]
  -- another valid line of x's address is no other line
  have ALN : ∀ i' k', i' < n → k' < L → (ln m.cs i' k').k ≠ 0 → (ln m.cs i' k').a = x.a → i' = i ∧ k' = k := fun i' k' hi' hk' h0 ha => h.alone hi hk hi' hk' (by rw [← hx]; exact h2) h0 (by rw [← hx]; exact ha)
  refine ⟨⟨h.shp.set_ hi y, h.nL, back_ok h.ok ⟨xa0, xa1⟩ ⟨xv0, xv1⟩, back_rise h.ris _ _, fun i' hi' k' hk' => ?_, fun i' hi' k' hk' => ⟨?_, ?_⟩⟩, fun a v hv => ?_⟩
  · rw [LS]
    split
    · rename_i hh
      obtain ⟨rfl, rfl⟩ := hh
      rcases hy with rfl | rfl
      · exact lineF_Z _ _
      · rw [lineF_zero]
        simp only
        exact ⟨by omega, fun h => by omega, ⟨xa0, xa1, xv0, xv1⟩, fun _ => xp (by omega)⟩
    · exact h.line i' hi' k' hk'
  · simp only [LS, RB]
    split
    · intro hs
      rcases hy with rfl | rfl
      · simp [lnZ] at hs
      · simp
    · rename_i hne
      intro hs
      rw [if_neg (fun ha => hne (ALN i' k' hi' hk' (by omega) ha))]
      exact (h.tog i' hi' k' hk').1 hs
  · intro j hj hji hm hv
    simp only [LS] at hm hv ⊢
    by_cases e1 : i' = i ∧ k' = k
    · rw [if_pos e1] at hm; omega
    · rw [if_neg e1] at hm ⊢
      by_cases e2 : j = i ∧ k' = k
      · rw [if_pos e2] at hv ⊢
        rcases hy with rfl | rfl
        · simp [lnZ] at hv
        · simp only
          intro ha
          exact e1 (ALN i' k' hi' hk' (by omega) ha.symm)
      · rw [if_neg e2] at hv ⊢
        exact (h.tog i' hi' k' hk').2 j hj hji hm hv
  · by_cases ha : a = x.a
    · subst ha
      have hxv : v = x.v := HasV.unique h hv (.inl ⟨i, k, hi, hk, by rw [← hx]; exact h2, by rw [← hx], by rw [← hx]⟩)
      refine .inr ⟨fun i' k' hi' hk' hc => ?_, by show v = readM (backM m.mem x.a x.v) x.a; rw [RB, if_pos rfl]; exact hxv⟩
      simp only [LS] at hc
      by_cases e1 : i' = i ∧ k' = k
      · rw [if_pos e1] at hc; omega
      · rw [if_neg e1] at hc
        exact e1 (ALN i' k' hi' hk' (by omega) hc.2)
    · rcases hv with ⟨i', k', hi', hk', e1, e2, e3⟩ | ⟨e1, e2⟩
      · have hne : ¬ (i' = i ∧ k' = k) := by
          rintro ⟨rfl, rfl⟩
          rw [← hx] at e2
          exact ha e2.symm
        refine .inl ⟨i', k', hi', hk', ?_⟩
        simp only [LS]
        rw [if_neg hne]
        exact ⟨e1, e2, e3⟩
      · refine .inr ⟨fun i' k' hi' hk' hc => ?_, by simp only [RB]; rw [if_neg ha]; exact e2⟩
        simp only [LS] at hc
        by_cases d1 : i' = i ∧ k' = k
        · rw [if_pos d1] at hc; omega
        · rw [if_neg d1] at hc
          exact e1 i' k' hi' hk' hc
/-- A line that is not modified goes. -/
theorem GoodM.drop (h : GoodM n L m) {i k : Nat} (hi : i < n) (hk : k < L) (h2 : (ln m.cs i k).k ≠ 2) :
    GoodM n L ⟨setL m.cs i k lnZ, m.mem⟩ ∧ ∀ a v, HasV n L m a v → HasV n L ⟨setL m.cs i k lnZ, m.mem⟩ a v := by
  have LS := fun i' k' => h.shp.ln_set hi hk lnZ i' k'
  refine ⟨⟨h.shp.set_ hi _, h.nL, h.ok, h.ris, fun i' hi' k' hk' => ?_, fun i' hi' k' hk' => ⟨?_, ?_⟩⟩, fun a v hv => ?_⟩
  · rw [LS]
    split
    · exact lineF_Z _ _
    · exact h.line i' hi' k' hk'
  · simp only [LS]
    split
    · intro hs; simp [lnZ] at hs
    · exact (h.tog i' hi' k' hk').1
  · intro j hj hji hm hv
    simp only [LS] at hm hv ⊢
    by_cases e1 : i' = i ∧ k' = k
    · rw [if_pos e1] at hm; simp [lnZ] at hm
    · rw [if_neg e1] at hm ⊢
      by_cases e2 : j = i ∧ k' = k
      · rw [if_pos e2] at hv; simp [lnZ] at hv
      · rw [if_neg e2] at hv ⊢
        exact (h.tog i' hi' k' hk').2 j hj hji hm hv
  · rcases hv with ⟨i', k', hi', hk', e1, e2, e3⟩ | ⟨e1, e2⟩
    · have hne : ¬ (i' = i ∧ k' = k) := by
        rintro ⟨rfl, rfl⟩
        exact h2 e1
      refine .inl ⟨i', k', hi', hk', ?_⟩
      simp only [LS]
      rw [if_neg hne]
      exact ⟨e1, e2, e3⟩
    · refine .inr ⟨fun i' k' hi' hk' hc => ?_, e2⟩
      simp only [LS] at hc
      by_cases d1 : i' = i ∧ k' = k
      · rw [if_pos d1] at hc; simp [lnZ] at hc
      · rw [if_neg d1] at hc
        exact e1 i' k' hi' hk' hc
/-- A line is loaded where nothing is modified of this address. -/
theorem GoodM.load (h : GoodM n L m) {i k : Nat} (hi : i < n) (hk : k < L) {a : Int} (ha : 0 ≤ a ∧ a ≤ 999999) (hp : a % (L : Int) = (k : Int)) (h0 : (ln m.cs i k).k = 0) (hno : ∀ i' k', i' < n → k' < L → ¬ ((ln m.cs i' k').k = 2 ∧ (ln m.cs i' k').a = a)) :
    GoodM n L ⟨setL m.cs i k ⟨1, a, readM m.mem a⟩, m.mem⟩ ∧ ∀ b v, HasV n L m b v → HasV n L ⟨setL m.cs i k ⟨1, a, readM m.mem a⟩, m.mem⟩ b v := by
  have LS := fun i' k' => h.shp.ln_set hi hk ⟨1, a, readM m.mem a⟩ i' k'
  have hb := HasV.bound h (.inr ⟨hno, rfl⟩ : HasV n L m a (readM m.mem a))
  refine ⟨⟨h.shp.set_ hi _, h.nL, h.ok, h.ris, fun i' hi' k' hk' => ?_, fun i' hi' k' hk' => ⟨?_, ?_⟩⟩, fun b v hv => ?_⟩
  · rw [LS]
    split
    · rename_i hh
      obtain ⟨rfl, rfl⟩ := hh
      rw [lineF_zero]
      simp only
      exact ⟨by omega, fun h => by omega, ⟨ha.1, ha.2, hb.1, hb.2⟩, fun _ => hp⟩
    · exact h.line i' hi' k' hk'
  · simp only [LS]
    split
    · intro _; rfl
    · exact (h.tog i' hi' k' hk').1
  · intro j hj hji hm hv
    simp only [LS] at hm hv ⊢
    by_cases e1 : i' = i ∧ k' = k
    · rw [if_pos e1] at hm; simp only at hm; omega
    · rw [if_neg e1] at hm ⊢
      by_cases e2 : j = i ∧ k' = k
      · rw [if_pos e2]
        intro e
        exact hno i' k' hi' hk' ⟨hm, e.symm⟩
      · rw [if_neg e2] at hv ⊢
        exact (h.tog i' hi' k' hk').2 j hj hji hm hv
  · rcases hv with ⟨i', k', hi', hk', e1, e2, e3⟩ | ⟨e1, e2⟩
    · have hne : ¬ (i' = i ∧ k' = k) := by
        rintro ⟨rfl, rfl⟩
        omega
      refine .inl ⟨i', k', hi', hk', ?_⟩
      simp only [LS]
      rw [if_neg hne]
      exact ⟨e1, e2, e3⟩
    · refine .inr ⟨fun i' k' hi' hk' hc => ?_, e2⟩
      simp only [LS] at hc
      by_cases d1 : i' = i ∧ k' = k
      · rw [if_pos d1] at hc; simp only at hc; omega
      · rw [if_neg d1] at hc
        exact e1 i' k' hi' hk' hc
/-- A line is stored where no other core has one of this address. -/
theorem GoodM.store (h : GoodM n L m) {i k : Nat} (hi : i < n) (hk : k < L) {a v : Int} (ha : 0 ≤ a ∧ a ≤ 999999) (hv : 0 ≤ v ∧ v ≤ 999999) (hp : a % (L : Int) = (k : Int)) (h0 : (ln m.cs i k).k = 0 ∨ (ln m.cs i k).a = a)
    (hno : ∀ j, j < n → j ≠ i → (ln m.cs j k).k ≠ 0 → (ln m.cs j k).a ≠ a) :
    GoodM n L ⟨setL m.cs i k ⟨2, a, v⟩, m.mem⟩ ∧ HasV n L ⟨setL m.cs i k ⟨2, a, v⟩, m.mem⟩ a v ∧ ∀ b u, b ≠ a → HasV n L m b u → HasV n L ⟨setL m.cs i k ⟨2, a, v⟩, m.mem⟩ b u := by
  have LS := fun i' k' => h.shp.ln_set hi hk ⟨2, a, v⟩ i' k'
  refine ⟨⟨h.shp.set_ hi _, h.nL, h.ok, h.ris, fun i' hi' k' hk' => ?_, fun i' hi' k' hk' => ⟨?_, ?_⟩⟩, .inl ⟨i, k, hi, hk, ?_⟩, fun b u hb hu => ?_⟩
  · rw [LS]
    split
    · rename_i hh
      obtain ⟨rfl, rfl⟩ := hh
      rw [lineF_zero]
      simp only
      exact ⟨by omega, fun h => by omega, ⟨ha.1, ha.2, hv.1, hv.2⟩, fun _ => hp⟩
    · exact h.line i' hi' k' hk'
  · simp only [LS]
    split
    · intro e; simp at e
    · exact (h.tog i' hi' k' hk').1
  · intro j hj hji hm hw
    simp only [LS] at hm hw ⊢
    by_cases e1 : i' = i ∧ k' = k
    · rw [if_pos e1]
      obtain ⟨rfl, rfl⟩ := e1
      have e2 : ¬ (j = i' ∧ k' = k') := fun e => hji e.1
      rw [if_neg e2] at hw ⊢
      exact hno j hj hji hw
    · rw [if_neg e1] at hm ⊢
      by_cases e2 : j = i ∧ k' = k
      · rw [if_pos e2]
        obtain ⟨rfl, rfl⟩ := e2
        intro e
        exact hno i' hi' (fun e => hji e.symm) (by omega) e.symm
      · rw [if_neg e2] at hw ⊢
        exact (h.tog i' hi' k' hk').2 j hj hji hm hw
  · refine ⟨?_, ?_, ?_⟩ <;> (rw [LS, if_pos ⟨rfl, rfl⟩])
  · rcases hu with ⟨i', k', hi', hk', e1, e2, e3⟩ | ⟨e1, e2⟩
    · have hne : ¬ (i' = i ∧ k' = k) := by
        rintro ⟨rfl, rfl⟩
        rcases h0 with h0 | h0
        · omega
        · exact hb (e2.symm.trans h0)
      refine .inl ⟨i', k', hi', hk', ?_⟩
      simp only [LS]
      rw [if_neg hne]
      exact ⟨e1, e2, e3⟩
    · refine .inr ⟨fun i' k' hi' hk' hc => ?_, e2⟩
      simp only [LS] at hc
      by_cases d1 : i' = i ∧ k' = k
      · rw [if_pos d1] at hc; exact hb hc.2.symm
      · rw [if_neg d1] at hc
        exact e1 i' k' hi' hk' hc
end
end Go.Proofs.YtnnfkmjhaljplaaGreat
namespace Go.Proofs.YtnnfkmjhaljplaaGreat
/-- Each cell and each modified line bears an address of S. -/
def SrcS (n L : Nat) (S : List Int) (m : Mac) : Prop := (∀ c ∈ m.mem, c.a ∈ S) ∧ ∀ i k, i < n → k < L → (ln m.cs i k).k = 2 → (ln m.cs i k).a ∈ S
/-- What a step keeps. -/
structure KeepM (n L : Nat) (m m' : Mac) : Prop where
  good : GoodM n L m'
  val : ∀ a v, HasV n L m a v → HasV n L m' a v
  src : ∀ S, SrcS n L S m → SrcS n L S m'
theorem KeepM.refl {n L : Nat} {m : Mac} (h : GoodM n L m) : KeepM n L m m := ⟨h, fun _ _ h => h, fun _ h => h⟩
theorem KeepM.trans {n L : Nat} {m m' m'' : Mac} (h : KeepM n L m m') (k : KeepM n L m' m'') : KeepM n L m m'' := ⟨k.good, fun a v x => k.val a v (h.val a v x), fun S x => k.src S (h.src S x)⟩
/-- No line of this address is modified. -/
def NoMod (n L : Nat) (a : Int) (m : Mac) : Prop := ∀ i k, i < n → k < L → ¬ ((ln m.cs i k).k = 2 ∧ (ln m.cs i k).a = a)
section
variable {n L : Nat} {m : Mac}
theorem GoodM.downK (h : GoodM n L m) {i k : Nat} (hi : i < n) (hk : k < L) (h2 : (ln m.cs i k).k = 2) {y : Ev} (hy : y = lnZ ∨ y = ⟨1, (ln m.cs i k).a, (ln m.cs i k).v⟩) :
    KeepM n L m ⟨setL m.cs i k y, backM m.mem (ln m.cs i k).a (ln m.cs i k).v⟩ ∧ NoMod n L (ln m.cs i k).a ⟨setL m.cs i k y, backM m.mem (ln m.cs i k).a (ln m.cs i k).v⟩ := by
  obtain ⟨a1, a2⟩ := h.down hi hk h2 hy
  have LS := fun i' k' => h.shp.ln_set hi hk y i' k'
  have hyk : y.k ≠ 2 := by rcases hy with rfl | rfl <;> simp [lnZ]
  refine ⟨⟨a1, a2, fun S ⟨s1, s2⟩ => ⟨fun c hc => ?_, fun i' k' hi' hk' hm => ?_⟩⟩, fun i' k' hi' hk' hc => ?_⟩
  · rcases back_mem hc with ⟨rfl, _⟩ | x
    · exact s2 i k hi hk h2
    · exact s1 c x
  · simp only [LS] at hm ⊢
    by_cases e : i' = i ∧ k' = k
    · rw [if_pos e] at hm; exact absurd hm hyk
    · rw [if_neg e] at hm ⊢
      exact s2 i' k' hi' hk' hm
  · simp only [LS] at hc
    by_cases e : i' = i ∧ k' = k
    · rw [if_pos e] at hc; exact hyk hc.1
    · rw [if_neg e] at hc
      exact e (h.alone hi hk hi' hk' h2 (by omega) hc.2)
theorem GoodM.dropK (h : GoodM n L m) {i k : Nat} (hi : i < n) (hk : k < L) (h2 : (ln m.cs i k).k ≠ 2) : KeepM n L m ⟨setL m.cs i k lnZ, m.mem⟩ := by
  obtain ⟨a1, a2⟩ := h.drop hi hk h2
  have LS := fun i' k' => h.shp.ln_set hi hk lnZ i' k'
  refine ⟨a1, a2, fun S ⟨s1, s2⟩ => ⟨s1, fun i' k' hi' hk' hm => ?_⟩⟩
  simp only [LS] at hm ⊢
  by_cases e : i' = i ∧ k' = k
  · rw [if_pos e] at hm; simp [lnZ] at hm
  · rw [if_neg e] at hm ⊢
    exact s2 i' k' hi' hk' hm
theorem setL_same {n L : Nat} {cs : List (List Ev)} (h : Shp7 n L cs) {i k : Nat} (hi : i < n) (hk : k < L) {x : Ev} (hx : x = ln cs i k) : setL cs i k x = cs := by
  have hi' : i < cs.length := by rw [h.1]; exact hi
  have hr := h.row hi
  have e0 : cs.getD i [] = cs[i] := by simp [hi']
  have hk' : k < cs[i].length := by rw [← e0, hr]; exact hk
  unfold setL
  rw [e0, hx, ln_get cs i k hi' hk', List.set_getElem_self, List.set_getElem_self]
/-- The own line, made free of another address. -/
theorem free_ok (h : GoodM n L m) {c k : Nat} (hc : c < n) (hk : k < L) (a : Int) :
    KeepM n L m (freeL c k a m) ∧ (freeL c k a m).mem.length ≤ m.mem.length + 1 ∧ ((ln (freeL c k a m).cs c k).k = 0 ∨ (ln (freeL c k a m).cs c k).a = a) ∧ (m.cs.getD c []).length = ((freeL c k a m).cs.getD c []).length := by
  obtain ⟨x, hx⟩ : ∃ x, x = ln m.cs c k := ⟨_, rfl⟩
  unfold freeL
  simp only [← hx]
  by_cases h1 : x.k ≠ 0 ∧ x.a ≠ a
  · rw [if_pos h1]
    have LS := fun i' k' => h.shp.ln_set hc hk lnZ i' k'
    have S1 := h.shp.set_ (k := k) hc lnZ
    by_cases h2 : x.k = 2
    · rw [if_pos h2]
      have D := h.downK hc hk (by rw [← hx]; exact h2) (y := lnZ) (.inl rfl)
      rw [← hx] at D
      refine ⟨D.1, back_len _ _ _, .inl ?_, by rw [h.shp.row hc, S1.row hc]⟩
      rw [LS, if_pos ⟨rfl, rfl⟩]
      rfl
    · rw [if_neg h2]
      refine ⟨h.dropK hc hk (by rw [← hx]; exact h2), by simp only; omega, .inl ?_, by rw [h.shp.row hc, S1.row hc]⟩
      rw [LS, if_pos ⟨rfl, rfl⟩]
      rfl
  · rw [if_neg h1]
    refine ⟨KeepM.refl h, by omega, ?_, rfl⟩
    rw [← hx]
    by_cases h0 : x.k = 0
    · exact .inl h0
    · refine .inr ?_
      by_cases ha : x.a = a
      · exact ha
      · exact absurd ⟨h0, ha⟩ h1
def Bad (store : Bool) (a : Int) (x : Ev) : Prop := x.k ≠ 0 ∧ x.a = a ∧ (store = true ∨ x.k = 2)
/-- One core gives up its line. -/
theorem give_ok (h : GoodM n L m) {c k i : Nat} (hi : i < n) (hk : k < L) (a : Int) (store : Bool) :
    KeepM n L m (giveL c k a store m i) ∧ (∀ i' k', ¬ (i' = i ∧ k' = k) → ln (giveL c k a store m i).cs i' k' = ln m.cs i' k') ∧ (i = c → giveL c k a store m i = m) ∧ (i ≠ c → ¬ Bad store a (ln (giveL c k a store m i).cs i k)) ∧
    ((giveL c k a store m i).mem.length = m.mem.length ∨ ((giveL c k a store m i).mem.length ≤ m.mem.length + 1 ∧ NoMod n L a (giveL c k a store m i))) ∧ (NoMod n L a m → NoMod n L a (giveL c k a store m i) ∧ (giveL c k a store m i).mem = m.mem) := by
  obtain ⟨x, hx⟩ : ∃ x, x = ln m.cs i k := ⟨_, rfl⟩
  unfold giveL
  simp only [← hx]
  by_cases h1 : i = c ∨ x.k = 0 ∨ x.a ≠ a
  · rw [if_pos h1]
    refine ⟨KeepM.refl h, fun _ _ _ => rfl, fun _ => rfl, fun hne hb => ?_, .inl rfl, fun hn => ⟨hn, rfl⟩⟩
    rw [← hx] at hb
    rcases h1 with e | e | e
    · exact hne e
    · exact hb.1 e
    · exact e hb.2.1
  · rw [if_neg h1]
    have hic : i ≠ c := fun e => h1 (.inl e)
    have hx0 : x.k ≠ 0 := fun e => h1 (.inr (.inl e))
    have hxa : x.a = a := by
      by_cases ha : x.a = a
      · exact ha
      · exact absurd (.inr (.inr ha)) h1
    obtain ⟨y, hy⟩ : ∃ y, y = (if store = true then lnZ else (⟨1, x.a, x.v⟩ : Ev)) := ⟨_, rfl⟩
    rw [← hy]
    have hy2 : y = lnZ ∨ y = ⟨1, x.a, x.v⟩ := by
      rw [hy]; split
      · exact .inl rfl
      · exact .inr rfl
    have hyb : ¬ Bad store a y := by
      rintro ⟨b1, _, b3⟩
      cases store with
      | true => rw [hy] at b1; simp [lnZ] at b1
      | false => rw [hy] at b3; simp at b3
    have LS := fun i' k' => h.shp.ln_set hi hk y i' k'
    by_cases h2 : x.k = 2
    · rw [if_pos h2]
      have D := h.downK hi hk (by rw [← hx]; exact h2) (y := y) (by rw [← hx]; exact hy2)
      rw [← hx] at D
      refine ⟨D.1, fun i' k' hne => by rw [LS, if_neg hne], fun e => absurd e hic, fun _ => by rw [LS, if_pos ⟨rfl, rfl⟩]; exact hyb, .inr ⟨back_len _ _ _, by rw [← hxa]; exact D.2⟩, fun hn => ?_⟩
      exact absurd ⟨by rw [← hx]; exact h2, by rw [← hx]; exact hxa⟩ (hn i k hi hk)
    · rw [if_neg h2]
      have hx1 : x.k = 1 := by
        have := (lineF_zero.1 (h.line i hi k hk)).1
        rw [← hx] at this
        omega
      have K : KeepM n L m ⟨setL m.cs i k y, m.mem⟩ := by
        rcases hy2 with e | e
        · rw [e]; exact h.dropK hi hk (by rw [← hx]; exact h2)
        · have e3 : y = ln m.cs i k := by rw [e, ← hx, ← hx1]
          rw [setL_same h.shp hi hk e3]
          exact KeepM.refl h
      refine ⟨K, fun i' k' hne => by rw [LS, if_neg hne], fun e => absurd e hic, fun _ => by rw [LS, if_pos ⟨rfl, rfl⟩]; exact hyb, .inl rfl, fun hn => ⟨fun i' k' hi' hk' hcc => ?_, rfl⟩⟩
      simp only [LS] at hcc
      by_cases e : i' = i ∧ k' = k
      · rw [if_pos e] at hcc
        rcases hy2 with e2 | e2 <;> rw [e2] at hcc <;> simp [lnZ] at hcc
      · rw [if_neg e] at hcc
        exact hn i' k' hi' hk' hcc
end
/-- Core by core they give up their lines. -/
theorem fold_ok {n L c k : Nat} (hk : k < L) (a : Int) (store : Bool) : ∀ (l : List Nat) (m : Mac), GoodM n L m → (∀ i ∈ l, i < n) →
    KeepM n L m (l.foldl (giveL c k a store) m) ∧ (∀ i' k', (i' ∉ l ∨ i' = c ∨ k' ≠ k) → ln (l.foldl (giveL c k a store) m).cs i' k' = ln m.cs i' k') ∧ (∀ i ∈ l, i ≠ c → ¬ Bad store a (ln (l.foldl (giveL c k a store) m).cs i k)) ∧
    ((l.foldl (giveL c k a store) m).mem.length = m.mem.length ∨ ((l.foldl (giveL c k a store) m).mem.length ≤ m.mem.length + 1 ∧ NoMod n L a (l.foldl (giveL c k a store) m))) ∧ (NoMod n L a m → NoMod n L a (l.foldl (giveL c k a store) m) ∧ (l.foldl (giveL c k a store) m).mem = m.mem)
  | [], m, h, _ => ⟨KeepM.refl h, fun _ _ _ => rfl, fun i hi => by simp at hi, .inl rfl, fun hn => ⟨hn, rfl⟩⟩
  | i :: r, m, h, hl => by
    have hi := hl i (by simp)
    obtain ⟨g1, g2, g3, g4, g5, g6⟩ := give_ok h (c := c) hi hk a store
    obtain ⟨f1, f2, f3, f4, f5⟩ := fold_ok hk a store r (giveL c k a store m i) g1.good fun j hj => hl j (by simp [hj])
    simp only [List.foldl_cons]
    refine ⟨g1.trans f1, fun i' k' hh => ?_, fun j hj hjc => ?_, ?_, fun hn => ?_⟩
    · rw [f2 i' k' (by
        rcases hh with a | a | a
        · exact .inl fun e => a (by simp [e])
        · exact .inr (.inl a)
        · exact .inr (.inr a))]
      by_cases hic : i = c
      · rw [g3 hic]
      · refine g2 i' k' fun e => ?_
        rcases hh with b | b | b
        · exact b (by simp [e.1])
        · exact hic (e.1.symm.trans b)
        · exact b e.2
    · rcases List.mem_cons.1 hj with rfl | hjr
      · by_cases hjr : j ∈ r
        · exact f3 j hjr hjc
        · rw [f2 j k (.inl hjr)]; exact g4 hjc
      · exact f3 j hjr hjc
    · rcases g5 with e | ⟨e, hn⟩
      · rcases f4 with e2 | ⟨e2, hn2⟩
        · exact .inl (e2.trans e)
        · exact .inr ⟨by omega, hn2⟩
      · obtain ⟨hn2, e2⟩ := f5 hn
        exact .inr ⟨by rw [e2]; exact e, hn2⟩
    · obtain ⟨a1, a2⟩ := g6 hn
      obtain ⟨b1, b2⟩ := f5 a1
      exact ⟨b1, b2.trans a2⟩
section
variable {n L : Nat} {m : Mac}
theorem others_ok (h : GoodM n L m) {c k : Nat} (hk : k < L) (a : Int) (store : Bool) :
    KeepM n L m (others c k a store m) ∧ (∀ k', ln (others c k a store m).cs c k' = ln m.cs c k') ∧ (∀ i, i < n → i ≠ c → ¬ Bad store a (ln (others c k a store m).cs i k)) ∧ (others c k a store m).mem.length ≤ m.mem.length + 1 := by
  unfold others
  obtain ⟨f1, f2, f3, f4, _⟩ := fold_ok (c := c) hk a store (List.range m.cs.length) m h fun i hi => by rw [List.mem_range, h.shp.1] at hi; exact hi
  refine ⟨f1, fun k' => f2 c k' (.inr (.inl rfl)), fun i hi hic => f3 i (by rw [List.mem_range, h.shp.1]; exact hi) hic, ?_⟩
  rcases f4 with e | ⟨e, _⟩ <;> omega
theorem place_ok (h : GoodM n L m) {c : Nat} (hc : c < n) {a : Int} : placeOf m c a < L ∧ a % (L : Int) = (placeOf m c a : Int) := by
  have hL := h.nL.2.2.1
  unfold placeOf
  rw [h.shp.row hc]
  have h1 := Int.emod_nonneg a (show (L : Int) ≠ 0 by omega)
  have h2 := Int.emod_lt_of_pos a (show (0 : Int) < (L : Int) by omega)
  omega
theorem opF_zero {o : Ev} (h : opF o = 0) : (o.k = 0 ∧ o.v = 0 ∨ o.k = 1) ∧ (0 ≤ o.a ∧ o.a ≤ 999999) ∧ (0 ≤ o.v ∧ o.v ≤ 999999) := by
  unfold opF at h
  by_cases h1 : evF o = 0
  · rw [if_pos h1] at h
    have h2 := evF_zero h1
    by_cases h3 : o.k = 0 ∧ o.v ≠ 0
    · rw [if_pos h3] at h; omega
    · refine ⟨?_, ⟨h2.2.1, h2.2.2.1⟩, ⟨h2.2.2.2.1, h2.2.2.2.2⟩⟩
      rcases h2.1 with e | e
      · by_cases hv : o.v = 0
        · exact .inl ⟨e, hv⟩
        · exact absurd ⟨e, hv⟩ h3
      · exact .inr e
  · rw [if_neg h1] at h; exact absurd h h1
/-- What an op does: the machine is right again; the address has the value; no other address is turned. -/
structure DidM (n L : Nat) (m : Mac) (o : Ev) (m' : Mac) (v : Int) : Prop where
  good : GoodM n L m'
  other : ∀ b u, b ≠ o.a → HasV n L m b u → HasV n L m' b u
  here : HasV n L m' o.a v
  stored : o.k = 1 → v = o.v
  loaded : o.k = 0 → HasV n L m o.a v
  len : m'.mem.length ≤ m.mem.length + 2
  src : ∀ S, SrcS n L S m → SrcS n L (if o.k = 1 then o.a :: S else S) m'
theorem own_mod {c k : Nat} (h : GoodM n L m) (hc : c < n) (hk : k < L) {a : Int} (h2 : (ln m.cs c k).k = 2) (ha : (ln m.cs c k).a = a) (j : Nat) (hj : j < n) (hjc : j ≠ c) (h0 : (ln m.cs j k).k ≠ 0) : (ln m.cs j k).a ≠ a := by
  rw [← ha]
  exact (h.tog c hc k hk).2 j hj hjc h2 h0
theorem has_ex (n L : Nat) (m : Mac) (a : Int) : ∃ v, HasV n L m a v := by
  by_cases h : NoMod n L a m
  · exact ⟨_, .inr ⟨h, rfl⟩⟩
  · unfold NoMod at h
    have : ∃ i k, i < n ∧ k < L ∧ ((ln m.cs i k).k = 2 ∧ (ln m.cs i k).a = a) := by
      apply Classical.byContradiction
      intro hh
      exact h fun i k hi hk hc => hh ⟨i, k, hi, hk, hc⟩
    obtain ⟨i, k, hi, hk, e1, e2⟩ := this
    exact ⟨_, .inl ⟨i, k, hi, hk, e1, e2, rfl⟩⟩
theorem do_ok (h : GoodM n L m) {c : Nat} (hc : c < n) {o : Ev} (ho : opF o = 0) : DidM n L m o (doM m c o).1 (doM m c o).2 := by
  obtain ⟨hkd, ha, hv⟩ := opF_zero ho
  obtain ⟨hk, hp⟩ := place_ok h hc (a := o.a)
  obtain ⟨k, hkk⟩ : ∃ k, k = placeOf m c o.a := ⟨_, rfl⟩
  rw [← hkk] at hk hp
  obtain ⟨F1, F2, F3, _⟩ := free_ok h hc hk o.a
  obtain ⟨m1, hm1⟩ : ∃ m1, m1 = freeL c k o.a m := ⟨_, rfl⟩
  rw [← hm1] at F1 F2 F3
  unfold doM
  simp only [← hkk, ← hm1]
  by_cases h1 : o.k = 1
  · rw [if_pos h1]
    obtain ⟨m2, hm2⟩ : ∃ m2, m2 = (if (ln m1.cs c k).k = 2 then m1 else others c k o.a true m1) := ⟨_, rfl⟩
    rw [← hm2]
    have K : KeepM n L m1 m2 ∧ ((ln m2.cs c k).k = 0 ∨ (ln m2.cs c k).a = o.a) ∧ (∀ j, j < n → j ≠ c → (ln m2.cs j k).k ≠ 0 → (ln m2.cs j k).a ≠ o.a) ∧ m2.mem.length ≤ m1.mem.length + 1 := by
      by_cases h2 : (ln m1.cs c k).k = 2
      · rw [if_pos h2] at hm2
        rw [hm2]
        exact ⟨KeepM.refl F1.good, F3, own_mod F1.good hc hk h2 (by rcases F3 with e | e; omega; exact e), by omega⟩
      · rw [if_neg h2] at hm2
        obtain ⟨O1, O2, O3, O4⟩ := others_ok F1.good (c := c) hk o.a true
        rw [← hm2] at O1 O2 O3 O4
        refine ⟨O1, by rw [O2]; exact F3, fun j hj hjc h0 he => O3 j hj hjc ⟨h0, he, .inl rfl⟩, O4⟩
    obtain ⟨K1, K2, K3, K4⟩ := K
    obtain ⟨s1, s2, s3⟩ := K1.good.store hc hk ha hv hp K2 K3
    have LS := fun i' k' => K1.good.shp.ln_set hc hk ⟨2, o.a, o.v⟩ i' k'
    refine ⟨s1, fun b u hb hu => s3 b u hb (K1.val b u (F1.val b u hu)), s2, fun _ => rfl, fun e => by omega, by simp only; omega, fun S hS => ?_⟩
    rw [if_pos h1]
    obtain ⟨t1, t2⟩ := K1.src S (F1.src S hS)
    refine ⟨fun c' hc' => by simp [t1 c' hc'], fun i' k' hi' hk' hm => ?_⟩
    simp only [LS] at hm ⊢
    by_cases e : i' = c ∧ k' = k
    · rw [if_pos e]; simp
    · rw [if_neg e] at hm ⊢
      simp [t2 i' k' hi' hk' hm]
  · rw [if_neg h1]
    have hk0 : o.k = 0 := by omega
    by_cases h2 : (ln m1.cs c k).k = 0
    · rw [if_pos h2]
      obtain ⟨O1, O2, O3, O4⟩ := others_ok F1.good (c := c) hk o.a false
      obtain ⟨m2, hm2⟩ : ∃ m2, m2 = others c k o.a false m1 := ⟨_, rfl⟩
      rw [← hm2] at O1 O2 O3 O4 ⊢
      have hno : NoMod n L o.a m2 := fun i' k' hi' hk' hcc => by
        have e := O1.good.at_ hi' hk' (by omega)
        rw [hcc.2, hp] at e
        have e' : k' = k := by omega
        subst e'
        by_cases hic : i' = c
        · rw [hic, O2] at hcc; omega
        · exact O3 i' hi' hic ⟨by omega, hcc.2, .inr hcc.1⟩
      obtain ⟨l1, l2⟩ := O1.good.load hc hk ha hp (by rw [O2]; exact h2) hno
      have LS := fun i' k' => O1.good.shp.ln_set hc hk ⟨1, o.a, readM m2.mem o.a⟩ i' k'
      have hval : HasV n L m2 o.a (readM m2.mem o.a) := .inr ⟨hno, rfl⟩
      refine ⟨l1, fun b u _ hu => l2 b u (O1.val b u (F1.val b u hu)), l2 _ _ hval, fun e => absurd e h1, fun _ => ?_, by simp only; omega, fun S hS => ?_⟩
      · obtain ⟨u, hu⟩ := has_ex n L m o.a
        have e := HasV.unique O1.good (O1.val _ _ (F1.val _ _ hu)) hval
        rw [← e]; exact hu
      · rw [if_neg h1]
        obtain ⟨t1, t2⟩ := O1.src S (F1.src S hS)
        refine ⟨t1, fun i' k' hi' hk' hm => ?_⟩
        simp only [LS] at hm ⊢
        by_cases e : i' = c ∧ k' = k
        · rw [if_pos e] at hm; simp at hm
        · rw [if_neg e] at hm ⊢
          exact t2 i' k' hi' hk' hm
    · rw [if_neg h2]
      have hoa : (ln m1.cs c k).a = o.a := by rcases F3 with e | e; exact absurd e h2; exact e
      have hval : HasV n L m1 o.a (ln m1.cs c k).v := by
        by_cases h3 : (ln m1.cs c k).k = 2
        · exact .inl ⟨c, k, hc, hk, h3, hoa, rfl⟩
        · have hx1 : (ln m1.cs c k).k = 1 := by
            have := (lineF_zero.1 (F1.good.line c hc k hk)).1
            omega
          have hs := (F1.good.tog c hc k hk).1 hx1
          rw [hoa] at hs
          refine .inr ⟨fun i' k' hi' hk' hcc => ?_, hs⟩
          obtain ⟨e1, e2⟩ := F1.good.alone hi' hk' hc hk hcc.1 h2 (by rw [hoa, hcc.2])
          rw [← e1, ← e2] at hcc
          exact h3 hcc.1
      refine ⟨F1.good, fun b u _ hu => F1.val b u hu, hval, fun e => absurd e h1, fun _ => ?_, by simp only; omega, fun S hS => by rw [if_neg h1]; exact F1.src S hS⟩
      obtain ⟨u, hu⟩ := has_ex n L m o.a
      have e := HasV.unique F1.good (F1.val _ _ hu) hval
      rw [← e]; exact hu
end
end Go.Proofs.YtnnfkmjhaljplaaGreat
namespace Go.Proofs.YtnnfkmjhaljplaaGreat
theorem cellsF_zero {l : List Cel} : cellsF l = 0 ↔ (∀ c ∈ l, celOk c) ∧ rise l = true := by
  unfold cellsF
  by_cases h1 : allC l = true
  · rw [if_pos h1]
    by_cases h2 : rise l = true
    · rw [if_pos h2]
      exact ⟨fun _ => ⟨allC_iff.1 h1, h2⟩, fun _ => rfl⟩
    · rw [if_neg h2]
      exact ⟨fun h => by omega, fun h => absurd h.2 h2⟩
  · rw [if_neg h1]
    exact ⟨fun h => by omega, fun h => absurd (allC_iff.2 h.1) h1⟩
theorem rowF_zero {L : Nat} : ∀ (l : List Ev) (k : Nat), rowF L k l = 0 ↔ ∀ j (h : j < l.length), lineF L (k + j) l[j] = 0
  | [], k => by simp [rowF]
  | x :: r, k => by
    have ih := rowF_zero (L := L) r (k + 1)
    rw [rowF]
    by_cases h1 : lineF L k x = 0
    · rw [if_pos h1, ih]
      constructor
      · intro h j hj
        cases j with
        | zero => exact h1
        | succ j =>
          have := h j (by simpa using hj)
          rw [show k + 1 + j = k + (j + 1) by omega] at this
          exact this
      · intro h j hj
        have := h (j + 1) (by simpa using hj)
        rw [show k + (j + 1) = k + 1 + j by omega] at this
        exact this
    · rw [if_neg h1]
      exact ⟨fun h => absurd h h1, fun h => h 0 (by simp)⟩
theorem linesF_zero {L : Nat} : ∀ cs : List (List Ev), linesF L cs = 0 ↔ ∀ l ∈ cs, rowF L 0 l = 0
  | [] => by simp [linesF]
  | l :: r => by
    have ih := linesF_zero (L := L) r
    rw [linesF]
    by_cases h1 : rowF L 0 l = 0
    · rw [if_pos h1, ih]
      exact ⟨fun h l' hl' => by rcases List.mem_cons.1 hl' with rfl | x; exact h1; exact h l' x, fun h l' hl' => h l' (by simp [hl'])⟩
    · rw [if_neg h1]
      exact ⟨fun h => absurd h h1, fun h => h l (by simp)⟩
theorem lines_iff {n L : Nat} {cs : List (List Ev)} (h : Shp7 n L cs) : linesF L cs = 0 ↔ ∀ i, i < n → ∀ k, k < L → lineF L k (ln cs i k) = 0 := by
  rw [linesF_zero]
  constructor
  · intro hh i hi k hk
    have hi' : i < cs.length := by rw [h.1]; exact hi
    have hl := h.2 _ (List.getElem_mem hi')
    have := (rowF_zero _ _).1 (hh _ (List.getElem_mem hi')) k (by omega)
    rw [Nat.zero_add] at this
    rw [ln_get cs i k hi' (by omega)]
    exact this
  · intro hh l hl
    obtain ⟨i, hi, rfl⟩ := List.getElem_of_mem hl
    have hr := h.2 _ (List.getElem_mem hi)
    rw [rowF_zero]
    intro j hj
    have := hh i (by rw [← h.1]; exact hi) j (by omega)
    rw [ln_get cs i j hi hj] at this
    rw [Nat.zero_add]
    exact this
theorem macF_ok {m : Mac} (h : Siz m) (h2 : cellsF m.mem = 0) (h3 : linesF (m.cs.getD 0 []).length m.cs = 0) (h4 : Tog m.cs.length (m.cs.getD 0 []).length m) : macF m = 0 := by unfold macF; rw [if_pos h, if_pos h2, if_pos h3, if_pos h4]
theorem Siz.shp {m : Mac} (h : Siz m) : Shp7 m.cs.length (m.cs.getD 0 []).length m.cs := ⟨rfl, h.2.2.1⟩
theorem GoodM.rows {n L : Nat} {m : Mac} (h : GoodM n L m) : m.cs.length = n ∧ (m.cs.getD 0 []).length = L := ⟨h.shp.1, h.shp.row (by have := h.nL; omega)⟩
theorem macF_good {n L : Nat} {m : Mac} (h : GoodM n L m) (hm : m.mem.length ≤ 32) : macF m = 0 := by
  obtain ⟨e1, e2⟩ := h.rows
  have hn := h.nL
  have hS : Siz m := ⟨by omega, hm, fun l hl => by rw [e2]; exact h.shp.2 l hl, by omega, by omega⟩
  refine macF_ok hS (cellsF_zero.2 ⟨h.ok, h.ris⟩) ?_ ?_
  · rw [e2]; exact (lines_iff h.shp).2 h.line
  · rw [e1, e2]; exact h.tog
theorem ln_new (n L i k : Nat) : ln (newM n L).cs i k = lnZ := by
  unfold ln newM
  simp only [List.getD_eq_getElem?_getD]
  by_cases hi : i < n
  · rw [List.getElem?_replicate, if_pos hi, Option.getD_some, List.getElem?_replicate]
    split <;> rfl
  · rw [List.getElem?_replicate, if_neg hi]
    simp
theorem new_shp (n L : Nat) : Shp7 n L (newM n L).cs := ⟨by simp [newM], fun l hl => by rw [List.eq_of_mem_replicate hl]; simp⟩
theorem new_good {n L : Nat} (h : 1 ≤ n ∧ n ≤ 4 ∧ 1 ≤ L ∧ L ≤ 4) : GoodM n L (newM n L) :=
  ⟨new_shp n L, h, fun c hc => by simp [newM] at hc, rfl, fun i _ k _ => by rw [ln_new]; exact lineF_Z _ _,
    fun i _ k _ => ⟨fun e => by rw [ln_new] at e; simp [lnZ] at e, fun j _ _ e => by rw [ln_new] at e; simp [lnZ] at e⟩⟩
theorem new_has (n L : Nat) (a : Int) : HasV n L (newM n L) a 0 := .inr ⟨fun i k _ _ h => by rw [ln_new] at h; simp [lnZ] at h, rfl⟩
theorem new_src (n L : Nat) : SrcS n L [] (newM n L) := ⟨fun c hc => by simp [newM] at hc, fun i k _ _ h => by rw [ln_new] at h; simp [lnZ] at h⟩
def runL : Mac → List Stp → List Stp × Mac
  | m, [] => ([], m)
  | m, s :: r => (⟨s.c, ⟨s.e.k, s.e.a, (doM m s.c.toNat s.e).2⟩⟩ :: (runL (doM m s.c.toNat s.e).1 r).1, (runL (doM m s.c.toNat s.e).1 r).2)
theorem runL_snoc : ∀ (l : List Stp) (m : Mac) (s : Stp), runL m (l ++ [s]) = ((runL m l).1 ++ [⟨s.c, ⟨s.e.k, s.e.a, (doM (runL m l).2 s.c.toNat s.e).2⟩⟩], (doM (runL m l).2 s.c.toNat s.e).1)
  | [], m, s => rfl
  | x :: r, m, s => by
    have ih := runL_snoc r (doM m x.c.toNat x.e).1 s
    simp only [List.cons_append, runL, ih]
/-- What one memory would do. -/
def flatL : (Int → Int) → List Stp → List Stp
  | _, [] => []
  | V, s :: r => if s.e.k = 1 then s :: flatL (fun b => if b = s.e.a then s.e.v else V b) r else ⟨s.c, ⟨s.e.k, s.e.a, V s.e.a⟩⟩ :: flatL V r
/-- The addresses that are stored to. -/
def stoS : List Int → List Stp → List Int
  | S, [] => S
  | S, s :: r => stoS (if s.e.k = 1 then s.e.a :: S else S) r
theorem stoS_len : ∀ (l : List Stp) (S : List Int), (stoS S l).length ≤ S.length + l.length
  | [], S => by simp [stoS]
  | s :: r, S => by
    have := stoS_len r (if s.e.k = 1 then s.e.a :: S else S)
    rw [stoS, List.length_cons]
    split at this
    · rw [List.length_cons] at this
      rename_i h
      rw [if_pos h]
      omega
    · rename_i h
      rw [if_neg h]
      omega
theorem run_ok {n L : Nat} : ∀ (l : List Stp) (m : Mac) (V : Int → Int) (S : List Int), GoodM n L m → (∀ s ∈ l, (0 ≤ s.c ∧ s.c < (n : Int)) ∧ opF s.e = 0) → (∀ a, HasV n L m a (V a)) → SrcS n L S m →
    (runL m l).1 = flatL V l ∧ GoodM n L (runL m l).2 ∧ SrcS n L (stoS S l) (runL m l).2 ∧ (∀ s ∈ (runL m l).1, evF s.e = 0)
  | [], m, V, S, h, _, _, hS => ⟨rfl, h, hS, fun s hs => by simp [runL] at hs⟩
  | s :: r, m, V, S, h, hl, hV, hS => by
    obtain ⟨hc, ho⟩ := hl s (by simp)
    have hcn : s.c.toNat < n := by omega
    have D := do_ok h hcn ho
    obtain ⟨hkd, ha, hv⟩ := opF_zero ho
    obtain ⟨d, hd⟩ : ∃ d, d = doM m s.c.toNat s.e := ⟨_, rfl⟩
    rw [← hd] at D
    obtain ⟨V', hV'⟩ : ∃ V' : Int → Int, V' = (if s.e.k = 1 then (fun b => if b = s.e.a then s.e.v else V b) else V) := ⟨_, rfl⟩
    have hd2 : d.2 = if s.e.k = 1 then s.e.v else V s.e.a := by
      split
      · rename_i hk; exact D.stored hk
      · rename_i hk
        exact HasV.unique h (D.loaded (by omega)) (hV _)
    have hVV : ∀ a, HasV n L d.1 a (V' a) := fun a => by
      by_cases hk : s.e.k = 1
      · rw [if_pos hk] at hV' hd2
        rw [hV']
        simp only
        by_cases e : a = s.e.a
        · rw [if_pos e, e, ← hd2]; exact D.here
        · rw [if_neg e]; exact D.other a _ e (hV a)
      · rw [if_neg hk] at hV' hd2
        rw [hV']
        by_cases e : a = s.e.a
        · rw [e, ← hd2]; exact D.here
        · exact D.other a _ e (hV a)
    obtain ⟨i1, i2, i3, i4⟩ := run_ok r d.1 V' (if s.e.k = 1 then s.e.a :: S else S) D.good (fun x hx => hl x (by simp [hx])) hVV (D.src S hS)
    have hb := HasV.bound D.good D.here
    refine ⟨?_, ?_, ?_, ?_⟩
    · simp only [runL, ← hd, i1, flatL]
      by_cases hk : s.e.k = 1
      · rw [if_pos hk] at hV' hd2
        rw [if_pos hk, hV', hd2]
      · rw [if_neg hk] at hV' hd2
        rw [if_neg hk, hV', hd2]
    · simp only [runL, ← hd]; exact i2
    · simp only [runL, ← hd, stoS]; exact i3
    · intro x hx
      simp only [runL, ← hd] at hx
      rcases List.mem_cons.1 hx with rfl | hx
      · exact evF_ok (by simp only; omega) ⟨ha.1, ha.2, hb.1, hb.2⟩
      · exact i4 x hx
theorem run_map : ∀ (l : List Stp) (m : Mac), (runL m l).1.map (·.c) = l.map (·.c)
  | [], m => rfl
  | s :: r, m => by simp only [runL, List.map_cons, run_map r]
theorem run_len (l : List Stp) (m : Mac) : (runL m l).1.length = l.length := by
  have := congrArg List.length (run_map l m)
  simpa using this
theorem run_cnt (j : Int) : ∀ (l : List Stp) (m : Mac), cntL (runL m l).1 j = cntL l j
  | [], m => rfl
  | s :: r, m => by simp only [runL, cntL, run_cnt j r]
/-- A rising memory has no more cells than there are addresses. -/
theorem rise_len : ∀ (l : List Cel) (S : List Int), rise l = true → (∀ c ∈ l, c.a ∈ S) → l.length ≤ S.length
  | [], S, _, _ => Nat.zero_le _
  | c :: r, S, h, hS => by
    have hc := hS c (by simp)
    have hlt := rise_lt h
    have ih := rise_len r (S.erase c.a) (rise_tail h) fun d hd => (List.mem_erase_of_ne (by have := hlt d hd; omega)).2 (hS d (by simp [hd]))
    rw [List.length_erase_of_mem hc] at ih
    have := List.length_pos_of_mem hc
    rw [List.length_cons]
    omega
theorem opF_ev {o : Ev} (h : opF o = 0) : evF o = 0 := by
  obtain ⟨a, b, c⟩ := opF_zero h
  exact evF_ok (by omega) ⟨b.1, b.2, c.1, c.2⟩
theorem opsF_all : ∀ {l : List Ev}, opsF l = 0 → ∀ o ∈ l, opF o = 0
  | [], _, o, ho => by simp at ho
  | x :: r, h, o, ho => by
    rw [opsF] at h
    by_cases h1 : opF x = 0
    · rw [if_pos h1] at h
      rcases List.mem_cons.1 ho with rfl | ho
      · exact h1
      · exact opsF_all h o ho
    · rw [if_neg h1] at h; exact absurd h h1
theorem prF_zero {l : List Ev} (h : prF l = 0) : l.length ≤ 8 ∧ ∀ o ∈ l, opF o = 0 := by
  unfold prF at h
  by_cases h1 : l.length ≤ 8
  · rw [if_pos h1] at h; exact ⟨h1, opsF_all h⟩
  · rw [if_neg h1] at h; omega
theorem prsF_all : ∀ {t : List (List Ev)}, prsF t = 0 → ∀ l ∈ t, prF l = 0
  | [], _, l, hl => by simp at hl
  | x :: r, h, l, hl => by
    rw [prsF] at h
    by_cases h1 : prF x = 0
    · rw [if_pos h1] at h
      rcases List.mem_cons.1 hl with rfl | hl
      · exact h1
      · exact prsF_all h l hl
    · rw [if_neg h1] at h; exact absurd h h1
theorem pgF_zero {t : List (List Ev)} (h : pgF t = 0) : (1 ≤ t.length ∧ t.length ≤ 4) ∧ ∀ l ∈ t, l.length ≤ 8 ∧ ∀ o ∈ l, opF o = 0 := by
  unfold pgF at h
  by_cases h1 : 1 ≤ t.length ∧ t.length ≤ 4
  · rw [if_pos h1] at h; exact ⟨h1, fun l hl => prF_zero (prsF_all h l hl)⟩
  · rw [if_neg h1] at h; omega
theorem evsF_of : ∀ {l : List Ev}, (∀ e ∈ l, evF e = 0) → evsF l = 0
  | [], _ => rfl
  | x :: r, h => by rw [evsF, if_pos (h x (by simp))]; exact evsF_of fun e he => h e (by simp [he])
theorem stsF_of : ∀ {t : List (List Ev)}, (∀ l ∈ t, stF l = 0) → stsF t = 0
  | [], _ => rfl
  | x :: r, h => by rw [stsF, if_pos (h x (by simp))]; exact stsF_of fun e he => h e (by simp [he])
theorem pgF_tr {t : List (List Ev)} (h : pgF t = 0) : trF t = 0 := by
  obtain ⟨h1, h2⟩ := pgF_zero h
  unfold trF
  rw [if_pos h1]
  refine stsF_of fun l hl => ?_
  obtain ⟨a, b⟩ := h2 l hl
  unfold stF
  rw [if_pos a]
  exact evsF_of fun e he => opF_ev (b e he)
def simC (t : List (List Ev)) (L : Int) (picks : List Int) : Int := if pgF t = 0 then (if 1 ≤ L ∧ L ≤ 4 then (if picks.length ≤ 100 then 0 else 2) else 3) else pgF t
def simL (t : List (List Ev)) (L : Int) (picks : List Int) : List Stp × Mac := runL (newM t.length L.toNat) (logO t (ordF t picks))
theorem simC_zero {t : List (List Ev)} {L : Int} {picks : List Int} (h : simC t L picks = 0) : pgF t = 0 ∧ (1 ≤ L ∧ L ≤ 4) ∧ picks.length ≤ 100 := by
  unfold simC at h
  by_cases h1 : pgF t = 0
  · rw [if_pos h1] at h
    by_cases h2 : 1 ≤ L ∧ L ≤ 4
    · rw [if_pos h2] at h
      by_cases h3 : picks.length ≤ 100
      · exact ⟨h1, h2, h3⟩
      · rw [if_neg h3] at h; omega
    · rw [if_neg h2] at h; omega
  · rw [if_neg h1] at h; exact absurd h h1
theorem simC_ok {t : List (List Ev)} {L : Int} {picks : List Int} (h1 : pgF t = 0) (h2 : 1 ≤ L ∧ L ≤ 4) (h3 : picks.length ≤ 100) : simC t L picks = 0 := by unfold simC; rw [if_pos h1, if_pos h2, if_pos h3]
/-- A machine does what one memory would do; its log and itself have no fault. -/
theorem sim_ok {t : List (List Ev)} {L : Int} {picks : List Int} (h : pgF t = 0) (hL : 1 ≤ L ∧ L ≤ 4) :
    (simL t L picks).1 = flatL (fun _ => 0) (logO t (ordF t picks)) ∧ GoodM t.length L.toNat (simL t L picks).2 ∧ macF (simL t L picks).2 = 0 ∧ logF (simL t L picks).1 (t.length : Int) = 0 := by
  obtain ⟨h1, h2⟩ := pgF_zero h
  have hF := logF_logO (picks := picks) (pgF_tr h)
  obtain ⟨f1, f2, f3, f4⟩ := logF_zero hF
  have hall : ∀ s ∈ logO t (ordF t picks), (0 ≤ s.c ∧ s.c < (t.length : Int)) ∧ opF s.e = 0 := fun s hs => by
    obtain ⟨a, l, hl, he⟩ := logO_mem (ordF_ok t picks) hs
    exact ⟨a, (h2 l hl).2 _ he⟩
  obtain ⟨r1, r2, r3, r4⟩ := run_ok (n := t.length) (L := L.toNat) (logO t (ordF t picks)) (newM t.length L.toNat) (fun _ => 0) [] (new_good (by omega)) hall (new_has _ _) (new_src _ _)
  unfold simL
  refine ⟨r1, r2, macF_good r2 ?_, logF_few f1 (by rw [run_len]; exact f2) (logG_of fun s hs => ⟨?_, r4 s hs⟩) ?_⟩
  · have e1 := rise_len _ _ r2.ris r3.1
    have e2 := stoS_len (logO t (ordF t picks)) []
    simp only [List.length_nil] at e2
    omega
  · have hm : s.c ∈ (runL (newM t.length L.toNat) (logO t (ordF t picks))).1.map (·.c) := List.mem_map_of_mem hs
    rw [run_map] at hm
    obtain ⟨x, hx, e⟩ := List.mem_map.1 hm
    have := (hall x hx).1
    omega
  · obtain ⟨g0, g1, g2, g3⟩ := f4
    exact ⟨by rw [run_cnt]; exact g0, by rw [run_cnt]; exact g1, by rw [run_cnt]; exact g2, by rw [run_cnt]; exact g3⟩
end Go.Proofs.YtnnfkmjhaljplaaGreat
namespace Go.Proofs.YtnnfkmjhaljplaaGreat
theorem backL_high {a v : Int} : ∀ (l : List Cel) (d : Bool), (∀ c ∈ l, a < c.a) → backL a v d l = (if d = true then [] else [⟨a, v⟩]) ++ l
  | [], d, _ => by cases d <;> rfl
  | c :: r, d, h => by
    have h1 := h c (by simp)
    have ih := backL_high r true (fun x hx => h x (by simp [hx])) (v := v)
    rw [backL, show (d || decide (a < c.a)) = true by simp [h1], ih]
    have h2 : c.a ≠ a := by omega
    cases d <;> simp [h1, h2]
theorem backL_low {a v : Int} : ∀ (p s : List Cel) (d : Bool), (∀ c ∈ p, c.a < a) → backL a v d (p ++ s) = p ++ backL a v d s
  | [], s, d, _ => rfl
  | c :: r, s, d, h => by
    have h1 := h c (by simp)
    have ih := backL_low r s d (fun x hx => h x (by simp [hx])) (v := v)
    have h2 : ¬ a < c.a := by omega
    have h3 : c.a ≠ a := by omega
    rw [List.cons_append, backL, show (d || decide (a < c.a)) = d by simp [h2], ih]
    simp [h2, h3]
/-- A cell put in at place i, where one with its address (f) is taken out. -/
def putAt (mem : List Cel) (i : Nat) (f : Bool) (a v : Int) : List Cel := mem.take i ++ ((if v = 0 then [] else [⟨a, v⟩]) ++ mem.drop (if f = true then i + 1 else i))
theorem rise_dropP : ∀ (i : Nat) {l : List Cel}, rise l = true → rise (l.drop i) = true
  | 0, l, h => by simpa using h
  | i + 1, [], h => by simpa using h
  | i + 1, c :: r, h => by simpa using rise_dropP i (rise_tail h)
theorem putAt_back {mem : List Cel} {a v : Int} {i : Nat} {f : Bool} (hr : rise mem = true) (hlo : ∀ c ∈ mem.take i, c.a < a) (hhi : ∀ c ∈ mem.drop i, a ≤ c.a) (hf : f = true ↔ ∃ c, mem[i]? = some c ∧ c.a = a) : putAt mem i f a v = backM mem a v := by
  unfold putAt backM
  have hrd := rise_dropP i hr
  have e0 : mem[i]? = (mem.drop i)[0]? := by simp
  have e1 : mem.drop (if f = true then i + 1 else i) = if f = true then (mem.drop i).drop 1 else mem.drop i := by cases f <;> simp
  have e2 : backL a v (decide (v = 0)) mem = mem.take i ++ backL a v (decide (v = 0)) (mem.drop i) := by
    rw [← backL_low _ _ _ hlo, List.take_append_drop]
  rw [e2]
  congr 1
  rw [e1]
  rw [e0] at hf
  clear e0 e1 e2 hr hlo
  generalize mem.drop i = s at *
  cases s with
  | nil =>
    have hff : f = false := by
      cases f
      · rfl
      · obtain ⟨c, hc, _⟩ := hf.1 rfl
        simp at hc
    subst hff
    by_cases hv : v = 0
    · subst hv; rfl
    · rw [show (decide (v = 0)) = false by simp [hv]]; simp [backL, hv]
  | cons c r =>
    have hc := hhi c (by simp)
    have hlt := rise_lt hrd
    by_cases hca : c.a = a
    · have hft : f = true := hf.2 ⟨c, by simp, hca⟩
      subst hft
      rw [backL]
      have hn : ¬ a < c.a := by omega
      have hh := backL_high r (decide (v = 0)) (fun x hx => by have := hlt x hx; omega) (a := a) (v := v)
      rw [show (decide (v = 0) || decide (a < c.a)) = decide (v = 0) by simp [hn], hh]
      by_cases hv : v = 0 <;> simp [hca, hv]
    · have hff : f = false := by
        cases f
        · rfl
        · obtain ⟨d, hd, hda⟩ := hf.1 rfl
          simp at hd
          rw [hd] at hca
          exact absurd hda hca
      subst hff
      have hh := backL_high (c :: r) (decide (v = 0)) (fun x hx => by
        rcases List.mem_cons.1 hx with rfl | hx
        · omega
        · have := hlt x hx; omega) (a := a) (v := v)
      rw [hh]
      by_cases hv : v = 0 <;> simp [hv]
theorem rise_bound : ∀ (l : List Cel) (lo : Int), rise l = true → (∀ c ∈ l, lo ≤ c.a ∧ c.a ≤ 999999) → lo ≤ 1000000 → (l.length : Int) ≤ 1000000 - lo
  | [], lo, _, _, h => by simp; omega
  | c :: r, lo, hr, hb, h => by
    have h1 := hb c (by simp)
    have h2 := rise_lt hr
    have := rise_bound r (lo + 1) (rise_tail hr) (fun d hd => ⟨by have := h2 d hd; omega, (hb d (by simp [hd])).2⟩) (by omega)
    simp only [List.length_cons]
    omega
theorem GoodM.memLen {n L : Nat} {m : Mac} (h : GoodM n L m) : m.mem.length ≤ 1000000 := by
  have := rise_bound m.mem 0 h.ris (fun c hc => by have := h.ok c hc; unfold celOk at this; omega) (by omega)
  omega
/-- Core c's line at place k is let go. -/
def letM (c k : Nat) (m : Mac) : Mac := ⟨setL m.cs c k lnZ, if (ln m.cs c k).k = 2 then backM m.mem (ln m.cs c k).a (ln m.cs c k).v else m.mem⟩
/-- Core i's line at place k, of this address, is shared. -/
def shaM (k : Nat) (a : Int) (m : Mac) (i : Nat) : Mac := if (ln m.cs i k).k = 2 ∧ (ln m.cs i k).a = a then ⟨setL m.cs i k ⟨1, (ln m.cs i k).a, (ln m.cs i k).v⟩, backM m.mem (ln m.cs i k).a (ln m.cs i k).v⟩ else m
def isM (a : Int) (x : Ev) : Prop := x.k ≠ 0 ∧ x.a = a
instance (a : Int) (x : Ev) : Decidable (isM a x) := by unfold isM; infer_instance
def dropM (k : Nat) (a : Int) (m : Mac) (i : Nat) : Mac := if isM a (ln m.cs i k) then letM i k m else m
def ownM (c k : Nat) (a : Int) (m : Mac) : Mac := if isM a (ln m.cs c k) then m else letM c k m
def shareAll (k : Nat) (a : Int) (m : Mac) : Mac := (List.range m.cs.length).foldl (shaM k a) m
def dropAll (k : Nat) (a : Int) (m : Mac) : Mac := (List.range m.cs.length).foldl (dropM k a) m
/-- What load leaves, and what store leaves. -/
def loadM (c k : Nat) (a : Int) (m : Mac) : Mac := if isM a (ln m.cs c k) then m else ⟨setL (shareAll k a m).cs c k ⟨1, a, readM (shareAll k a m).mem a⟩, (shareAll k a m).mem⟩
def storeM (c k : Nat) (a v : Int) (m : Mac) : Mac := ⟨setL (if (ln m.cs c k).k = 2 then m else dropAll k a m).cs c k ⟨2, a, v⟩, (if (ln m.cs c k).k = 2 then m else dropAll k a m).mem⟩
/-- The program's own op. -/
def pDo (m : Mac) (c : Nat) (o : Ev) : Mac × Int :=
  if o.k = 0 then (loadM c (placeOf m c o.a) o.a (ownM c (placeOf m c o.a) o.a m), (ln (loadM c (placeOf m c o.a) o.a (ownM c (placeOf m c o.a) o.a m)).cs c (placeOf m c o.a)).v)
  else (storeM c (placeOf m c o.a) o.a o.v (ownM c (placeOf m c o.a) o.a m), o.v)
section
variable {n L : Nat} {m : Mac}
theorem GoodM.zero (h : GoodM n L m) {i k : Nat} (hi : i < n) (hk : k < L) (h0 : (ln m.cs i k).k = 0) : ln m.cs i k = lnZ := by
  have h1 := (lineF_zero.1 (h.line i hi k hk)).2.1 h0
  generalize ln m.cs i k = x at *
  cases x
  simp only at h0 h1
  obtain ⟨rfl, rfl⟩ := h1
  subst h0
  rfl
theorem GoodM.kind (h : GoodM n L m) {i k : Nat} (hi : i < n) (hk : k < L) : (ln m.cs i k).k = 0 ∨ (ln m.cs i k).k = 1 ∨ (ln m.cs i k).k = 2 := by
  have h1 := (lineF_zero.1 (h.line i hi k hk)).1
  omega
theorem let_ok (h : GoodM n L m) {c k : Nat} (hc : c < n) (hk : k < L) : KeepM n L m (letM c k m) := by
  unfold letM
  by_cases h2 : (ln m.cs c k).k = 2
  · rw [if_pos h2]; exact (h.downK hc hk h2 (.inl rfl)).1
  · rw [if_neg h2]; exact h.dropK hc hk h2
theorem let_ln (h : GoodM n L m) {c k : Nat} (hc : c < n) (hk : k < L) (i' k' : Nat) : ln (letM c k m).cs i' k' = if i' = c ∧ k' = k then lnZ else ln m.cs i' k' := h.shp.ln_set hc hk lnZ i' k'
theorem sha_ok (h : GoodM n L m) {i k : Nat} (hi : i < n) (hk : k < L) (a : Int) : KeepM n L m (shaM k a m i) := by
  unfold shaM
  split
  · next h2 => exact (h.downK hi hk h2.1 (.inr rfl)).1
  · exact KeepM.refl h
theorem drop_ok (h : GoodM n L m) {i k : Nat} (hi : i < n) (hk : k < L) (a : Int) : KeepM n L m (dropM k a m i) := by
  unfold dropM
  split
  · exact let_ok h hi hk
  · exact KeepM.refl h
theorem own_ok (h : GoodM n L m) {c k : Nat} (hc : c < n) (hk : k < L) (a : Int) : KeepM n L m (ownM c k a m) := by
  unfold ownM
  split
  · exact KeepM.refl h
  · exact let_ok h hc hk
theorem own_free (h : GoodM n L m) {c k : Nat} (hc : c < n) (hk : k < L) (a : Int) : ownM c k a m = freeL c k a m := by
  unfold ownM freeL
  by_cases h1 : isM a (ln m.cs c k)
  · rw [if_pos h1]
    exact (if_neg fun h2 => h2.2 h1.2).symm
  · rw [if_neg h1]
    by_cases h0 : (ln m.cs c k).k = 0
    · simp only
      rw [if_neg (fun h2 => h2.1 h0)]
      unfold letM
      rw [if_neg (by omega), setL_same h.shp hc hk (h.zero hc hk h0).symm]
    · simp only
      rw [if_pos ⟨h0, fun e => h1 ⟨h0, e⟩⟩]
      rfl
theorem own_line (h : GoodM n L m) {c k : Nat} (hc : c < n) (hk : k < L) (a : Int) : isM a (ln (ownM c k a m).cs c k) ∨ ln (ownM c k a m).cs c k = lnZ := by
  unfold ownM
  split
  · next h1 => exact .inl h1
  · exact .inr (by rw [let_ln h hc hk, if_pos ⟨rfl, rfl⟩])
/-- Sharing with all is what the others do, where the own line is invalid. -/
theorem share_give {c k : Nat} (hk : k < L) (a : Int) : ∀ (l : List Nat) (m : Mac), GoodM n L m → (∀ i ∈ l, i < n) → (ln m.cs c k).k = 0 → l.foldl (shaM k a) m = l.foldl (giveL c k a false) m
  | [], m, _, _, _ => rfl
  | i :: r, m, h, hl, h0 => by
    have hi := hl i (by simp)
    have e : shaM k a m i = giveL c k a false m i := by
      unfold shaM giveL
      by_cases hic : i = c
      · subst hic
        rw [if_neg (by omega)]
        exact (if_pos (.inl rfl)).symm
      · by_cases h2 : (ln m.cs i k).k = 2 ∧ (ln m.cs i k).a = a
        · rw [if_pos h2]
          simp only
          rw [if_neg (by rintro (e | e | e); exact hic e; omega; exact e h2.2), if_neg (by simp), if_pos h2.1]
        · rw [if_neg h2]
          simp only
          by_cases h3 : i = c ∨ (ln m.cs i k).k = 0 ∨ (ln m.cs i k).a ≠ a
          · rw [if_pos h3]
          · rw [if_neg h3, if_neg (by simp)]
            have h1 : (ln m.cs i k).k = 1 := by
              rcases h.kind hi hk with e | e | e
              · exact absurd (.inr (.inl e)) h3
              · exact e
              · refine absurd ⟨e, ?_⟩ h2
                by_cases ha : (ln m.cs i k).a = a
                · exact ha
                · exact absurd (.inr (.inr ha)) h3
            rw [if_neg (by omega), setL_same h.shp hi hk (by rw [← h1])]
    rw [List.foldl_cons, List.foldl_cons, e]
    obtain ⟨g1, g2, g3, _⟩ := give_ok h (c := c) hi hk a false
    refine share_give hk a r _ g1.good (fun j hj => hl j (by simp [hj])) ?_
    by_cases hic : i = c
    · rw [g3 hic]; exact h0
    · rw [g2 c k (fun e => hic e.1.symm)]; exact h0
theorem setL_setL (cs : List (List Ev)) (i k : Nat) (x y : Ev) (hi : i < cs.length) : setL (setL cs i k x) i k y = setL cs i k y := by
  unfold setL
  rw [show (cs.set i ((cs.getD i []).set k x)).getD i [] = (cs.getD i []).set k x by rw [List.getD_eq_getElem?_getD, List.getElem?_set_self hi]; rfl]
  rw [List.set_set, List.set_set]
theorem setL_comm (cs : List (List Ev)) (i j k : Nat) (x y : Ev) (hij : i ≠ j) : setL (setL cs i k x) j k y = setL (setL cs j k y) i k x := by
  unfold setL
  rw [show (cs.set i ((cs.getD i []).set k x)).getD j [] = cs.getD j [] by rw [List.getD_eq_getElem?_getD, List.getElem?_set_ne hij, ← List.getD_eq_getElem?_getD]]
  rw [show (cs.set j ((cs.getD j []).set k y)).getD i [] = cs.getD i [] by rw [List.getD_eq_getElem?_getD, List.getElem?_set_ne (fun e => hij e.symm), ← List.getD_eq_getElem?_getD]]
  exact List.set_comm _ _ (by exact hij)
/-- Letting go all is what the others do, but for the own line, which is filled anew. -/
theorem drop_give {c k : Nat} (hc : c < n) (hk : k < L) (a : Int) : ∀ (l : List Nat) (m m' : Mac) (z : Ev), GoodM n L m' → (∀ i ∈ l, i < n) → (ln m'.cs c k).k ≠ 2 → z.k ≠ 2 → m.mem = m'.mem → m.cs = setL m'.cs c k z →
    (l.foldl (dropM k a) m).mem = (l.foldl (giveL c k a true) m').mem ∧ ∃ z', (l.foldl (dropM k a) m).cs = setL (l.foldl (giveL c k a true) m').cs c k z'
  | [], m, m', z, _, _, _, _, e1, e2 => ⟨e1, z, e2⟩
  | i :: r, m, m', z, h, hl, h2, hz, e1, e2 => by
    have hi := hl i (by simp)
    have hcl : c < m'.cs.length := by rw [h.shp.1]; exact hc
    rw [List.foldl_cons, List.foldl_cons]
    obtain ⟨g1, g2, g3, _⟩ := give_ok h (c := c) hi hk a true
    have hL : ∀ i' k', ln m.cs i' k' = if i' = c ∧ k' = k then z else ln m'.cs i' k' := fun i' k' => by rw [e2]; exact h.shp.ln_set hc hk z i' k'
    have key : (dropM k a m i).mem = (giveL c k a true m' i).mem ∧ ∃ z', z'.k ≠ 2 ∧ (dropM k a m i).cs = setL (giveL c k a true m' i).cs c k z' := by
      by_cases hic : i = c
      · subst hic
        rw [g3 rfl]
        have hz' : ln m.cs i k = z := by rw [hL, if_pos ⟨rfl, rfl⟩]
        unfold dropM
        by_cases hm : isM a (ln m.cs i k)
        · rw [if_pos hm]
          unfold letM
          rw [hz', if_neg hz]
          refine ⟨e1, lnZ, by simp [lnZ], ?_⟩
          simp only
          rw [e2, setL_setL _ _ _ _ _ hcl]
        · rw [if_neg hm]; exact ⟨e1, z, hz, e2⟩
      · have hx : ln m.cs i k = ln m'.cs i k := by rw [hL, if_neg (fun e => hic e.1)]
        unfold dropM giveL
        simp only
        rw [hx]
        by_cases hm : isM a (ln m'.cs i k)
        · rw [if_pos hm, if_neg (by rintro (e | e | e); exact hic e; exact hm.1 e; exact e hm.2), if_pos trivial]
          unfold letM
          simp only
          rw [hx, e1]
          exact ⟨rfl, z, hz, by rw [e2, setL_comm _ _ _ _ _ _ (fun e => hic e.symm)]⟩
        · rw [if_neg hm, if_pos (by
            by_cases h0 : (ln m'.cs i k).k = 0
            · exact .inr (.inl h0)
            · exact .inr (.inr fun e => hm ⟨h0, e⟩))]
          exact ⟨e1, z, hz, e2⟩
    obtain ⟨k1, z', k2, k3⟩ := key
    refine drop_give hc hk a r _ _ z' g1.good (fun j hj => hl j (by simp [hj])) ?_ k2 k1 k3
    by_cases hic : i = c
    · rw [g3 hic]; exact h2
    · rw [g2 c k (fun e => hic e.1.symm)]; exact h2
theorem GoodM.rg (h : GoodM n L m) : ∀ i ∈ List.range m.cs.length, i < n := fun i hi => by rw [List.mem_range, h.shp.1] at hi; exact hi
theorem pDo_eq (h : GoodM n L m) {c : Nat} (hc : c < n) {o : Ev} (ho : opF o = 0) : pDo m c o = doM m c o := by
  obtain ⟨hkd, ha, hv⟩ := opF_zero ho
  obtain ⟨hk, hp⟩ := place_ok h hc (a := o.a)
  unfold pDo doM
  obtain ⟨k, hkk⟩ : ∃ k, k = placeOf m c o.a := ⟨_, rfl⟩
  rw [← hkk] at hk ⊢
  dsimp only
  have K1 := own_ok h hc hk o.a
  have hline := own_line h hc hk o.a
  rw [own_free h hc hk] at K1 hline ⊢
  generalize freeL c k o.a m = m1 at *
  have h1 := K1.good
  by_cases hok : o.k = 0
  · rw [if_pos hok, if_neg (by omega : ¬ o.k = 1)]
    unfold loadM
    by_cases hm : isM o.a (ln m1.cs c k)
    · rw [if_pos hm, if_neg hm.1]
    · have hz : ln m1.cs c k = lnZ := by rcases hline with e | e; exact absurd e hm; exact e
      rw [if_neg hm, if_pos (by rw [hz]; rfl)]
      have e : shareAll k o.a m1 = others c k o.a false m1 := share_give hk o.a _ m1 h1 h1.rg (by rw [hz]; rfl)
      rw [e]
      have G := (others_ok h1 (c := c) hk o.a false).1.good
      simp only
      rw [G.shp.ln_set hc hk, if_pos ⟨rfl, rfl⟩]
  · rw [if_neg hok, if_pos (by omega : o.k = 1)]
    unfold storeM
    by_cases h2 : (ln m1.cs c k).k = 2
    · rw [if_pos h2, if_pos h2]
    · rw [if_neg h2, if_neg h2]
      obtain ⟨d1, z', d2⟩ := drop_give hc hk o.a (List.range m1.cs.length) m1 m1 (ln m1.cs c k) h1 h1.rg h2 h2 rfl (setL_same h1.shp hc hk rfl).symm
      have e : dropAll k o.a m1 = (List.range m1.cs.length).foldl (dropM k o.a) m1 := rfl
      rw [e]
      unfold others
      rw [d1, d2]
      have G := (others_ok h1 (c := c) hk o.a true).1.good
      unfold others at G
      rw [setL_setL _ _ _ _ _ (by rw [G.shp.1]; exact hc)]
end
/-- The machine stays right all through. -/
theorem shareAll_ok {n L k : Nat} (hk : k < L) (a : Int) : ∀ (l : List Nat) (m : Mac), GoodM n L m → (∀ i ∈ l, i < n) → KeepM n L m (l.foldl (shaM k a) m)
  | [], m, h, _ => KeepM.refl h
  | i :: r, m, h, hl => by
    have h1 := sha_ok h (hl i (by simp)) hk a
    exact h1.trans (shareAll_ok hk a r _ h1.good fun j hj => hl j (by simp [hj]))
theorem dropAll_ok {n L k : Nat} (hk : k < L) (a : Int) : ∀ (l : List Nat) (m : Mac), GoodM n L m → (∀ i ∈ l, i < n) → KeepM n L m (l.foldl (dropM k a) m)
  | [], m, h, _ => KeepM.refl h
  | i :: r, m, h, hl => by
    have h1 := drop_ok h (hl i (by simp)) hk a
    exact h1.trans (dropAll_ok hk a r _ h1.good fun j hj => hl j (by simp [hj]))
end Go.Proofs.YtnnfkmjhaljplaaGreat
namespace Go.Proofs.YtnnfkmjhaljplaaGreat
end Go.Proofs.YtnnfkmjhaljplaaGreat
