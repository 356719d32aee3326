/- Plain mathematics of chapter 7: the program's own steps on a machine come to the document's. No program is named here. -/
import Derived.Test.YtifijhfeeammkaaMsi4
namespace Go.Proofs.Ytifijhfeeammkaa

theorem backL_high {a v : Int} : ∀ (l : List Cel) (d : Bool), (∀ c ∈ l, a < c.a) → backL a v d l = (if d = true then [] else [⟨a, v⟩]) ++ l
  | [], d, _ => by cases d <;> rfl
  | c :: r, d, h => by
    have h1 := h c (by simp)
    have ih := backL_high r true (fun x hx => h x (by simp [hx])) (v := v)
    rw [backL, show (d || decide (a < c.a)) = true by simp [h1], ih]
    have h2 : c.a ≠ a := by omega
    cases d <;> simp [h1, h2]
theorem backL_low {a v : Int} : ∀ (p s : List Cel) (d : Bool), (∀ c ∈ p, c.a < a) → backL a v d (p ++ s) = p ++ backL a v d s
  | [], s, d, _ => rfl
  | c :: r, s, d, h => by
    have h1 := h c (by simp)
    have ih := backL_low r s d (fun x hx => h x (by simp [hx])) (v := v)
    have h2 : ¬ a < c.a := by omega
    have h3 : c.a ≠ a := by omega
    rw [List.cons_append, backL, show (d || decide (a < c.a)) = d by simp [h2], ih]
    simp [h2, h3]
/-- A cell put in at place i, where one with its address (f) is taken out. -/
def putAt (mem : List Cel) (i : Nat) (f : Bool) (a v : Int) : List Cel := mem.take i ++ ((if v = 0 then [] else [⟨a, v⟩]) ++ mem.drop (if f = true then i + 1 else i))
theorem rise_dropP : ∀ (i : Nat) {l : List Cel}, rise l = true → rise (l.drop i) = true
  | 0, l, h => by simpa using h
  | i + 1, [], h => by simpa using h
  | i + 1, c :: r, h => by simpa using rise_dropP i (rise_tail h)
theorem putAt_back {mem : List Cel} {a v : Int} {i : Nat} {f : Bool} (hr : rise mem = true) (hlo : ∀ c ∈ mem.take i, c.a < a) (hhi : ∀ c ∈ mem.drop i, a ≤ c.a) (hf : f = true ↔ ∃ c, mem[i]? = some c ∧ c.a = a) : putAt mem i f a v = backM mem a v := by
  unfold putAt backM
  have hrd := rise_dropP i hr
  have e0 : mem[i]? = (mem.drop i)[0]? := by simp
  have e1 : mem.drop (if f = true then i + 1 else i) = if f = true then (mem.drop i).drop 1 else mem.drop i := by cases f <;> simp
  have e2 : backL a v (decide (v = 0)) mem = mem.take i ++ backL a v (decide (v = 0)) (mem.drop i) := by
    rw [← backL_low _ _ _ hlo, List.take_append_drop]
  rw [e2]
  congr 1
  rw [e1]
  rw [e0] at hf
  clear e0 e1 e2 hr hlo
  generalize mem.drop i = s at *
  cases s with
  | nil =>
    have hff : f = false := by
      cases f
      · rfl
      · obtain ⟨c, hc, _⟩ := hf.1 rfl
        simp at hc
    subst hff
    by_cases hv : v = 0
    · subst hv; rfl
    · rw [show (decide (v = 0)) = false by simp [hv]]; simp [backL, hv]
  | cons c r =>
    have hc := hhi c (by simp)
    have hlt := rise_lt hrd
    by_cases hca : c.a = a
    · have hft : f = true := hf.2 ⟨c, by simp, hca⟩
      subst hft
      rw [backL]
      have hn : ¬ a < c.a := by omega
      have hh := backL_high r (decide (v = 0)) (fun x hx => by have := hlt x hx; omega) (a := a) (v := v)
      rw [show (decide (v = 0) || decide (a < c.a)) = decide (v = 0) by simp [hn], hh]
      by_cases hv : v = 0 <;> simp [hca, hv]
    · have hff : f = false := by
        cases f
        · rfl
        · obtain ⟨d, hd, hda⟩ := hf.1 rfl
          simp at hd
          rw [hd] at hca
          exact absurd hda hca
      subst hff
      have hh := backL_high (c :: r) (decide (v = 0)) (fun x hx => by
        rcases List.mem_cons.1 hx with rfl | hx
        · omega
        · have := hlt x hx; omega) (a := a) (v := v)
      rw [hh]
      by_cases hv : v = 0 <;> simp [hv]
theorem rise_bound : ∀ (l : List Cel) (lo : Int), rise l = true → (∀ c ∈ l, lo ≤ c.a ∧ c.a ≤ 999999) → lo ≤ 1000000 → (l.length : Int) ≤ 1000000 - lo
  | [], lo, _, _, h => by simp; omega
  | c :: r, lo, hr, hb, h => by
    have h1 := hb c (by simp)
    have h2 := rise_lt hr
    have := rise_bound r (lo + 1) (rise_tail hr) (fun d hd => ⟨by have := h2 d hd; omega, (hb d (by simp [hd])).2⟩) (by omega)
    simp only [List.length_cons]
    omega
theorem GoodM.memLen {n L : Nat} {m : Mac} (h : GoodM n L m) : m.mem.length ≤ 1000000 := by
  have := rise_bound m.mem 0 h.ris (fun c hc => by have := h.ok c hc; unfold celOk at this; omega) (by omega)
  omega

/-- Core c's line at place k is let go. -/
def letM (c k : Nat) (m : Mac) : Mac := ⟨setL m.cs c k lnZ, if (ln m.cs c k).k = 2 then backM m.mem (ln m.cs c k).a (ln m.cs c k).v else m.mem⟩
/-- Core i's line at place k, of this address, is shared. -/
def shaM (k : Nat) (a : Int) (m : Mac) (i : Nat) : Mac := if (ln m.cs i k).k = 2 ∧ (ln m.cs i k).a = a then ⟨setL m.cs i k ⟨1, (ln m.cs i k).a, (ln m.cs i k).v⟩, backM m.mem (ln m.cs i k).a (ln m.cs i k).v⟩ else m
def isM (a : Int) (x : Ev) : Prop := x.k ≠ 0 ∧ x.a = a
instance (a : Int) (x : Ev) : Decidable (isM a x) := by unfold isM; infer_instance
def dropM (k : Nat) (a : Int) (m : Mac) (i : Nat) : Mac := if isM a (ln m.cs i k) then letM i k m else m
def ownM (c k : Nat) (a : Int) (m : Mac) : Mac := if isM a (ln m.cs c k) then m else letM c k m
def shareAll (k : Nat) (a : Int) (m : Mac) : Mac := (List.range m.cs.length).foldl (shaM k a) m
def dropAll (k : Nat) (a : Int) (m : Mac) : Mac := (List.range m.cs.length).foldl (dropM k a) m
/-- What load leaves, and what store leaves. -/
def loadM (c k : Nat) (a : Int) (m : Mac) : Mac := if isM a (ln m.cs c k) then m else ⟨setL (shareAll k a m).cs c k ⟨1, a, readM (shareAll k a m).mem a⟩, (shareAll k a m).mem⟩
def storeM (c k : Nat) (a v : Int) (m : Mac) : Mac := ⟨setL (if (ln m.cs c k).k = 2 then m else dropAll k a m).cs c k ⟨2, a, v⟩, (if (ln m.cs c k).k = 2 then m else dropAll k a m).mem⟩
/-- The program's own op. -/
def pDo (m : Mac) (c : Nat) (o : Ev) : Mac × Int :=
  if o.k = 0 then (loadM c (placeOf m c o.a) o.a (ownM c (placeOf m c o.a) o.a m), (ln (loadM c (placeOf m c o.a) o.a (ownM c (placeOf m c o.a) o.a m)).cs c (placeOf m c o.a)).v)
  else (storeM c (placeOf m c o.a) o.a o.v (ownM c (placeOf m c o.a) o.a m), o.v)
section
variable {n L : Nat} {m : Mac}
theorem GoodM.zero (h : GoodM n L m) {i k : Nat} (hi : i < n) (hk : k < L) (h0 : (ln m.cs i k).k = 0) : ln m.cs i k = lnZ := by
  have h1 := (lineF_zero.1 (h.line i hi k hk)).2.1 h0
  generalize ln m.cs i k = x at *
  cases x
  simp only at h0 h1
  obtain ⟨rfl, rfl⟩ := h1
  subst h0
  rfl
theorem GoodM.kind (h : GoodM n L m) {i k : Nat} (hi : i < n) (hk : k < L) : (ln m.cs i k).k = 0 ∨ (ln m.cs i k).k = 1 ∨ (ln m.cs i k).k = 2 := by
  have h1 := (lineF_zero.1 (h.line i hi k hk)).1
  omega
theorem let_ok (h : GoodM n L m) {c k : Nat} (hc : c < n) (hk : k < L) : KeepM n L m (letM c k m) := by
  unfold letM
  by_cases h2 : (ln m.cs c k).k = 2
  · rw [if_pos h2]; exact (h.downK hc hk h2 (.inl rfl)).1
  · rw [if_neg h2]; exact h.dropK hc hk h2
theorem let_ln (h : GoodM n L m) {c k : Nat} (hc : c < n) (hk : k < L) (i' k' : Nat) : ln (letM c k m).cs i' k' = if i' = c ∧ k' = k then lnZ else ln m.cs i' k' := h.shp.ln_set hc hk lnZ i' k'
theorem sha_ok (h : GoodM n L m) {i k : Nat} (hi : i < n) (hk : k < L) (a : Int) : KeepM n L m (shaM k a m i) := by
  unfold shaM
  split
  · next h2 => exact (h.downK hi hk h2.1 (.inr rfl)).1
  · exact KeepM.refl h
theorem drop_ok (h : GoodM n L m) {i k : Nat} (hi : i < n) (hk : k < L) (a : Int) : KeepM n L m (dropM k a m i) := by
  unfold dropM
  split
  · exact let_ok h hi hk
  · exact KeepM.refl h
theorem own_ok (h : GoodM n L m) {c k : Nat} (hc : c < n) (hk : k < L) (a : Int) : KeepM n L m (ownM c k a m) := by
  unfold ownM
  split
  · exact KeepM.refl h
  · exact let_ok h hc hk
theorem own_free (h : GoodM n L m) {c k : Nat} (hc : c < n) (hk : k < L) (a : Int) : ownM c k a m = freeL c k a m := by
  unfold ownM freeL
  by_cases h1 : isM a (ln m.cs c k)
  · rw [if_pos h1]
    exact (if_neg fun h2 => h2.2 h1.2).symm
  · rw [if_neg h1]
    by_cases h0 : (ln m.cs c k).k = 0
    · simp only
      rw [if_neg (fun h2 => h2.1 h0)]
      unfold letM
      rw [if_neg (by omega), setL_same h.shp hc hk (h.zero hc hk h0).symm]
    · simp only
      rw [if_pos ⟨h0, fun e => h1 ⟨h0, e⟩⟩]
      rfl
theorem own_line (h : GoodM n L m) {c k : Nat} (hc : c < n) (hk : k < L) (a : Int) : isM a (ln (ownM c k a m).cs c k) ∨ ln (ownM c k a m).cs c k = lnZ := by
  unfold ownM
  split
  · next h1 => exact .inl h1
  · exact .inr (by rw [let_ln h hc hk, if_pos ⟨rfl, rfl⟩])
/-- Sharing with all is what the others do, where the own line is invalid. -/
theorem share_give {c k : Nat} (hk : k < L) (a : Int) : ∀ (l : List Nat) (m : Mac), GoodM n L m → (∀ i ∈ l, i < n) → (ln m.cs c k).k = 0 → l.foldl (shaM k a) m = l.foldl (giveL c k a false) m
  | [], m, _, _, _ => rfl
  | i :: r, m, h, hl, h0 => by
    have hi := hl i (by simp)
    have e : shaM k a m i = giveL c k a false m i := by
      unfold shaM giveL
      by_cases hic : i = c
      · subst hic
        rw [if_neg (by omega)]
        exact (if_pos (.inl rfl)).symm
      · by_cases h2 : (ln m.cs i k).k = 2 ∧ (ln m.cs i k).a = a
        · rw [if_pos h2]
          simp only
          rw [if_neg (by rintro (e | e | e); exact hic e; omega; exact e h2.2), if_neg (by simp), if_pos h2.1]
        · rw [if_neg h2]
          simp only
          by_cases h3 : i = c ∨ (ln m.cs i k).k = 0 ∨ (ln m.cs i k).a ≠ a
          · rw [if_pos h3]
          · rw [if_neg h3, if_neg (by simp)]
            have h1 : (ln m.cs i k).k = 1 := by
              rcases h.kind hi hk with e | e | e
              · exact absurd (.inr (.inl e)) h3
              · exact e
              · refine absurd ⟨e, ?_⟩ h2
                by_cases ha : (ln m.cs i k).a = a
                · exact ha
                · exact absurd (.inr (.inr ha)) h3
            rw [if_neg (by omega), setL_same h.shp hi hk (by rw [← h1])]
    rw [List.foldl_cons, List.foldl_cons, e]
    obtain ⟨g1, g2, g3, _⟩ := give_ok h (c := c) hi hk a false
    refine share_give hk a r _ g1.good (fun j hj => hl j (by simp [hj])) ?_
    by_cases hic : i = c
    · rw [g3 hic]; exact h0
    · rw [g2 c k (fun e => hic e.1.symm)]; exact h0
theorem setL_setL (cs : List (List Ev)) (i k : Nat) (x y : Ev) (hi : i < cs.length) : setL (setL cs i k x) i k y = setL cs i k y := by
  unfold setL
  rw [show (cs.set i ((cs.getD i []).set k x)).getD i [] = (cs.getD i []).set k x by rw [List.getD_eq_getElem?_getD, List.getElem?_set_self hi]; rfl]
  rw [List.set_set, List.set_set]
theorem setL_comm (cs : List (List Ev)) (i j k : Nat) (x y : Ev) (hij : i ≠ j) : setL (setL cs i k x) j k y = setL (setL cs j k y) i k x := by
  unfold setL
  rw [show (cs.set i ((cs.getD i []).set k x)).getD j [] = cs.getD j [] by rw [List.getD_eq_getElem?_getD, List.getElem?_set_ne hij, ← List.getD_eq_getElem?_getD]]
  rw [show (cs.set j ((cs.getD j []).set k y)).getD i [] = cs.getD i [] by rw [List.getD_eq_getElem?_getD, List.getElem?_set_ne (fun e => hij e.symm), ← List.getD_eq_getElem?_getD]]
  exact List.set_comm _ _ (by exact hij)
/-- Letting go all is what the others do, but for the own line, which is filled anew. -/
theorem drop_give {c k : Nat} (hc : c < n) (hk : k < L) (a : Int) : ∀ (l : List Nat) (m m' : Mac) (z : Ev), GoodM n L m' → (∀ i ∈ l, i < n) → (ln m'.cs c k).k ≠ 2 → z.k ≠ 2 → m.mem = m'.mem → m.cs = setL m'.cs c k z →
    (l.foldl (dropM k a) m).mem = (l.foldl (giveL c k a true) m').mem ∧ ∃ z', (l.foldl (dropM k a) m).cs = setL (l.foldl (giveL c k a true) m').cs c k z'
  | [], m, m', z, _, _, _, _, e1, e2 => ⟨e1, z, e2⟩
  | i :: r, m, m', z, h, hl, h2, hz, e1, e2 => by
    have hi := hl i (by simp)
    have hcl : c < m'.cs.length := by rw [h.shp.1]; exact hc
    rw [List.foldl_cons, List.foldl_cons]
    obtain ⟨g1, g2, g3, _⟩ := give_ok h (c := c) hi hk a true
    have hL : ∀ i' k', ln m.cs i' k' = if i' = c ∧ k' = k then z else ln m'.cs i' k' := fun i' k' => by rw [e2]; exact h.shp.ln_set hc hk z i' k'
    have key : (dropM k a m i).mem = (giveL c k a true m' i).mem ∧ ∃ z', z'.k ≠ 2 ∧ (dropM k a m i).cs = setL (giveL c k a true m' i).cs c k z' := by
      by_cases hic : i = c
      · subst hic
        rw [g3 rfl]
        have hz' : ln m.cs i k = z := by rw [hL, if_pos ⟨rfl, rfl⟩]
        unfold dropM
        by_cases hm : isM a (ln m.cs i k)
        · rw [if_pos hm]
          unfold letM
          rw [hz', if_neg hz]
          refine ⟨e1, lnZ, by simp [lnZ], ?_⟩
          simp only
          rw [e2, setL_setL _ _ _ _ _ hcl]
        · rw [if_neg hm]; exact ⟨e1, z, hz, e2⟩
      · have hx : ln m.cs i k = ln m'.cs i k := by rw [hL, if_neg (fun e => hic e.1)]
        unfold dropM giveL
        simp only
        rw [hx]
        by_cases hm : isM a (ln m'.cs i k)
        · rw [if_pos hm, if_neg (by rintro (e | e | e); exact hic e; exact hm.1 e; exact e hm.2), if_pos trivial]
          unfold letM
          simp only
          rw [hx, e1]
          exact ⟨rfl, z, hz, by rw [e2, setL_comm _ _ _ _ _ _ (fun e => hic e.symm)]⟩
        · rw [if_neg hm, if_pos (by
            by_cases h0 : (ln m'.cs i k).k = 0
            · exact .inr (.inl h0)
            · exact .inr (.inr fun e => hm ⟨h0, e⟩))]
          exact ⟨e1, z, hz, e2⟩
    obtain ⟨k1, z', k2, k3⟩ := key
    refine drop_give hc hk a r _ _ z' g1.good (fun j hj => hl j (by simp [hj])) ?_ k2 k1 k3
    by_cases hic : i = c
    · rw [g3 hic]; exact h2
    · rw [g2 c k (fun e => hic e.1.symm)]; exact h2
theorem GoodM.rg (h : GoodM n L m) : ∀ i ∈ List.range m.cs.length, i < n := fun i hi => by rw [List.mem_range, h.shp.1] at hi; exact hi
theorem pDo_eq (h : GoodM n L m) {c : Nat} (hc : c < n) {o : Ev} (ho : opF o = 0) : pDo m c o = doM m c o := by
  obtain ⟨hkd, ha, hv⟩ := opF_zero ho
  obtain ⟨hk, hp⟩ := place_ok h hc (a := o.a)
  unfold pDo doM
  obtain ⟨k, hkk⟩ : ∃ k, k = placeOf m c o.a := ⟨_, rfl⟩
  rw [← hkk] at hk ⊢
  dsimp only
  have K1 := own_ok h hc hk o.a
  have hline := own_line h hc hk o.a
  rw [own_free h hc hk] at K1 hline ⊢
  generalize freeL c k o.a m = m1 at *
  have h1 := K1.good
  by_cases hok : o.k = 0
  · rw [if_pos hok, if_neg (by omega : ¬ o.k = 1)]
    unfold loadM
    by_cases hm : isM o.a (ln m1.cs c k)
    · rw [if_pos hm, if_neg hm.1]
    · have hz : ln m1.cs c k = lnZ := by rcases hline with e | e; exact absurd e hm; exact e
      rw [if_neg hm, if_pos (by rw [hz]; rfl)]
      have e : shareAll k o.a m1 = others c k o.a false m1 := share_give hk o.a _ m1 h1 h1.rg (by rw [hz]; rfl)
      rw [e]
      have G := (others_ok h1 (c := c) hk o.a false).1.good
      simp only
      rw [G.shp.ln_set hc hk, if_pos ⟨rfl, rfl⟩]
  · rw [if_neg hok, if_pos (by omega : o.k = 1)]
    unfold storeM
    by_cases h2 : (ln m1.cs c k).k = 2
    · rw [if_pos h2, if_pos h2]
    · rw [if_neg h2, if_neg h2]
      obtain ⟨d1, z', d2⟩ := drop_give hc hk o.a (List.range m1.cs.length) m1 m1 (ln m1.cs c k) h1 h1.rg h2 h2 rfl (setL_same h1.shp hc hk rfl).symm
      have e : dropAll k o.a m1 = (List.range m1.cs.length).foldl (dropM k o.a) m1 := rfl
      rw [e]
      unfold others
      rw [d1, d2]
      have G := (others_ok h1 (c := c) hk o.a true).1.good
      unfold others at G
      rw [setL_setL _ _ _ _ _ (by rw [G.shp.1]; exact hc)]
end
/-- The machine stays right all through. -/
theorem shareAll_ok {n L k : Nat} (hk : k < L) (a : Int) : ∀ (l : List Nat) (m : Mac), GoodM n L m → (∀ i ∈ l, i < n) → KeepM n L m (l.foldl (shaM k a) m)
  | [], m, h, _ => KeepM.refl h
  | i :: r, m, h, hl => by
    have h1 := sha_ok h (hl i (by simp)) hk a
    exact h1.trans (shareAll_ok hk a r _ h1.good fun j hj => hl j (by simp [hj]))
theorem dropAll_ok {n L k : Nat} (hk : k < L) (a : Int) : ∀ (l : List Nat) (m : Mac), GoodM n L m → (∀ i ∈ l, i < n) → KeepM n L m (l.foldl (dropM k a) m)
  | [], m, h, _ => KeepM.refl h
  | i :: r, m, h, hl => by
    have h1 := drop_ok h (hl i (by simp)) hk a
    exact h1.trans (dropAll_ok hk a r _ h1.good fun j hj => hl j (by simp [hj]))
end Go.Proofs.Ytifijhfeeammkaa
