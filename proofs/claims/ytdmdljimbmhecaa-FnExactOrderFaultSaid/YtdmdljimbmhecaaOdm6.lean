/- Plain mathematics of write orders: right just if it has the same stores as one that is right; each store's id is found. -/
import Derived.Test.YtdmdljimbmhecaaOdm5
namespace Go.Proofs.Ytdmdljimbmhecaa

theorem nodup_le {α : Type} [DecidableEq α] : ∀ {l m : List α}, l.Nodup → (∀ x ∈ l, x ∈ m) → l.length ≤ m.length
  | [], m, _, _ => Nat.zero_le _
  | x :: l, m, h, hs => by
    obtain ⟨h1, h2⟩ := List.nodup_cons.1 h
    have hx := hs x (by simp)
    have ih := nodup_le (m := m.erase x) h2 fun y hy => by
      have hne : y ≠ x := fun e => h1 (e ▸ hy)
      exact (List.mem_erase_of_ne hne).2 (hs y (by simp [hy]))
    rw [List.length_erase_of_mem hx] at ih
    have := List.length_pos_of_mem hx
    rw [List.length_cons]; omega
theorem perm_all {α : Type} [DecidableEq α] : ∀ {l m : List α}, l.Nodup → (∀ x ∈ l, x ∈ m) → l.length = m.length → l.Perm m
  | [], m, _, _, hl => by
    obtain rfl := List.eq_nil_of_length_eq_zero hl.symm
    exact List.Perm.refl _
  | x :: l, m, h, hs, hl => by
    obtain ⟨h1, h2⟩ := List.nodup_cons.1 h
    have hx := hs x (by simp)
    have ih := perm_all (m := m.erase x) h2 (fun y hy => by
      have hne : y ≠ x := fun e => h1 (e ▸ hy)
      exact (List.mem_erase_of_ne hne).2 (hs y (by simp [hy]))) (by
      rw [List.length_erase_of_mem hx, ← hl, List.length_cons, Nat.add_sub_cancel])
    exact (ih.cons x).trans (List.perm_cons_erase hx).symm

/-- The ids of all stores of an address, core by core. -/
def idsL (a : Int) (b : Nat) : Nat → List Ev → List Wid
  | _, [] => []
  | j, e :: r => (if e.k = 1 ∧ e.a = a then [⟨(b : Int), (j : Int)⟩] else []) ++ idsL a b (j + 1) r
def idsC (a : Int) : Nat → List (List Ev) → List Wid
  | _, [] => []
  | b, l :: r => idsL a b 0 l ++ idsC a (b + 1) r
theorem idsL_len (a : Int) (b : Nat) : ∀ (l : List Ev) (j : Nat), (idsL a b j l).length = cntS a l
  | [], _ => rfl
  | e :: r, j => by
    rw [idsL, List.length_append, idsL_len a b r, cntS]
    by_cases h : e.k = 1 ∧ e.a = a
    · rw [if_pos h, if_pos h]; rfl
    · rw [if_neg h, if_neg h]; rfl
theorem idsC_len (a : Int) : ∀ (t : List (List Ev)) (b : Nat), (idsC a b t).length = storesW a t
  | [], _ => rfl
  | l :: r, b => by rw [idsC, List.length_append, idsL_len, idsC_len a r, storesW]
theorem idsL_mem {a : Int} {b : Nat} : ∀ {l : List Ev} {j i : Nat} (hi : i < l.length), l[i].k = 1 → l[i].a = a → (⟨(b : Int), ((j + i : Nat) : Int)⟩ : Wid) ∈ idsL a b j l
  | e :: r, j, 0, _, hk, ha => by
    rw [idsL, if_pos ⟨hk, ha⟩]
    exact List.mem_append_left _ (by simp)
  | e :: r, j, i + 1, hi, hk, ha => by
    rw [idsL]
    refine List.mem_append_right _ ?_
    have := idsL_mem (b := b) (j := j + 1) (i := i) (by simpa using hi) (by simpa using hk) (by simpa using ha)
    rw [show j + (i + 1) = j + 1 + i by omega]
    exact this
theorem idsC_mem {a : Int} : ∀ {t : List (List Ev)} {b c i : Nat} (hc : c < t.length) (hi : i < t[c].length), t[c][i].k = 1 → t[c][i].a = a → (⟨((b + c : Nat) : Int), (i : Int)⟩ : Wid) ∈ idsC a b t
  | l :: r, b, 0, i, _, hi, hk, ha => by
    rw [idsC]
    have := idsL_mem (b := b) (j := 0) hi hk ha
    rw [Nat.zero_add] at this
    exact List.mem_append_left _ this
  | l :: r, b, c + 1, i, hc, hi, hk, ha => by
    rw [idsC]
    have := idsC_mem (b := b + 1) (c := c) (i := i) (by simpa using hc) (by simpa using hi) (by simpa using hk) (by simpa using ha)
    rw [show b + (c + 1) = b + 1 + c by omega]
    exact List.mem_append_right _ this
theorem evN_get (t : List (List Ev)) {c i : Nat} (hc : c < t.length) (hi : i < t[c].length) : evN t c i = t[c][i] ∧ t.getD c [] = t[c] := by
  have e : t.getD c [] = t[c] := by rw [List.getD_eq_getElem?_getD, List.getElem?_eq_getElem hc]; rfl
  refine ⟨?_, e⟩
  unfold evN
  rw [e, List.getD_eq_getElem?_getD, List.getElem?_eq_getElem hi]
  rfl
theorem idW_mem {t : List (List Ev)} {a : Int} {x : Wid} (h : idW t a x) : x ∈ idsC a 0 t := by
  obtain ⟨c, i⟩ := x
  obtain ⟨⟨c0, c1⟩, ⟨i0, i1⟩, hk, ha⟩ := h
  simp only at c0 c1 i0 i1 hk ha
  obtain ⟨c, rfl⟩ := Int.eq_ofNat_of_zero_le c0
  obtain ⟨i, rfl⟩ := Int.eq_ofNat_of_zero_le i0
  simp only [Int.toNat_natCast] at i1 hk ha
  have hc : c < t.length := by omega
  have e : t.getD c [] = t[c] := by rw [List.getD_eq_getElem?_getD, List.getElem?_eq_getElem hc]; rfl
  have hi : i < t[c].length := by rw [e] at i1; omega
  rw [(evN_get t hc hi).1] at hk ha
  have := idsC_mem (b := 0) hc hi hk ha
  rw [Nat.zero_add] at this
  exact this
theorem ids_le {t : List (List Ev)} {a : Int} {L : List Wid} (h : L.Nodup) (hx : ∀ x ∈ L, idW t a x) : L.length ≤ storesW a t := by
  rw [← idsC_len a t 0]
  exact nodup_le h fun x h => idW_mem (hx x h)
theorem list_has {t : List (List Ev)} {w : Wls} {x : Wid} (h : listW t w) (hx : idW t w.a x) : x ∈ w.ids := by
  obtain ⟨_, h1, h2, h3⟩ := h
  by_cases hm : x ∈ w.ids
  · exact hm
  · have := ids_le (t := t) (a := w.a) (L := x :: w.ids) (List.nodup_cons.2 ⟨hm, h3⟩) fun y hy => by
      rcases List.mem_cons.1 hy with rfl | hy
      · exact hx
      · exact h2 y hy
    rw [List.length_cons] at this
    omega

def sumF (f : Int → Nat) : List Int → Nat
  | [] => 0
  | a :: r => f a + sumF f r
theorem sumF_add (f g : Int → Nat) : ∀ l, sumF (fun a => f a + g a) l = sumF f l + sumF g l
  | [] => rfl
  | a :: r => by rw [sumF, sumF, sumF, sumF_add f g r]; omega
theorem sumF_zero {f : Int → Nat} : ∀ {l : List Int}, (∀ a ∈ l, f a = 0) → sumF f l = 0
  | [], _ => rfl
  | a :: r, h => by rw [sumF, h a (by simp), sumF_zero fun b hb => h b (by simp [hb])]
theorem sumF_one (e : Ev) : ∀ {l : List Int}, l.Nodup → sumF (fun a => if e.k = 1 ∧ e.a = a then 1 else 0) l ≤ if e.k = 1 then 1 else 0
  | [], _ => by simp [sumF]
  | a :: r, h => by
    obtain ⟨h1, h2⟩ := List.nodup_cons.1 h
    rw [sumF]
    by_cases hk : e.k = 1 ∧ e.a = a
    · rw [if_pos hk, if_pos hk.1, sumF_zero fun b hb => if_neg fun hh => h1 (by rw [← hk.2, hh.2]; exact hb)]
      exact Nat.le_refl _
    · rw [if_neg hk, Nat.zero_add]
      exact sumF_one e h2
theorem sumF_cnt : ∀ (es : List Ev) {l : List Int}, l.Nodup → sumF (fun a => cntS a es) l ≤ cntA es
  | [], l, _ => Nat.le_of_eq (sumF_zero fun _ _ => rfl)
  | e :: r, l, h => by
    have h1 := sumF_cnt r h
    have h2 := sumF_one e h
    have h3 := sumF_add (fun a => if e.k = 1 ∧ e.a = a then 1 else 0) (fun a => cntS a r) l
    simp only [cntS, cntA]
    omega
theorem sumF_stores : ∀ (t : List (List Ev)) {l : List Int}, l.Nodup → sumF (fun a => storesW a t) l ≤ allW t
  | [], l, _ => Nat.le_of_eq (sumF_zero fun _ _ => rfl)
  | e :: r, l, h => by
    have h1 := sumF_stores r h
    have h2 := sumF_cnt e h
    have h3 := sumF_add (fun a => cntS a e) (fun a => storesW a r) l
    simp only [storesW, allW]
    omega
theorem sumO_F {t : List (List Ev)} : ∀ {os : List Wls}, (∀ w ∈ os, listW t w) → sumO os = sumF (fun a => storesW a t) (os.map (·.a))
  | [], _ => rfl
  | w :: r, h => by rw [sumO, List.map_cons, sumF, sumO_F fun v hv => h v (by simp [hv]), (h w (by simp)).2.1]
theorem risO_map {os : List Wls} (h : risO os) : (os.map (·.a)).Pairwise (· < ·) := List.pairwise_map.2 h
theorem risO_nodup {os : List Wls} (h : risO os) : (os.map (·.a)).Nodup := (risO_map h).imp fun h e => by omega
theorem right_has {t : List (List Ev)} {os : List Wls} {a : Int} (h : rightO t os) (ha : 0 < storesW a t) : a ∈ os.map (·.a) := by
  obtain ⟨h1, h2, h3⟩ := h
  by_cases hm : a ∈ os.map (·.a)
  · exact hm
  · have := sumF_stores t (List.nodup_cons.2 ⟨hm, risO_nodup h2⟩)
    rw [sumF, ← sumO_F h1] at this
    omega
theorem sorted_same : ∀ {l m : List Int}, l.Pairwise (· < ·) → m.Pairwise (· < ·) → (∀ x, x ∈ l ↔ x ∈ m) → l = m
  | [], [], _, _, _ => rfl
  | [], y :: m, _, _, h => absurd ((h y).2 (by simp)) (by simp)
  | x :: l, [], _, _, h => absurd ((h x).1 (by simp)) (by simp)
  | x :: l, y :: m, hl, hm, h => by
    obtain ⟨a1, a2⟩ := List.pairwise_cons.1 hl
    obtain ⟨b1, b2⟩ := List.pairwise_cons.1 hm
    have hxy : x = y := by
      have p := (h x).1 (by simp)
      have q := (h y).2 (by simp)
      rcases List.mem_cons.1 p with e | p
      · exact e
      · rcases List.mem_cons.1 q with e | q
        · exact e.symm
        · have := a1 y q; have := b1 x p; omega
    subst hxy
    rw [sorted_same a2 b2 fun z => ?_]
    constructor
    · intro hz
      rcases List.mem_cons.1 ((h z).1 (by simp [hz])) with rfl | g
      · have := a1 z hz; omega
      · exact g
    · intro hz
      rcases List.mem_cons.1 ((h z).2 (by simp [hz])) with rfl | g
      · have := b1 z hz; omega
      · exact g
theorem list_pos {t : List (List Ev)} {w : Wls} (h : listW t w) : 0 < storesW w.a t := by have := h.1; have := h.2.1; omega
theorem right_same {t : List (List Ev)} {os O : List Wls} (h : rightO t os) (hO : rightO t O) : os.map (·.a) = O.map (·.a) := by
  refine sorted_same (risO_map h.2.1) (risO_map hO.2.1) fun x => ⟨fun hx => ?_, fun hx => ?_⟩
  · obtain ⟨w, hw, rfl⟩ := List.mem_map.1 hx
    exact right_has hO (list_pos (h.1 w hw))
  · obtain ⟨w, hw, rfl⟩ := List.mem_map.1 hx
    exact right_has h (list_pos (hO.1 w hw))

/-- As the program asks: as many ids, all of these among them. -/
def sameStW (v w : Wls) : Prop := v.a = w.a ∧ v.ids.length = w.ids.length ∧ ∀ x ∈ w.ids, x ∈ v.ids
instance (v w : Wls) : Decidable (sameStW v w) := by unfold sameStW; infer_instance
theorem right_iff {t : List (List Ev)} {os O : List Wls} (hO : rightO t O) : rightO t os ↔ os.length = O.length ∧ ∀ i (h : i < os.length) (h' : i < O.length), sameStW os[i] O[i] := by
  constructor
  · intro h
    have hm := right_same h hO
    have hl : os.length = O.length := by simpa using congrArg List.length hm
    refine ⟨hl, fun i hi hi' => ?_⟩
    have ha : os[i].a = O[i].a := by
      have : (os.map (·.a))[i]'(by simpa using hi) = (O.map (·.a))[i]'(by simpa using hi') := by simp only [hm]
      simpa using this
    have g := h.1 os[i] (List.getElem_mem hi)
    have gO := hO.1 O[i] (List.getElem_mem hi')
    refine ⟨ha, by rw [g.2.1, gO.2.1, ha], fun x hx => list_has g ?_⟩
    rw [ha]
    exact gO.2.2.1 x hx
  · rintro ⟨hl, h⟩
    have hp : ∀ i (hi : i < os.length) (hi' : i < O.length), O[i].ids.Perm os[i].ids := fun i hi hi' => by
      obtain ⟨_, h2, h3⟩ := h i hi hi'
      exact perm_all (hO.1 _ (List.getElem_mem hi')).2.2.2 h3 h2.symm
    have hsum : ∀ {l m : List Wls}, l.length = m.length → (∀ i (h : i < l.length) (h' : i < m.length), l[i].ids.length = m[i].ids.length) → sumO l = sumO m := by
      intro l
      induction l with
      | nil => intro m hl _; rw [List.eq_nil_of_length_eq_zero hl.symm]
      | cons x l ih =>
        intro m hl hh
        rcases m with _ | ⟨y, m⟩
        · simp at hl
        · have h0 := hh 0 (by simp) (by simp)
          have := ih (m := m) (by simpa using hl) fun i hi hi' => by have := hh (i + 1) (by simpa using hi) (by simpa using hi'); simpa using this
          simp only [List.getElem_cons_zero] at h0
          rw [sumO, sumO, h0, this]
    refine ⟨fun w hw => ?_, ?_, ?_⟩
    · obtain ⟨i, hi, rfl⟩ := List.getElem_of_mem hw
      have hi' : i < O.length := by omega
      obtain ⟨h1, h2, h3⟩ := h i hi hi'
      obtain ⟨g0, g1, g2, g3⟩ := hO.1 _ (List.getElem_mem hi')
      have P := hp i hi hi'
      refine ⟨by rw [h2]; exact g0, by rw [h2, h1]; exact g1, fun x hx => ?_, P.nodup_iff.1 g3⟩
      rw [h1]
      exact g2 x (P.mem_iff.2 hx)
    · refine List.pairwise_iff_getElem.2 fun i j hi hj hij => ?_
      rw [(h i hi (by omega)).1, (h j hj (by omega)).1]
      exact List.pairwise_iff_getElem.1 hO.2.1 i j _ _ hij
    · rw [← hO.2.2]
      exact hsum hl fun i hi hi' => (h i hi hi').2.1

theorem find_at {a : Int} : ∀ {os : List Wls}, a ∈ os.map (·.a) → ∃ w ∈ os, w.a = a ∧ findW os a = w.ids
  | [], h => by simp at h
  | v :: r, h => by
    by_cases he : v.a = a
    · exact ⟨v, by simp, he, by rw [findW, if_pos he]⟩
    · rw [List.map_cons, List.mem_cons] at h
      obtain ⟨w, h1, h2, h3⟩ := find_at (os := r) (h.resolve_left fun e => he e.symm)
      exact ⟨w, by simp [h1], h2, by rw [findW, if_neg he]; exact h3⟩
theorem find_none {a : Int} : ∀ {os : List Wls}, a ∉ os.map (·.a) → findW os a = []
  | [], _ => rfl
  | v :: r, h => by
    rw [List.map_cons, List.mem_cons, not_or] at h
    rw [findW, if_neg fun e => h.1 e.symm]
    exact find_none h.2
/-- Each store's id is found at its address; what is found there is such. -/
theorem right_find {t : List (List Ev)} {os : List Wls} {a : Int} {x : Wid} (h : rightO t os) (hx : idW t a x) : x ∈ findW os a := by
  have hp : 0 < storesW a t := by rw [← idsC_len a t 0]; exact List.length_pos_of_mem (idW_mem hx)
  obtain ⟨w, h1, h2, h3⟩ := find_at (right_has h hp)
  rw [h3]
  exact list_has (h.1 w h1) (by rw [h2]; exact hx)
theorem find_id {t : List (List Ev)} {os : List Wls} {a : Int} {x : Wid} (h : rightO t os) (hx : x ∈ findW os a) : idW t a x := by
  by_cases hm : a ∈ os.map (·.a)
  · obtain ⟨w, h1, h2, h3⟩ := find_at hm
    rw [h3] at hx
    rw [← h2]
    exact (h.1 w h1).2.2.1 x hx
  · rw [find_none hm] at hx; simp at hx
theorem find_len {t : List (List Ev)} {os : List Wls} (h : rightO t os) (a : Int) : (findW os a).length ≤ storesW a t := by
  by_cases hm : a ∈ os.map (·.a)
  · obtain ⟨w, h1, h2, h3⟩ := find_at hm
    rw [h3, (h.1 w h1).2.1, h2]
    exact Nat.le_refl _
  · rw [find_none hm]; exact Nat.zero_le _
theorem pass_le (q : List Nat) : ∀ l : List Wid, passW q l ≤ l.length
  | [] => Nat.le_refl _
  | x :: r => by have := pass_le q r; rw [passW, List.length_cons]; split <;> omega
theorem pass_lt {q : List Nat} {x : Wid} : ∀ {l : List Wid}, x ∈ l → ¬ x.i < (q.getD x.c.toNat 0 : Int) → passW q l < l.length
  | [], h, _ => by simp at h
  | y :: r, h, hx => by
    rw [passW, List.length_cons]
    by_cases hy : y.i < (q.getD y.c.toNat 0 : Int)
    · rw [if_pos hy]
      rcases List.mem_cons.1 h with rfl | h
      · exact absurd hy hx
      · have := pass_lt h hx; omega
    · rw [if_neg hy]; omega
theorem pass_from {q : List Nat} : ∀ {l : List Wid} {k : Nat} (hk : k ≤ l.length), (∀ j (hj : j < k), l[j].i < (q.getD l[j].c.toNat 0 : Int)) → passW q l = k + passW q (l.drop k)
  | l, 0, _, _ => by simp
  | [], k + 1, hk, _ => by simp at hk
  | x :: r, k + 1, hk, h => by
    have h0 := h 0 (by omega)
    simp only [List.getElem_cons_zero] at h0
    rw [passW, if_pos h0, List.drop_succ_cons, pass_from (l := r) (k := k) (by simpa using hk) fun j hj => by have := h (j + 1) (by omega); simpa using this]
    omega
theorem pass_step {q : List Nat} {l : List Wid} {k : Nat} (hk : k < l.length) : passW q (l.drop k) = if l[k].i < (q.getD l[k].c.toNat 0 : Int) then passW q (l.drop (k + 1)) + 1 else 0 := by
  rw [List.drop_eq_getElem_cons hk, passW]
theorem pass_before {q : List Nat} : ∀ {l : List Wid} {j : Nat} (hj : j < l.length), j < passW q l → l[j].i < (q.getD l[j].c.toNat 0 : Int)
  | x :: r, 0, _, h => by
    rw [passW] at h
    by_cases hx : x.i < (q.getD x.c.toNat 0 : Int)
    · exact hx
    · rw [if_neg hx] at h; omega
  | x :: r, j + 1, hj, h => by
    rw [passW] at h
    by_cases hx : x.i < (q.getD x.c.toNat 0 : Int)
    · rw [if_pos hx] at h
      have := pass_before (q := q) (l := r) (j := j) (by simpa using hj) (by omega)
      simpa using this
    · rw [if_neg hx] at h; omega
end Go.Proofs.Ytdmdljimbmhecaa
