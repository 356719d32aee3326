/- Plain mathematics of write orders: that of a log is right for its split. -/
import Derived.Test.YtdmdljimbmhecaaOdm2
import Derived.Test.YtdmdljimbmhecaaGMsi
namespace Go.Proofs.Ytdmdljimbmhecaa

theorem cntS_append (a : Int) : ∀ l m : List Ev, cntS a (l ++ m) = cntS a l + cntS a m
  | [], m => by simp [cntS]
  | e :: r, m => by rw [List.cons_append, cntS, cntS, cntS_append a r m]; omega
theorem cntY_append : ∀ l m : List Ev, cntY (l ++ m) = cntY l + cntY m
  | [], m => by simp [cntY]
  | e :: r, m => by rw [List.cons_append, cntY, cntY, cntY_append r m]; omega
theorem storesW_set (a : Int) (l' : List Ev) : ∀ (t : List (List Ev)) (i : Nat) (hi : i < t.length), storesW a (t.set i l') + cntS a t[i] = storesW a t + cntS a l'
  | [], i, hi => by simp at hi
  | l :: r, 0, _ => by simp only [List.set_cons_zero, storesW, List.getElem_cons_zero]; omega
  | l :: r, i + 1, hi => by
    have := storesW_set a l' r i (by simpa using hi)
    simp only [List.set_cons_succ, storesW, List.getElem_cons_succ]
    omega
theorem allW_set (l' : List Ev) : ∀ (t : List (List Ev)) (i : Nat) (hi : i < t.length), allW (t.set i l') + cntY t[i] = allW t + cntY l'
  | [], i, hi => by simp at hi
  | l :: r, 0, _ => by simp only [List.set_cons_zero, allW, List.getElem_cons_zero]; omega
  | l :: r, i + 1, hi => by
    have := allW_set l' r i (by simpa using hi)
    simp only [List.set_cons_succ, allW, List.getElem_cons_succ]
    omega
theorem getD_set (t : List (List Ev)) (i c : Nat) (l' : List Ev) (hi : i < t.length) : (t.set i l').getD c [] = if c = i then l' else t.getD c [] := by
  rw [List.getD_eq_getElem?_getD, List.getElem?_set]
  by_cases h : i = c
  · subst h
    rw [if_pos rfl, if_pos hi, if_pos rfl]
    rfl
  · rw [if_neg h, if_neg (fun e => h e.symm), List.getD_eq_getElem?_getD]
/-- An event more behind core i. -/
theorem idW_more {t : List (List Ev)} {i : Nat} {e : Ev} (hi : i < t.length) {a : Int} {x : Wid} (h : idW t a x) : idW (t.set i (t.getD i [] ++ [e])) a x := by
  obtain ⟨h1, h2, h3, h4⟩ := h
  have hg := getD_set t i x.c.toNat (t.getD i [] ++ [e]) hi
  have he : evN (t.set i (t.getD i [] ++ [e])) x.c.toNat x.i.toNat = evN t x.c.toNat x.i.toNat := by
    unfold evN
    rw [hg]
    by_cases hc : x.c.toNat = i
    · rw [if_pos hc, ← hc, List.getD_eq_getElem?_getD, List.getElem?_append_left (by omega), ← List.getD_eq_getElem?_getD]
    · rw [if_neg hc]
  refine ⟨by rw [List.length_set]; exact h1, ⟨h2.1, ?_⟩, by rw [he]; exact h3, by rw [he]; exact h4⟩
  rw [hg]
  by_cases hc : x.c.toNat = i
  · rw [if_pos hc, List.length_append, ← hc]
    have := h2.2
    omega
  · rw [if_neg hc]; exact h2.2
theorem idW_new {t : List (List Ev)} {i : Nat} {e : Ev} (hi : i < t.length) (hk : e.k = 1) : idW (t.set i (t.getD i [] ++ [e])) e.a ⟨(i : Int), ((t.getD i []).length : Int)⟩ := by
  have hg := getD_set t i i (t.getD i [] ++ [e]) hi
  rw [if_pos rfl] at hg
  have he : evN (t.set i (t.getD i [] ++ [e])) i (t.getD i []).length = e := by
    unfold evN
    rw [hg, List.getD_eq_getElem?_getD, List.getElem?_append_right (Nat.le_refl _), Nat.sub_self]
    rfl
  refine ⟨⟨by simp only; omega, by simp only [List.length_set]; omega⟩, ⟨by simp only; omega, ?_⟩, ?_, ?_⟩
  · simp only [Int.toNat_natCast]
    rw [hg, List.length_append, List.length_singleton]
    omega
  · simp only [Int.toNat_natCast]; rw [he]; exact hk
  · simp only [Int.toNat_natCast]; rw [he]
/-- The log as the model's list goes: the newest step first. -/
def okR (N : Nat) (r : List Stp) : Prop := ∀ s ∈ r, 0 ≤ s.c ∧ s.c < (N : Int)
theorem spT_step {N : Nat} {s : Stp} {r : List Stp} (h : 0 ≤ s.c ∧ s.c < (N : Int)) : ∃ i : Nat, s.c = (i : Int) ∧ i < (spT N r.reverse).length ∧ ((spT N r.reverse).getD i []).length = cntL r (i : Int) ∧ spT N (s :: r).reverse = (spT N r.reverse).set i ((spT N r.reverse).getD i [] ++ [s.e]) := by
  obtain ⟨i, hi⟩ := Int.eq_ofNat_of_zero_le h.1
  have hl : i < (spT N r.reverse).length := by rw [spT_length]; omega
  have hg : (spT N r.reverse).getD i [] = colE (i : Int) r.reverse := by rw [List.getD_eq_getElem?_getD, List.getElem?_eq_getElem hl, spT_get]; rfl
  refine ⟨i, hi, hl, by rw [hg, colE_length, cntL_reverse], ?_⟩
  rw [List.reverse_cons, spT_snoc N r.reverse s i hi, hg]
theorem ids_right {N : Nat} (a : Int) : ∀ {r : List Stp}, okR N r → (∀ x ∈ idsR a r, idW (spT N r.reverse) a x) ∧ (idsR a r).length = storesW a (spT N r.reverse) ∧ (idsR a r).Nodup
  | [], _ => by
    refine ⟨fun x hx => by simp [idsR] at hx, ?_, List.nodup_nil⟩
    rw [List.reverse_nil, spT_nil]
    have key : ∀ n, storesW a (List.replicate n []) = 0 := by
      intro n
      induction n with
      | zero => rfl
      | succ n ih => rw [List.replicate_succ, storesW, ih]; rfl
    rw [key]
    rfl
  | s :: r, h => by
    obtain ⟨h1, h2, h3⟩ := ids_right a (r := r) (fun x hx => h x (by simp [hx]))
    obtain ⟨i, hi, hl, hc, hs⟩ := spT_step (r := r) (h s (by simp))
    obtain ⟨t, ht⟩ : ∃ t, t = spT N r.reverse := ⟨_, rfl⟩
    rw [← ht] at h1 h2 hl hc hs
    rw [hs, idsR]
    have hst := storesW_set a (t.getD i [] ++ [s.e]) t i hl
    have hgi : t.getD i [] = t[i] := by rw [List.getD_eq_getElem?_getD, List.getElem?_eq_getElem hl]; rfl
    rw [cntS_append, hgi] at hst
    by_cases hk : s.e.k = 1 ∧ s.e.a = a
    · rw [if_pos hk]
      have hone : cntS a [s.e] = 1 := by rw [cntS, if_pos hk]; rfl
      refine ⟨fun x hx => ?_, ?_, ?_⟩
      · rcases List.mem_append.1 hx with hx | hx
        · exact idW_more hl (h1 x hx)
        · rw [List.mem_singleton] at hx
          rw [hx, hi, ← hc, ← hk.2]
          exact idW_new hl hk.1
      · rw [List.length_append, List.length_singleton, h2, hgi]
        omega
      · rw [List.nodup_append]
        refine ⟨h3, by simp, fun x hx y hy e => ?_⟩
        rw [List.mem_singleton] at hy
        obtain ⟨_, g2, _⟩ := h1 x hx
        rw [e, hy, hi] at g2
        simp only [Int.toNat_natCast] at g2
        omega
    · rw [if_neg hk]
      have hno : cntS a [s.e] = 0 := by rw [cntS, if_neg hk]; rfl
      exact ⟨fun x hx => idW_more hl (h1 x hx), by rw [h2, hgi]; omega, h3⟩
theorem sum_right {N : Nat} : ∀ {r : List Stp}, okR N r → sumO (ordR r) = allW (spT N r.reverse)
  | [], _ => by
    rw [List.reverse_nil, spT_nil]
    have key : ∀ n, allW (List.replicate n []) = 0 := by
      intro n
      induction n with
      | zero => rfl
      | succ n ih => rw [List.replicate_succ, allW, ih]; rfl
    rw [key]
    rfl
  | s :: r, h => by
    have ih := sum_right (r := r) (fun x hx => h x (by simp [hx]))
    obtain ⟨i, hi, hl, hc, hs⟩ := spT_step (r := r) (h s (by simp))
    obtain ⟨t, ht⟩ : ∃ t, t = spT N r.reverse := ⟨_, rfl⟩
    rw [← ht] at ih hl hc hs
    rw [hs, ordR]
    have hst := allW_set (t.getD i [] ++ [s.e]) t i hl
    have hgi : t.getD i [] = t[i] := by rw [List.getD_eq_getElem?_getD, List.getElem?_eq_getElem hl]; rfl
    rw [cntY_append, hgi] at hst
    by_cases hk : s.e.k = 1
    · rw [if_pos hk, putW_ins (ordR_all r).1, sum_ins, ih, hgi]
      have : cntY [s.e] = 1 := by rw [cntY, if_pos hk]; rfl
      omega
    · rw [if_neg hk, ih, hgi]
      have : cntY [s.e] = 0 := by rw [cntY, if_neg hk]; rfl
      omega
/-- The write order of a log is right for its split. -/
theorem ordW_right {ss : List Stp} {N : Nat} (h : ∀ s ∈ ss, 0 ≤ s.c ∧ s.c < (N : Int)) : rightO (spT N ss) (ordW ss) := by
  have hr : okR N ss.reverse := fun s hs => h s (List.mem_reverse.1 hs)
  obtain ⟨h1, h2, h3⟩ := ordR_all ss.reverse
  have hb : spT N ss = spT N ss.reverse.reverse := by rw [List.reverse_reverse]
  refine ⟨fun w hw => ?_, h1, by rw [hb]; exact sum_right hr⟩
  obtain ⟨e1, e2⟩ := h3 w hw
  obtain ⟨g1, g2, g3⟩ := ids_right w.a hr
  rw [hb]
  exact ⟨fun e => e2 (List.eq_nil_of_length_eq_zero e), by rw [e1]; exact g2, by rw [e1]; exact g1, by rw [e1]; exact g3⟩
end Go.Proofs.Ytdmdljimbmhecaa
