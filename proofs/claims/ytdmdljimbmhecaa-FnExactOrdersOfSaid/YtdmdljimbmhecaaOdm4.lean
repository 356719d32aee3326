/- Plain mathematics of write orders: a flat log's own picks are a row that fits. -/
import Derived.Test.YtdmdljimbmhecaaOdm3
namespace Go.Proofs.Ytdmdljimbmhecaa

theorem odF_log {ss : List Stp} {n : Int} (h : logF ss n = 0) : odF (slT ss n) (ordW ss) = 0 := by
  obtain ⟨hn, _, hG, _⟩ := logF_zero h
  obtain ⟨N, rfl⟩ := Int.eq_ofNat_of_zero_le (show 0 ≤ n by omega)
  rw [sl_ok h, Int.toNat_natCast]
  have htr : trF (spT N ss) = 0 := (mgC_zero (merge_split h).1).1
  unfold odF
  rw [if_pos htr, if_pos (ordW_right fun s hs => by have := (logG_all hG s hs).1; omega)]
/-- What one memory has at an address, behind these steps (the newest first). -/
def valR (a : Int) : List Stp → Int
  | [] => 0
  | s :: r => if s.e.k = 1 ∧ s.e.a = a then s.e.v else valR a r
def flatR : List Stp → Prop
  | [] => True
  | s :: r => (s.e.k = 1 ∨ s.e.v = valR s.e.a r) ∧ flatR r
/-- The ids of what comes behind p. -/
def idsF (a : Int) : List Stp → List Stp → List Wid
  | _, [] => []
  | p, s :: l => (if s.e.k = 1 ∧ s.e.a = a then [⟨s.c, (cntL p s.c : Nat)⟩] else []) ++ idsF a (p ++ [s]) l
theorem idsR_app (a : Int) : ∀ (l p : List Stp), idsR a (p ++ l).reverse = idsR a p.reverse ++ idsF a p l
  | [], p => by simp [idsF]
  | s :: l, p => by
    have h := idsR_app a l (p ++ [s])
    rw [List.append_assoc, List.singleton_append] at h
    rw [h, idsF, ← List.append_assoc]
    congr 1
    rw [List.reverse_append]
    show idsR a (s :: p.reverse) = _
    rw [idsR, cntL_reverse]
    by_cases hk : s.e.k = 1 ∧ s.e.a = a
    · rw [if_pos hk, if_pos hk]
    · rw [if_neg hk, if_neg hk, List.append_nil]
theorem idsF_late (a : Int) : ∀ (l p : List Stp), ∀ x ∈ idsF a p l, ((cntL p x.c : Nat) : Int) ≤ x.i
  | [], p, x, hx => by simp [idsF] at hx
  | s :: l, p, x, hx => by
    rw [idsF] at hx
    rcases List.mem_append.1 hx with hx | hx
    · by_cases hk : s.e.k = 1 ∧ s.e.a = a
      · rw [if_pos hk, List.mem_singleton] at hx
        rw [hx]
        exact Int.le_refl _
      · rw [if_neg hk] at hx; simp at hx
    · have h := idsF_late a l (p ++ [s]) x hx
      rw [cntL_append] at h
      omega
theorem idsR_early (a : Int) : ∀ (r : List Stp), ∀ x ∈ idsR a r, x.i < ((cntL r x.c : Nat) : Int)
  | [], x, hx => by simp [idsR] at hx
  | s :: r, x, hx => by
    rw [idsR] at hx
    have hm : cntL r x.c ≤ cntL (s :: r) x.c := by simp only [cntL]; omega
    by_cases hk : s.e.k = 1 ∧ s.e.a = a
    · rw [if_pos hk] at hx
      rcases List.mem_append.1 hx with hx | hx
      · have := idsR_early a r x hx; omega
      · rw [List.mem_singleton] at hx
        rw [hx]
        simp only [cntL, if_pos]
        omega
    · rw [if_neg hk] at hx
      have := idsR_early a r x hx; omega
theorem idsR_core (a : Int) {N : Nat} : ∀ {r : List Stp}, okR N r → ∀ x ∈ idsR a r, 0 ≤ x.c ∧ x.c < (N : Int)
  | [], _, x, hx => by simp [idsR] at hx
  | s :: r, h, x, hx => by
    rw [idsR] at hx
    by_cases hk : s.e.k = 1 ∧ s.e.a = a
    · rw [if_pos hk] at hx
      rcases List.mem_append.1 hx with hx | hx
      · exact idsR_core a (fun y hy => h y (by simp [hy])) x hx
      · rw [List.mem_singleton] at hx
        rw [hx]
        exact h s (by simp)
    · rw [if_neg hk] at hx
      exact idsR_core a (fun y hy => h y (by simp [hy])) x hx
/-- How far each core is, behind p. -/
def qOf (N : Nat) (p : List Stp) : List Nat := (List.range N).map fun j : Nat => cntL p (j : Int)
theorem qOf_get {N c : Nat} (p : List Stp) (h : c < N) : (qOf N p).getD c 0 = cntL p (c : Int) := by
  rw [List.getD_eq_getElem?_getD]
  simp [qOf, h]
theorem qOf_next {N c : Nat} (p : List Stp) (s : Stp) (h : c < N) (hs : s.c = (c : Int)) : nextQ (qOf N p) c = qOf N (p ++ [s]) := by
  unfold nextQ
  rw [qOf_get p h]
  apply List.ext_getElem
  · simp [qOf]
  · intro j h1 h2
    have hj : j < N := by simpa [qOf] using h2
    rw [List.getElem_set]
    by_cases e : c = j
    · subst e
      rw [if_pos rfl]
      simp only [qOf, List.getElem_map, List.getElem_range]
      rw [cntL_hit p s _ hs]
    · rw [if_neg e]
      simp only [qOf, List.getElem_map, List.getElem_range]
      rw [cntL_miss p s _ (by omega)]
theorem passW_all {q : List Nat} : ∀ {A B : List Wid}, (∀ x ∈ A, x.i < (q.getD x.c.toNat 0 : Int)) → (∀ x, B.head? = some x → ¬ x.i < (q.getD x.c.toNat 0 : Int)) → passW q (A ++ B) = A.length
  | [], [], _, _ => rfl
  | [], y :: B, _, h => by rw [List.nil_append, passW, if_neg (h y rfl)]; rfl
  | x :: A, B, h, h2 => by rw [List.cons_append, passW, if_pos (h x (by simp)), passW_all (fun y hy => h y (by simp [hy])) h2]; rfl
theorem ev_at {N i : Nat} (p rest : List Stp) (s : Stp) (hi : i < N) (hs : s.c = (i : Int)) : evN (spT N (p ++ s :: rest)) i (cntL p (i : Int)) = s.e ∧ cntL p (i : Int) < ((spT N (p ++ s :: rest)).getD i []).length := by
  have hl : i < (spT N (p ++ s :: rest)).length := by rw [spT_length]; exact hi
  have hg : (spT N (p ++ s :: rest)).getD i [] = colE (i : Int) p ++ s.e :: colE (i : Int) rest := by
    rw [List.getD_eq_getElem?_getD, List.getElem?_eq_getElem hl, spT_get, Option.getD_some, colE_append]
    congr 1
    simp [colE, hs]
  unfold evN
  rw [hg, ← colE_length]
  exact ⟨by rw [List.getD_eq_getElem?_getD, List.getElem?_append_right (Nat.le_refl _), Nat.sub_self]; rfl, by rw [List.length_append, List.length_cons]; omega⟩
/-- The last id tells the last store's Value. -/
theorem last_val {N : Nat} (a : Int) : ∀ (r rest : List Stp), okR N r → (idsR a r = [] → valR a r = 0) ∧ ∀ x, (idsR a r).getLast? = some x → (evN (spT N (r.reverse ++ rest)) x.c.toNat x.i.toNat).v = valR a r
  | [], _, _ => ⟨fun _ => rfl, fun x hx => by simp [idsR] at hx⟩
  | s :: r, rest, h => by
    obtain ⟨h1, h2⟩ := last_val a r (s :: rest) (fun y hy => h y (by simp [hy]))
    have hs := h s (by simp)
    obtain ⟨i, hi⟩ := Int.eq_ofNat_of_zero_le hs.1
    rw [idsR, valR, List.reverse_cons, List.append_assoc, List.singleton_append]
    by_cases hk : s.e.k = 1 ∧ s.e.a = a
    · rw [if_pos hk, if_pos hk]
      refine ⟨fun e => by simp at e, fun x hx => ?_⟩
      rw [List.getLast?_append, List.getLast?_singleton, Option.some_or, Option.some.injEq] at hx
      subst hx
      simp only [hi, Int.toNat_natCast]
      have := (ev_at (N := N) r.reverse rest s (by omega) hi).1
      rw [cntL_reverse] at this
      rw [this]
    · rw [if_neg hk, if_neg hk]
      exact ⟨h1, h2⟩
/-- A flat log's own picks are a row that fits its write order. -/
theorem flat_walk {N : Nat} : ∀ (l p : List Stp), (∀ s ∈ p ++ l, 0 ≤ s.c ∧ s.c < (N : Int)) → (∀ s ∈ p ++ l, s.e.k = 0 ∨ s.e.k = 1) → flatR (p ++ l).reverse → walkW (spT N (p ++ l)) (ordW (p ++ l)) (qOf N p) (l.map fun s => s.c.toNat) = true
  | [], p, _, _, _ => rfl
  | s :: l, p, hc, hk, hf => by
    have ih := flat_walk (N := N) l (p ++ [s]) (by rw [List.append_assoc]; exact hc) (by rw [List.append_assoc]; exact hk) (by rw [List.append_assoc]; exact hf)
    rw [List.append_assoc, List.singleton_append] at ih
    have hs := hc s (by simp)
    obtain ⟨i, hi⟩ := Int.eq_ofNat_of_zero_le hs.1
    have hiN : i < N := by omega
    have hq := qOf_get p hiN
    obtain ⟨hev, hlt⟩ := ev_at (N := N) p l s hiN hi
    have hokp : okR N p.reverse := fun x hx => hc x (by have := List.mem_reverse.1 hx; simp [this])
    have hfs : s.e.k = 1 ∨ s.e.v = valR s.e.a p.reverse := by
      have key : ∀ (m r : List Stp), flatR (m ++ s :: r) → s.e.k = 1 ∨ s.e.v = valR s.e.a r := by
        intro m
        induction m with
        | nil => intro r h; exact h.1
        | cons x m ih => intro r h; exact ih r h.2
      refine key l.reverse p.reverse ?_
      have e : (p ++ s :: l).reverse = l.reverse ++ s :: p.reverse := by rw [List.reverse_append, List.reverse_cons, List.append_assoc]; rfl
      rw [← e]
      exact hf
    have hids : findW (ordW (p ++ s :: l)) s.e.a = idsR s.e.a p.reverse ++ idsF s.e.a p (s :: l) := by
      unfold ordW
      rw [(ordR_all _).2.1, idsR_app]
    have hpass : passW (qOf N p) (findW (ordW (p ++ s :: l)) s.e.a) = (idsR s.e.a p.reverse).length := by
      rw [hids]
      refine passW_all (fun x hx => ?_) (fun x hx => ?_)
      · have h1 := idsR_early s.e.a _ x hx
        obtain ⟨h2, h3⟩ := idsR_core s.e.a hokp x hx
        obtain ⟨j, hj⟩ := Int.eq_ofNat_of_zero_le h2
        rw [hj, Int.toNat_natCast, qOf_get p (by omega)]
        rw [cntL_reverse, hj] at h1
        exact h1
      · have hm := List.mem_of_mem_head? hx
        have h1 := idsF_late s.e.a _ p x hm
        by_cases hr : x.c.toNat < N
        · rw [qOf_get p hr]
          by_cases h0 : 0 ≤ x.c
          · rw [Int.toNat_of_nonneg h0]; omega
          · have : cntL p x.c = 0 := cntL_none fun y hy => by have := hc y (by simp [hy]); omega
            have hz : cntL p x.c ≤ 0 := by omega
            exfalso
            have hall : ∀ z ∈ idsF s.e.a p (s :: l), 0 ≤ z.c := by
              have key : ∀ (m w : List Stp), (∀ y ∈ m, 0 ≤ y.c) → ∀ z ∈ idsF s.e.a w m, 0 ≤ z.c := by
                intro m
                induction m with
                | nil => intro w _ z hz; simp [idsF] at hz
                | cons y m ih =>
                  intro w hy z hz
                  rw [idsF] at hz
                  rcases List.mem_append.1 hz with hz | hz
                  · by_cases hk : y.e.k = 1 ∧ y.e.a = s.e.a
                    · rw [if_pos hk, List.mem_singleton] at hz; rw [hz]; exact hy y (by simp)
                    · rw [if_neg hk] at hz; simp at hz
                  · exact ih _ (fun u hu => hy u (by simp [hu])) z hz
              exact key (s :: l) p fun y hy => (hc y (List.mem_append_right _ hy)).1
            exact h0 (hall x hm)
        · rw [List.getD_eq_getElem?_getD, List.getElem?_eq_none (by simp [qOf]; omega)]
          simp only [Option.getD_none]
          omega
    have hcan : canW (spT N (p ++ s :: l)) (ordW (p ++ s :: l)) (qOf N p) i = true := by
      unfold canW
      rw [hq, if_pos hlt, hev, hpass, hids]
      by_cases hst : s.e.k = 1
      · rw [if_pos hst, decide_eq_true_eq, List.getElem?_append_right (Nat.le_refl _), Nat.sub_self, idsF, if_pos ⟨hst, rfl⟩]
        rw [hi]
        rfl
      · rw [if_neg hst]
        have hv : s.e.v = valR s.e.a p.reverse := hfs.resolve_left hst
        obtain ⟨g1, g2⟩ := last_val (N := N) s.e.a p.reverse (s :: l) hokp
        rw [List.reverse_reverse] at g2
        cases hn : (idsR s.e.a p.reverse).length with
        | zero => simp only; rw [hv, g1 (List.eq_nil_of_length_eq_zero hn)]; rfl
        | succ k =>
          have hkl : k < (idsR s.e.a p.reverse).length := by omega
          have hlast : (idsR s.e.a p.reverse).getLast? = some (idsR s.e.a p.reverse)[k] := by
            rw [List.getLast?_eq_getElem?, hn, Nat.add_sub_cancel, List.getElem?_eq_getElem hkl]
          simp only
          rw [List.getElem?_append_left hkl, List.getElem?_eq_getElem hkl]
          simp only
          rw [g2 _ hlast, hv]
          simp
    rw [List.map_cons, walkW, hi, Int.toNat_natCast, hcan, decide_eq_true (show i < (spT N (p ++ s :: l)).length by rw [spT_length]; exact hiN), qOf_next p s hiN hi]
    simpa using ih
end Go.Proofs.Ytdmdljimbmhecaa
