/- What the laws' walks rest upon, part 18. -/
import Derived.Test.YtnnfkmjhaljplaaGreatDoorM01
import Derived.Test.YtnnfkmjhaljplaaGreatDoorM16
namespace Go.Proofs.YtnnfkmjhaljplaaGreatDoor
/-- An id of a store; a list of them for an address. -/
structure Wid where
  c : Int
  i : Int
deriving DecidableEq
structure Wls where
  a : Int
  ids : List Wid
deriving DecidableEq
def evN (t : List (List Ev)) (c k : Nat) : Ev := (t.getD c []).getD k ⟨0, 0, 0⟩
/-- The ids of an address (the first list that bears it). -/
def findW : List Wls → Int → List Wid
  | [], _ => []
  | w :: r, a => if w.a = a then w.ids else findW r a
/-- How many ids from the first one on are behind us. -/
def passW (q : List Nat) : List Wid → Nat
  | [] => 0
  | x :: r => if x.i < (q.getD x.c.toNat 0 : Int) then passW q r + 1 else 0
/-- The next event of core c can come, behind q of each core. -/
def canW (t : List (List Ev)) (os : List Wls) (q : List Nat) (c : Nat) : Bool :=
  if q.getD c 0 < (t.getD c []).length then
    if (evN t c (q.getD c 0)).k = 1 then decide ((findW os (evN t c (q.getD c 0)).a)[passW q (findW os (evN t c (q.getD c 0)).a)]? = some ⟨(c : Int), ((q.getD c 0 : Nat) : Int)⟩)
    else match passW q (findW os (evN t c (q.getD c 0)).a) with
      | 0 => decide ((evN t c (q.getD c 0)).v = 0)
      | k + 1 => match (findW os (evN t c (q.getD c 0)).a)[k]? with
        | some x => decide ((evN t c (q.getD c 0)).v = (evN t x.c.toNat x.i.toNat).v)
        | none => false
  else false
def nextQ (q : List Nat) (c : Nat) : List Nat := q.set c (q.getD c 0 + 1)
/-- A row that fits, from q on. -/
def walkW (t : List (List Ev)) (os : List Wls) : List Nat → List Nat → Bool
  | _, [] => true
  | q, c :: r => decide (c < t.length) && canW t os q c && walkW t os (nextQ q c) r
/-- The first of the cores c, c + 1, .. (m of them) that leads on. -/
def firstC (f : Nat → Option (List Nat)) : Nat → Nat → Option (List Nat)
  | _, 0 => none
  | c, m + 1 => match f c with
    | some r => some r
    | none => firstC f (c + 1) m
/-- The first row of n turns that fits, from q on. -/
def firstW (t : List (List Ev)) (os : List Wls) : Nat → List Nat → Option (List Nat)
  | 0, _ => some []
  | n + 1, q => firstC (fun c => if canW t os q c = true then (firstW t os n (nextQ q c)).map (c :: ·) else none) 0 t.length
theorem firstC_some {f : Nat → Option (List Nat)} : ∀ {m c : Nat} {r : List Nat}, firstC f c m = some r → ∃ d, c ≤ d ∧ d < c + m ∧ f d = some r ∧ ∀ e, c ≤ e → e < d → f e = none
  | 0, c, r, h => by simp [firstC] at h
  | m + 1, c, r, h => by
    unfold firstC at h
    cases hf : f c with
    | some x =>
      rw [hf] at h
      simp only [Option.some.injEq] at h
      subst h
      exact ⟨c, Nat.le_refl _, by omega, hf, fun e h1 h2 => absurd h1 (by omega)⟩
    | none =>
      rw [hf] at h
      obtain ⟨d, h1, h2, h3, h4⟩ := firstC_some h
      refine ⟨d, by omega, by omega, h3, fun e h5 h6 => ?_⟩
      by_cases he : e = c
      · rw [he]; exact hf
      · exact h4 e (by omega) h6
/-- Where a search stands: what is ahead of c leads nowhere. -/
theorem firstC_from {f : Nat → Option (List Nat)} {N : Nat} : ∀ {c : Nat}, c ≤ N → (∀ d, d < c → f d = none) → firstC f 0 N = firstC f c (N - c)
  | 0, _, _ => rfl
  | c + 1, hc, h => by
    rw [firstC_from (c := c) (by omega) (fun d hd => h d (by omega)), show N - c = (N - (c + 1)) + 1 by omega, firstC, h c (Nat.lt_succ_self c)]
theorem firstW_sound (t : List (List Ev)) (os : List Wls) : ∀ (n : Nat) (q r : List Nat), firstW t os n q = some r → walkW t os q r = true ∧ r.length = n
  | 0, q, r, h => by
    simp only [firstW, Option.some.injEq] at h
    subst h
    exact ⟨rfl, rfl⟩
  | n + 1, q, r, h => by
    unfold firstW at h
    obtain ⟨c, _, hc, hf, _⟩ := firstC_some h
    by_cases hcan : canW t os q c = true
    · rw [if_pos hcan] at hf
      cases hn : firstW t os n (nextQ q c) with
      | none => rw [hn] at hf; simp at hf
      | some s =>
        rw [hn] at hf
        simp only [Option.map_some, Option.some.injEq] at hf
        subst hf
        obtain ⟨a, b⟩ := firstW_sound t os n _ s hn
        refine ⟨?_, by rw [List.length_cons, b]⟩
        rw [walkW, a, hcan, decide_eq_true (show c < t.length by omega)]
        rfl
    · rw [if_neg hcan] at hf; simp at hf
/-- A number for so many of each core. -/
def keyW : List Nat → Nat → Nat
  | [], n => n
  | x :: r, n => keyW r (n * 9 + x)
theorem keyW_inj : ∀ (q p : List Nat) (m n : Nat), q.length = p.length → (∀ x ∈ q, x ≤ 8) → (∀ x ∈ p, x ≤ 8) → keyW q m = keyW p n → q = p ∧ m = n
  | [], [], m, n, _, _, _, h => ⟨rfl, h⟩
  | [], _ :: _, _, _, hl, _, _, _ => by simp at hl
  | _ :: _, [], _, _, hl, _, _, _ => by simp at hl
  | x :: q, y :: p, m, n, hl, hq, hp, h => by
    obtain ⟨e, h2⟩ := keyW_inj q p _ _ (by simpa using hl) (fun z hz => hq z (by simp [hz])) (fun z hz => hp z (by simp [hz])) h
    have hx := hq x (by simp)
    have hy := hp y (by simp)
    refine ⟨?_, by omega⟩
    rw [e, show x = y by omega]
theorem keyW_lt : ∀ (q : List Nat) (m : Nat), (∀ x ∈ q, x ≤ 8) → keyW q m < (m + 1) * 9 ^ q.length
  | [], m, _ => by simp [keyW]
  | x :: q, m, h => by
    have hx := h x (by simp)
    have := keyW_lt q (m * 9 + x) (fun z hz => h z (by simp [hz]))
    rw [keyW, List.length_cons, Nat.pow_succ]
    refine Nat.lt_of_lt_of_le this ?_
    calc (m * 9 + x + 1) * 9 ^ q.length ≤ ((m + 1) * 9) * 9 ^ q.length := Nat.mul_le_mul (by omega) (Nat.le_refl _)
      _ = (m + 1) * (9 ^ q.length * 9) := by rw [Nat.mul_assoc, Nat.mul_comm 9]
end Go.Proofs.YtnnfkmjhaljplaaGreatDoor
namespace Go.Proofs.YtnnfkmjhaljplaaGreatDoor
def idW (t : List (List Ev)) (a : Int) (x : Wid) : Prop := (0 ≤ x.c ∧ x.c < (t.length : Int)) ∧ (0 ≤ x.i ∧ x.i < ((t.getD x.c.toNat []).length : Int)) ∧ (evN t x.c.toNat x.i.toNat).k = 1 ∧ (evN t x.c.toNat x.i.toNat).a = a
def cntS (a : Int) : List Ev → Nat
  | [] => 0
  | e :: r => (if e.k = 1 ∧ e.a = a then 1 else 0) + cntS a r
def cntY : List Ev → Nat
  | [] => 0
  | e :: r => (if e.k = 1 then 1 else 0) + cntY r
def storesW (a : Int) : List (List Ev) → Nat
  | [] => 0
  | l :: r => cntS a l + storesW a r
def allW : List (List Ev) → Nat
  | [] => 0
  | l :: r => cntY l + allW r
def listW (t : List (List Ev)) (w : Wls) : Prop := w.ids.length ≠ 0 ∧ w.ids.length = storesW w.a t ∧ (∀ x ∈ w.ids, idW t w.a x) ∧ w.ids.Nodup
def risO (os : List Wls) : Prop := os.Pairwise fun v w => v.a < w.a
def sumO : List Wls → Nat
  | [] => 0
  | w :: r => w.ids.length + sumO r
def rightO (t : List (List Ev)) (os : List Wls) : Prop := (∀ w ∈ os, listW t w) ∧ risO os ∧ sumO os = allW t
open Classical in
noncomputable def odF (t : List (List Ev)) (os : List Wls) : Int := if trF t = 0 then (if rightO t os then 0 else 7) else trF t
/-- An id is put behind those of its address: as the model goes. -/
def putW (a : Int) (x : Wid) : Bool → List Wls → List Wls
  | d, [] => if d = true then [] else [⟨a, [x]⟩]
  | d, w :: r => (if d = false ∧ a < w.a then [⟨a, [x]⟩] else []) ++ ((if w.a = a then ⟨w.a, w.ids ++ [x]⟩ else w) :: putW a x (d || decide (a < w.a) || decide (w.a = a)) r)
def insW (a : Int) (x : Wid) : List Wls → List Wls
  | [] => [⟨a, [x]⟩]
  | w :: r => if a < w.a then ⟨a, [x]⟩ :: w :: r else if w.a = a then ⟨a, w.ids ++ [x]⟩ :: r else w :: insW a x r
theorem putW_done {a : Int} {x : Wid} : ∀ {os : List Wls}, (∀ w ∈ os, w.a ≠ a) → putW a x true os = os
  | [], _ => rfl
  | w :: r, h => by
    have hw := h w (by simp)
    rw [putW, if_neg (by simp), if_neg hw]
    simp only [Bool.true_or, List.nil_append]
    rw [putW_done fun v hv => h v (by simp [hv])]
theorem putW_ins {a : Int} {x : Wid} : ∀ {os : List Wls}, risO os → putW a x false os = insW a x os
  | [], _ => rfl
  | w :: r, h => by
    obtain ⟨h1, h2⟩ := List.pairwise_cons.1 h
    rw [putW, insW]
    by_cases hlt : a < w.a
    · have hne : ¬ w.a = a := by omega
      rw [if_pos ⟨rfl, hlt⟩, if_pos hlt, if_neg hne]
      simp only [decide_eq_true hlt, Bool.false_or, Bool.true_or]
      rw [putW_done fun v hv => by have := h1 v hv; omega]
      rfl
    · rw [if_neg (fun hh => hlt hh.2), if_neg hlt]
      by_cases he : w.a = a
      · rw [if_pos he, if_pos he]
        simp only [decide_eq_true he, Bool.or_true]
        rw [putW_done fun v hv => by have := h1 v hv; omega, he]
        rfl
      · rw [if_neg he, if_neg he]
        simp only [decide_eq_false hlt, decide_eq_false he, Bool.or_self]
        rw [putW_ins h2]
        rfl
theorem mem_ins {a : Int} {x : Wid} : ∀ {os : List Wls} {w : Wls}, risO os → w ∈ insW a x os → (w.a = a ∧ w.ids = findW os a ++ [x]) ∨ (w ∈ os ∧ w.a ≠ a)
  | [], w, _, h => by
    rw [insW, List.mem_singleton] at h
    subst h
    exact .inl ⟨rfl, rfl⟩
  | v :: r, w, hr, h => by
    obtain ⟨h1, h2⟩ := List.pairwise_cons.1 hr
    have hno : ∀ {l : List Wls}, (∀ u ∈ l, u.a ≠ a) → findW l a = [] := by
      intro l
      induction l with
      | nil => intro _; rfl
      | cons u r ih => intro hh; rw [findW, if_neg (hh u (by simp))]; exact ih fun z hz => hh z (by simp [hz])
    rw [insW] at h
    by_cases hlt : a < v.a
    · rw [if_pos hlt] at h
      rcases List.mem_cons.1 h with rfl | h
      · exact .inl ⟨rfl, by rw [hno fun u hu => by rcases List.mem_cons.1 hu with rfl | hu; omega; have := h1 u hu; omega]; rfl⟩
      · refine .inr ⟨h, ?_⟩
        rcases List.mem_cons.1 h with rfl | h
        · omega
        · have := h1 w h; omega
    · rw [if_neg hlt] at h
      by_cases he : v.a = a
      · rw [if_pos he] at h
        rcases List.mem_cons.1 h with rfl | h
        · exact .inl ⟨rfl, by rw [findW, if_pos he]⟩
        · exact .inr ⟨by simp [h], by have := h1 w h; omega⟩
      · rw [if_neg he] at h
        rcases List.mem_cons.1 h with rfl | h
        · exact .inr ⟨by simp, he⟩
        · rcases mem_ins h2 h with ⟨e1, e2⟩ | ⟨e1, e2⟩
          · exact .inl ⟨e1, by rw [findW, if_neg he]; exact e2⟩
          · exact .inr ⟨by simp [e1], e2⟩
theorem ris_ins {a : Int} {x : Wid} : ∀ {os : List Wls}, risO os → risO (insW a x os)
  | [], _ => List.pairwise_singleton _ _
  | v :: r, h => by
    obtain ⟨h1, h2⟩ := List.pairwise_cons.1 h
    rw [insW]
    by_cases hlt : a < v.a
    · rw [if_pos hlt]
      refine List.pairwise_cons.2 ⟨fun w hw => ?_, h⟩
      rcases List.mem_cons.1 hw with rfl | hw
      · exact hlt
      · have := h1 w hw; simp only; omega
    · rw [if_neg hlt]
      by_cases he : v.a = a
      · rw [if_pos he]
        exact List.pairwise_cons.2 ⟨fun w hw => by have := h1 w hw; simp only; omega, h2⟩
      · rw [if_neg he]
        refine List.pairwise_cons.2 ⟨fun w hw => ?_, ris_ins h2⟩
        rcases mem_ins h2 hw with ⟨e, _⟩ | ⟨e, _⟩
        · omega
        · exact h1 w e
theorem find_ins {a : Int} {x : Wid} (b : Int) : ∀ {os : List Wls}, risO os → findW (insW a x os) b = if b = a then findW os a ++ [x] else findW os b
  | [], _ => by
    show (if a = b then [x] else []) = if b = a then [] ++ [x] else []
    by_cases hb : b = a
    · rw [if_pos hb.symm, if_pos hb]; rfl
    · rw [if_neg (fun e => hb e.symm), if_neg hb]
  | v :: r, h => by
    obtain ⟨h1, h2⟩ := List.pairwise_cons.1 h
    have hno : ∀ {l : List Wls}, (∀ u ∈ l, u.a ≠ a) → findW l a = [] := by
      intro l
      induction l with
      | nil => intro _; rfl
      | cons u r ih => intro hh; rw [findW, if_neg (hh u (by simp))]; exact ih fun z hz => hh z (by simp [hz])
    rw [insW]
    by_cases hlt : a < v.a
    · rw [if_pos hlt, findW]
      by_cases hb : b = a
      · rw [if_pos hb.symm, if_pos hb, hno fun u hu => by rcases List.mem_cons.1 hu with rfl | hu; omega; have := h1 u hu; omega]; rfl
      · rw [if_neg (fun e => hb e.symm), if_neg hb]
    · rw [if_neg hlt]
      by_cases he : v.a = a
      · rw [if_pos he, findW, findW, if_pos he]
        by_cases hb : b = a
        · rw [if_pos hb.symm, if_pos hb]
        · rw [if_neg (fun e => hb e.symm), if_neg hb, findW, if_neg (fun e => hb (by omega))]
      · rw [if_neg he, findW, find_ins b h2, findW, if_neg he]
        by_cases hb : b = a
        · rw [if_neg (show ¬ v.a = b by omega), if_pos hb, if_pos hb]
        · rw [if_neg hb, if_neg hb, findW]
theorem sum_ins {a : Int} {x : Wid} : ∀ {os : List Wls}, sumO (insW a x os) = sumO os + 1
  | [] => rfl
  | v :: r => by
    rw [insW]
    by_cases hlt : a < v.a
    · rw [if_pos hlt]; simp only [sumO, List.length_singleton]; omega
    · rw [if_neg hlt]
      by_cases he : v.a = a
      · rw [if_pos he]; simp only [sumO, List.length_append, List.length_singleton]; omega
      · rw [if_neg he]; simp only [sumO, sum_ins (os := r)]; omega
/-- The write order of a log. -/
def ordR : List Stp → List Wls
  | [] => []
  | s :: r => if s.e.k = 1 then putW s.e.a ⟨s.c, (cntL r s.c : Nat)⟩ false (ordR r) else ordR r
def ordW (ss : List Stp) : List Wls := ordR ss.reverse
theorem cntL_reverse (j : Int) : ∀ ss : List Stp, cntL ss.reverse j = cntL ss j
  | [] => rfl
  | s :: r => by
    rw [List.reverse_cons, cntL_append, cntL_reverse j r]
    simp only [cntL]
    omega
theorem ordW_snoc (ss : List Stp) (s : Stp) : ordW (ss ++ [s]) = if s.e.k = 1 then putW s.e.a ⟨s.c, (cntL ss s.c : Nat)⟩ false (ordW ss) else ordW ss := by
  unfold ordW
  rw [List.reverse_append]
  show ordR (s :: ss.reverse) = _
  rw [ordR, cntL_reverse]
def idsR (a : Int) : List Stp → List Wid
  | [] => []
  | s :: r => if s.e.k = 1 ∧ s.e.a = a then idsR a r ++ [⟨s.c, (cntL r s.c : Nat)⟩] else idsR a r
/-- The order of a log, address by address. -/
theorem ordR_all : ∀ ss : List Stp, risO (ordR ss) ∧ (∀ a, findW (ordR ss) a = idsR a ss) ∧ (∀ w ∈ ordR ss, w.ids = idsR w.a ss ∧ w.ids ≠ [])
  | [] => ⟨List.Pairwise.nil, fun _ => rfl, fun w hw => by simp [ordR] at hw⟩
  | s :: r => by
    obtain ⟨h1, h2, h3⟩ := ordR_all r
    rw [ordR]
    by_cases hk : s.e.k = 1
    · rw [if_pos hk, putW_ins h1]
      refine ⟨ris_ins h1, fun a => ?_, fun w hw => ?_⟩
      · rw [find_ins a h1, idsR]
        by_cases ha : a = s.e.a
        · rw [if_pos ha, if_pos ⟨hk, ha.symm⟩, ← ha, h2]
        · rw [if_neg ha, if_neg (fun hh => ha hh.2.symm), h2]
      · rcases mem_ins h1 hw with ⟨e1, e2⟩ | ⟨e1, e2⟩
        · refine ⟨by rw [e2, h2, idsR, e1, if_pos ⟨hk, rfl⟩], by rw [e2]; simp⟩
        · refine ⟨by rw [idsR, if_neg (fun hh => e2 hh.2.symm)]; exact (h3 w e1).1, (h3 w e1).2⟩
    · rw [if_neg hk]
      exact ⟨h1, fun a => by rw [idsR, if_neg (fun hh => hk hh.1)]; exact h2 a, fun w hw => by rw [idsR, if_neg (fun hh => hk hh.1)]; exact h3 w hw⟩
end Go.Proofs.YtnnfkmjhaljplaaGreatDoor
namespace Go.Proofs.YtnnfkmjhaljplaaGreatDoor
theorem cntS_append (a : Int) : ∀ l m : List Ev, cntS a (l ++ m) = cntS a l + cntS a m
  | [], m => by simp [cntS]
  | e :: r, m => by rw [List.cons_append, cntS, cntS, cntS_append a r m]; omega
theorem cntY_append : ∀ l m : List Ev, cntY (l ++ m) = cntY l + cntY m
  | [], m => by simp [cntY]
  | e :: r, m => by rw [List.cons_append, cntY, cntY, cntY_append r m]; omega
theorem storesW_set (a : Int) (l' : List Ev) : ∀ (t : List (List Ev)) (i : Nat) (hi : i < t.length), storesW a (t.set i l') + cntS a t[i] = storesW a t + cntS a l'
  | [], i, hi => by simp at hi
  | l :: r, 0, _ => by simp only [List.set_cons_zero, storesW, List.getElem_cons_zero]; omega
  | l :: r, i + 1, hi => by
    have := storesW_set a l' r i (by simpa using hi)
    simp only [List.set_cons_succ, storesW, List.getElem_cons_succ]
    omega
theorem allW_set (l' : List Ev) : ∀ (t : List (List Ev)) (i : Nat) (hi : i < t.length), allW (t.set i l') + cntY t[i] = allW t + cntY l'
  | [], i, hi => by simp at hi
  | l :: r, 0, _ => by simp only [List.set_cons_zero, allW, List.getElem_cons_zero]; omega
  | l :: r, i + 1, hi => by
    have := allW_set l' r i (by simpa using hi)
    simp only [List.set_cons_succ, allW, List.getElem_cons_succ]
    omega
theorem getD_set (t : List (List Ev)) (i c : Nat) (l' : List Ev) (hi : i < t.length) : (t.set i l').getD c [] = if c = i then l' else t.getD c [] := by
  rw [List.getD_eq_getElem?_getD, List.getElem?_set]
  by_cases h : i = c
  · subst h
    rw [if_pos rfl, if_pos hi, if_pos rfl]
    rfl
  · rw [if_neg h, if_neg (fun e => h e.symm), List.getD_eq_getElem?_getD]
/-- An event more behind core i. -/
theorem idW_more {t : List (List Ev)} {i : Nat} {e : Ev} (hi : i < t.length) {a : Int} {x : Wid} (h : idW t a x) : idW (t.set i (t.getD i [] ++ [e])) a x := by
  obtain ⟨h1, h2, h3, h4⟩ := h
  have hg := getD_set t i x.c.toNat (t.getD i [] ++ [e]) hi
  have he : evN (t.set i (t.getD i [] ++ [e])) x.c.toNat x.i.toNat = evN t x.c.toNat x.i.toNat := by
    unfold evN
    rw [hg]
    by_cases hc : x.c.toNat = i
    · rw [if_pos hc, ← hc, List.getD_eq_getElem?_getD, List.getElem?_append_left (by omega), ← List.getD_eq_getElem?_getD]
    · rw [if_neg hc]
  refine ⟨by rw [List.length_set]; exact h1, ⟨h2.1, ?_⟩, by rw [he]; exact h3, by rw [he]; exact h4⟩
  rw [hg]
  by_cases hc : x.c.toNat = i
  · rw [if_pos hc, List.length_append, ← hc]
    have := h2.2
    omega
  · rw [if_neg hc]; exact h2.2
theorem idW_new {t : List (List Ev)} {i : Nat} {e : Ev} (hi : i < t.length) (hk : e.k = 1) : idW (t.set i (t.getD i [] ++ [e])) e.a ⟨(i : Int), ((t.getD i []).length : Int)⟩ := by
  have hg := getD_set t i i (t.getD i [] ++ [e]) hi
  rw [if_pos rfl] at hg
  have he : evN (t.set i (t.getD i [] ++ [e])) i (t.getD i []).length = e := by
    unfold evN
    rw [hg, List.getD_eq_getElem?_getD, List.getElem?_append_right (Nat.le_refl _), Nat.sub_self]
    rfl
  refine ⟨⟨by simp only; omega, by simp only [List.length_set]; omega⟩, ⟨by simp only; omega, ?_⟩, ?_, ?_⟩
  · simp only [Int.toNat_natCast]
    rw [hg, List.length_append, List.length_singleton]
    omega
  · simp only [Int.toNat_natCast]; rw [he]; exact hk
  · simp only [Int.toNat_natCast]; rw [he]
/-- The log as the model's list goes: the newest step first. -/
def okR (N : Nat) (r : List Stp) : Prop := ∀ s ∈ r, 0 ≤ s.c ∧ s.c < (N : Int)
theorem spT_step {N : Nat} {s : Stp} {r : List Stp} (h : 0 ≤ s.c ∧ s.c < (N : Int)) : ∃ i : Nat, s.c = (i : Int) ∧ i < (spT N r.reverse).length ∧ ((spT N r.reverse).getD i []).length = cntL r (i : Int) ∧ spT N (s :: r).reverse = (spT N r.reverse).set i ((spT N r.reverse).getD i [] ++ [s.e]) := by
  obtain ⟨i, hi⟩ := Int.eq_ofNat_of_zero_le h.1
  have hl : i < (spT N r.reverse).length := by rw [spT_length]; omega
  have hg : (spT N r.reverse).getD i [] = colE (i : Int) r.reverse := by rw [List.getD_eq_getElem?_getD, List.getElem?_eq_getElem hl, spT_get]; rfl
  refine ⟨i, hi, hl, by rw [hg, colE_length, cntL_reverse], ?_⟩
  rw [List.reverse_cons, spT_snoc N r.reverse s i hi, hg]
theorem ids_right {N : Nat} (a : Int) : ∀ {r : List Stp}, okR N r → (∀ x ∈ idsR a r, idW (spT N r.reverse) a x) ∧ (idsR a r).length = storesW a (spT N r.reverse) ∧ (idsR a r).Nodup
  | [], _ => by
    refine ⟨fun x hx => by simp [idsR] at hx, ?_, List.nodup_nil⟩
    rw [List.reverse_nil, spT_nil]
    have key : ∀ n, storesW a (List.replicate n []) = 0 := by
      intro n
      induction n with
      | zero => rfl
      | succ n ih => rw [List.replicate_succ, storesW, ih]; rfl
    rw [key]
    rfl
  | s :: r, h => by
    obtain ⟨h1, h2, h3⟩ := ids_right a (r := r) (fun x hx => h x (by simp [hx]))
    obtain ⟨i, hi, hl, hc, hs⟩ := spT_step (r := r) (h s (by simp))
    obtain ⟨t, ht⟩ : ∃ t, t = spT N r.reverse := ⟨_, rfl⟩
    rw [← ht] at h1 h2 hl hc hs
    rw [hs, idsR]
    have hst := storesW_set a (t.getD i [] ++ [s.e]) t i hl
    have hgi : t.getD i [] = t[i] := by rw [List.getD_eq_getElem?_getD, List.getElem?_eq_getElem hl]; rfl
    rw [cntS_append, hgi] at hst
    by_cases hk : s.e.k = 1 ∧ s.e.a = a
    · rw [if_pos hk]
      have hone : cntS a [s.e] = 1 := by rw [cntS, if_pos hk]; rfl
      refine ⟨fun x hx => ?_, ?_, ?_⟩
      · rcases List.mem_append.1 hx with hx | hx
        · exact idW_more hl (h1 x hx)
        · rw [List.mem_singleton] at hx
          rw [hx, hi, ← hc, ← hk.2]
          exact idW_new hl hk.1
      · rw [List.length_append, List.length_singleton, h2, hgi]
        omega
      · rw [List.nodup_append]
        refine ⟨h3, by simp, fun x hx y hy e => ?_⟩
        rw [List.mem_singleton] at hy
        obtain ⟨_, g2, _⟩ := h1 x hx
        rw [e, hy, hi] at g2
        simp only [Int.toNat_natCast] at g2
        omega
    · rw [if_neg hk]
      have hno : cntS a [s.e] = 0 := by rw [cntS, if_neg hk]; rfl
      exact ⟨fun x hx => idW_more hl (h1 x hx), by rw [h2, hgi]; omega, h3⟩
theorem sum_right {N : Nat} : ∀ {r : List Stp}, okR N r → sumO (ordR r) = allW (spT N r.reverse)
  | [], _ => by
    rw [List.reverse_nil, spT_nil]
    have key : ∀ n, allW (List.replicate n []) = 0 := by
      intro n
      induction n with
      | zero => rfl
      | succ n ih => rw [List.replicate_succ, allW, ih]; rfl
    rw [key]
    rfl
  | s :: r, h => by
    have ih := sum_right (r := r) (fun x hx => h x (by simp [hx]))
    obtain ⟨i, hi, hl, hc, hs⟩ := spT_step (r := r) (h s (by simp))
    obtain ⟨t, ht⟩ : ∃ t, t = spT N r.reverse := ⟨_, rfl⟩
    rw [← ht] at ih hl hc hs
    rw [hs, ordR]
    have hst := allW_set (t.getD i [] ++ [s.e]) t i hl
    have hgi : t.getD i [] = t[i] := by rw [List.getD_eq_getElem?_getD, List.getElem?_eq_getElem hl]; rfl
    rw [cntY_append, hgi] at hst
    by_cases hk : s.e.k = 1
    · rw [if_pos hk, putW_ins (ordR_all r).1, sum_ins, ih, hgi]
      have : cntY [s.e] = 1 := by rw [cntY, if_pos hk]; rfl
      omega
    · rw [if_neg hk, ih, hgi]
      have : cntY [s.e] = 0 := by rw [cntY, if_neg hk]; rfl
      omega
/-- The write order of a log is right for its split. -/
theorem ordW_right {ss : List Stp} {N : Nat} (h : ∀ s ∈ ss, 0 ≤ s.c ∧ s.c < (N : Int)) : rightO (spT N ss) (ordW ss) := by
  have hr : okR N ss.reverse := fun s hs => h s (List.mem_reverse.1 hs)
  obtain ⟨h1, h2, h3⟩ := ordR_all ss.reverse
  have hb : spT N ss = spT N ss.reverse.reverse := by rw [List.reverse_reverse]
  refine ⟨fun w hw => ?_, h1, by rw [hb]; exact sum_right hr⟩
  obtain ⟨e1, e2⟩ := h3 w hw
  obtain ⟨g1, g2, g3⟩ := ids_right w.a hr
  rw [hb]
  exact ⟨fun e => e2 (List.eq_nil_of_length_eq_zero e), by rw [e1]; exact g2, by rw [e1]; exact g1, by rw [e1]; exact g3⟩
end Go.Proofs.YtnnfkmjhaljplaaGreatDoor
namespace Go.Proofs.YtnnfkmjhaljplaaGreatDoor
end Go.Proofs.YtnnfkmjhaljplaaGreatDoor
namespace Go.Proofs.YtnnfkmjhaljplaaGreatDoor
/-- Rising, asked of neighbours. -/
theorem risO_adj : ∀ {os : List Wls}, (∀ i (h : i + 1 < os.length), os[i].a < os[i + 1].a) → risO os
  | [], _ => List.Pairwise.nil
  | [w], _ => List.pairwise_singleton _ _
  | w :: v :: r, h => by
    have ih : risO (v :: r) := risO_adj fun i hi => by
      have := h (i + 1) (by simp at hi ⊢; omega)
      simpa using this
    have h0 : w.a < v.a := by have := h 0 (by simp); simpa using this
    obtain ⟨h1, _⟩ := List.pairwise_cons.1 ih
    refine List.pairwise_cons.2 ⟨fun u hu => ?_, ih⟩
    rcases List.mem_cons.1 hu with rfl | hu
    · exact h0
    · have := h1 u hu; omega
theorem risO_next {os : List Wls} (h : risO os) (i : Nat) (hi : i + 1 < os.length) : os[i].a < os[i + 1].a := List.pairwise_iff_getElem.1 h i (i + 1) (by omega) hi (Nat.lt_succ_self i)
/-- A list that falls somewhere does not rise. -/
theorem risO_not {os : List Wls} {i : Nat} (hi : i + 1 < os.length) (h : os[i + 1].a ≤ os[i].a) : ¬ risO os := fun hr => by have := risO_next hr i hi; omega
theorem odF_t {t : List (List Ev)} {os : List Wls} (h : ¬ trF t = 0) : odF t os = trF t := by unfold odF; rw [if_neg h]
theorem odF_ok {t : List (List Ev)} {os : List Wls} (h : trF t = 0) (h2 : rightO t os) : odF t os = 0 := by unfold odF; rw [if_pos h, if_pos h2]
theorem odF_no {t : List (List Ev)} {os : List Wls} (h : trF t = 0) (h2 : ¬ rightO t os) : odF t os = 7 := by unfold odF; rw [if_pos h, if_neg h2]
theorem odF_zero {t : List (List Ev)} {os : List Wls} (h : odF t os = 0) : trF t = 0 ∧ rightO t os := by
  by_cases h1 : trF t = 0
  · by_cases h2 : rightO t os
    · exact ⟨h1, h2⟩
    · rw [odF_no h1 h2] at h; omega
  · rw [odF_t h1] at h; exact absurd h h1
def zeroQ (t : List (List Ev)) : List Nat := List.replicate t.length 0
def evsT (t : List (List Ev)) : Nat := (t.map List.length).sum
theorem evsT_sum : ∀ t : List (List Ev), evsT t = sumT t
  | [] => rfl
  | l :: r => by have := evsT_sum r; simp only [evsT] at this; simp only [evsT, List.map_cons, List.sum_cons, sumT]; omega
/-- The row that is told. -/
def rowW (t : List (List Ev)) (os : List Wls) : Option (List Nat) := firstW t os (evsT t) (zeroQ t)
def intR (r : List Nat) : List Int := r.map fun c : Nat => (c : Int)
/-- CheckTrace: its Code, Accept, Witness. -/
noncomputable def chkR (t : List (List Ev)) (os : List Wls) : Int × Bool × List Int :=
  if odF t os = 0 then (match rowW t os with | some r => (0, true, intR r) | none => (0, false, [])) else (odF t os, false, [])
theorem chk_code (t : List (List Ev)) (os : List Wls) : (chkR t os).1 = odF t os ∧ ((chkR t os).2.1 = false → (chkR t os).2.2 = []) ∧ ((chkR t os).1 ≠ 0 → (chkR t os).2.1 = false) := by
  unfold chkR
  by_cases h0 : odF t os = 0
  · rw [if_pos h0, h0]
    cases rowW t os with
    | none => exact ⟨rfl, fun _ => rfl, fun _ => rfl⟩
    | some r => exact ⟨rfl, fun h => by simp at h, fun h => absurd rfl h⟩
  · rw [if_neg h0]
    exact ⟨rfl, fun _ => rfl, fun _ => rfl⟩
end Go.Proofs.YtnnfkmjhaljplaaGreatDoor
namespace Go.Proofs.YtnnfkmjhaljplaaGreatDoor
theorem nodup_le {α : Type} [DecidableEq α] : ∀ {l m : List α}, l.Nodup → (∀ x ∈ l, x ∈ m) → l.length ≤ m.length
  | [], m, _, _ => Nat.zero_le _
  | x :: l, m, h, hs => by
    obtain ⟨h1, h2⟩ := List.nodup_cons.1 h
    have hx := hs x (by simp)
    have ih := nodup_le (m := m.erase x) h2 fun y hy => by
      have hne : y ≠ x := fun e => h1 (e ▸ hy)
      exact (List.mem_erase_of_ne hne).2 (hs y (by simp [hy]))
    rw [List.length_erase_of_mem hx] at ih
    have := List.length_pos_of_mem hx
    rw [List.length_cons]; omega
theorem perm_all {α : Type} [DecidableEq α] : ∀ {l m : List α}, l.Nodup → (∀ x ∈ l, x ∈ m) → l.length = m.length → l.Perm m
  | [], m, _, _, hl => by
    obtain rfl := List.eq_nil_of_length_eq_zero hl.symm
    exact List.Perm.refl _
  | x :: l, m, h, hs, hl => by
    obtain ⟨h1, h2⟩ := List.nodup_cons.1 h
    have hx := hs x (by simp)
    have ih := perm_all (m := m.erase x) h2 (fun y hy => by
      have hne : y ≠ x := fun e => h1 (e ▸ hy)
      exact (List.mem_erase_of_ne hne).2 (hs y (by simp [hy]))) (by
      rw [List.length_erase_of_mem hx, ← hl, List.length_cons, Nat.add_sub_cancel])
    exact (ih.cons x).trans (List.perm_cons_erase hx).symm
/-- The ids of all stores of an address, core by core. -/
def idsL (a : Int) (b : Nat) : Nat → List Ev → List Wid
  | _, [] => []
  | j, e :: r => (if e.k = 1 ∧ e.a = a then [⟨(b : Int), (j : Int)⟩] else []) ++ idsL a b (j + 1) r
def idsC (a : Int) : Nat → List (List Ev) → List Wid
  | _, [] => []
  | b, l :: r => idsL a b 0 l ++ idsC a (b + 1) r
theorem idsL_len (a : Int) (b : Nat) : ∀ (l : List Ev) (j : Nat), (idsL a b j l).length = cntS a l
  | [], _ => rfl
  | e :: r, j => by
    rw [idsL, List.length_append, idsL_len a b r, cntS]
    by_cases h : e.k = 1 ∧ e.a = a
    · rw [if_pos h, if_pos h]; rfl
    · rw [if_neg h, if_neg h]; rfl
theorem idsC_len (a : Int) : ∀ (t : List (List Ev)) (b : Nat), (idsC a b t).length = storesW a t
  | [], _ => rfl
  | l :: r, b => by rw [idsC, List.length_append, idsL_len, idsC_len a r, storesW]
theorem idsL_mem {a : Int} {b : Nat} : ∀ {l : List Ev} {j i : Nat} (hi : i < l.length), l[i].k = 1 → l[i].a = a → (⟨(b : Int), ((j + i : Nat) : Int)⟩ : Wid) ∈ idsL a b j l
  | e :: r, j, 0, _, hk, ha => by
    rw [idsL, if_pos ⟨hk, ha⟩]
    exact List.mem_append_left _ (by simp)
  | e :: r, j, i + 1, hi, hk, ha => by
    rw [idsL]
    refine List.mem_append_right _ ?_
    have := idsL_mem (b := b) (j := j + 1) (i := i) (by simpa using hi) (by simpa using hk) (by simpa using ha)
    rw [show j + (i + 1) = j + 1 + i by omega]
    exact this
theorem idsC_mem {a : Int} : ∀ {t : List (List Ev)} {b c i : Nat} (hc : c < t.length) (hi : i < t[c].length), t[c][i].k = 1 → t[c][i].a = a → (⟨((b + c : Nat) : Int), (i : Int)⟩ : Wid) ∈ idsC a b t
  | l :: r, b, 0, i, _, hi, hk, ha => by
    rw [idsC]
    have := idsL_mem (b := b) (j := 0) hi hk ha
    rw [Nat.zero_add] at this
    exact List.mem_append_left _ this
  | l :: r, b, c + 1, i, hc, hi, hk, ha => by
    rw [idsC]
    have := idsC_mem (b := b + 1) (c := c) (i := i) (by simpa using hc) (by simpa using hi) (by simpa using hk) (by simpa using ha)
    rw [show b + (c + 1) = b + 1 + c by omega]
    exact List.mem_append_right _ this
theorem evN_get (t : List (List Ev)) {c i : Nat} (hc : c < t.length) (hi : i < t[c].length) : evN t c i = t[c][i] ∧ t.getD c [] = t[c] := by
  have e : t.getD c [] = t[c] := by rw [List.getD_eq_getElem?_getD, List.getElem?_eq_getElem hc]; rfl
  refine ⟨?_, e⟩
  unfold evN
  rw [e, List.getD_eq_getElem?_getD, List.getElem?_eq_getElem hi]
  rfl
theorem idW_mem {t : List (List Ev)} {a : Int} {x : Wid} (h : idW t a x) : x ∈ idsC a 0 t := by
  obtain ⟨c, i⟩ := x
  obtain ⟨⟨c0, c1⟩, ⟨i0, i1⟩, hk, ha⟩ := h
  simp only at c0 c1 i0 i1 hk ha
  obtain ⟨c, rfl⟩ := Int.eq_ofNat_of_zero_le c0
  obtain ⟨i, rfl⟩ := Int.eq_ofNat_of_zero_le i0
  simp only [Int.toNat_natCast] at i1 hk ha
  have hc : c < t.length := by omega
  have e : t.getD c [] = t[c] := by rw [List.getD_eq_getElem?_getD, List.getElem?_eq_getElem hc]; rfl
  have hi : i < t[c].length := by rw [e] at i1; omega
  rw [(evN_get t hc hi).1] at hk ha
  have := idsC_mem (b := 0) hc hi hk ha
  rw [Nat.zero_add] at this
  exact this
theorem ids_le {t : List (List Ev)} {a : Int} {L : List Wid} (h : L.Nodup) (hx : ∀ x ∈ L, idW t a x) : L.length ≤ storesW a t := by
  rw [← idsC_len a t 0]
  exact nodup_le h fun x h => idW_mem (hx x h)
theorem list_has {t : List (List Ev)} {w : Wls} {x : Wid} (h : listW t w) (hx : idW t w.a x) : x ∈ w.ids := by
  obtain ⟨_, h1, h2, h3⟩ := h
  by_cases hm : x ∈ w.ids
  · exact hm
  · have := ids_le (t := t) (a := w.a) (L := x :: w.ids) (List.nodup_cons.2 ⟨hm, h3⟩) fun y hy => by
      rcases List.mem_cons.1 hy with rfl | hy
      · exact hx
      · exact h2 y hy
    rw [List.length_cons] at this
    omega
def sumF (f : Int → Nat) : List Int → Nat
  | [] => 0
  | a :: r => f a + sumF f r
theorem sumF_add (f g : Int → Nat) : ∀ l, sumF (fun a => f a + g a) l = sumF f l + sumF g l
  | [] => rfl
  | a :: r => by rw [sumF, sumF, sumF, sumF_add f g r]; omega
theorem sumF_zero {f : Int → Nat} : ∀ {l : List Int}, (∀ a ∈ l, f a = 0) → sumF f l = 0
  | [], _ => rfl
  | a :: r, h => by rw [sumF, h a (by simp), sumF_zero fun b hb => h b (by simp [hb])]
theorem sumF_one (e : Ev) : ∀ {l : List Int}, l.Nodup → sumF (fun a => if e.k = 1 ∧ e.a = a then 1 else 0) l ≤ if e.k = 1 then 1 else 0
  | [], _ => by simp [sumF]
  | a :: r, h => by
    obtain ⟨h1, h2⟩ := List.nodup_cons.1 h
    rw [sumF]
    by_cases hk : e.k = 1 ∧ e.a = a
    · rw [if_pos hk, if_pos hk.1, sumF_zero fun b hb => if_neg fun hh => h1 (by rw [← hk.2, hh.2]; exact hb)]
      exact Nat.le_refl _
    · rw [if_neg hk, Nat.zero_add]
      exact sumF_one e h2
theorem sumF_cnt : ∀ (es : List Ev) {l : List Int}, l.Nodup → sumF (fun a => cntS a es) l ≤ cntY es
  | [], l, _ => Nat.le_of_eq (sumF_zero fun _ _ => rfl)
  | e :: r, l, h => by
    have h1 := sumF_cnt r h
    have h2 := sumF_one e h
    have h3 := sumF_add (fun a => if e.k = 1 ∧ e.a = a then 1 else 0) (fun a => cntS a r) l
    simp only [cntS, cntY]
    omega
theorem sumF_stores : ∀ (t : List (List Ev)) {l : List Int}, l.Nodup → sumF (fun a => storesW a t) l ≤ allW t
  | [], l, _ => Nat.le_of_eq (sumF_zero fun _ _ => rfl)
  | e :: r, l, h => by
    have h1 := sumF_stores r h
    have h2 := sumF_cnt e h
    have h3 := sumF_add (fun a => cntS a e) (fun a => storesW a r) l
    simp only [storesW, allW]
    omega
theorem sumO_F {t : List (List Ev)} : ∀ {os : List Wls}, (∀ w ∈ os, listW t w) → sumO os = sumF (fun a => storesW a t) (os.map (·.a))
  | [], _ => rfl
  | w :: r, h => by rw [sumO, List.map_cons, sumF, sumO_F fun v hv => h v (by simp [hv]), (h w (by simp)).2.1]
theorem risO_map {os : List Wls} (h : risO os) : (os.map (·.a)).Pairwise (· < ·) := List.pairwise_map.2 h
theorem risO_nodup {os : List Wls} (h : risO os) : (os.map (·.a)).Nodup := (risO_map h).imp fun h e => by omega
theorem right_has {t : List (List Ev)} {os : List Wls} {a : Int} (h : rightO t os) (ha : 0 < storesW a t) : a ∈ os.map (·.a) := by
  obtain ⟨h1, h2, h3⟩ := h
  by_cases hm : a ∈ os.map (·.a)
  · exact hm
  · have := sumF_stores t (List.nodup_cons.2 ⟨hm, risO_nodup h2⟩)
    rw [sumF, ← sumO_F h1] at this
    omega
theorem sorted_same : ∀ {l m : List Int}, l.Pairwise (· < ·) → m.Pairwise (· < ·) → (∀ x, x ∈ l ↔ x ∈ m) → l = m
  | [], [], _, _, _ => rfl
  | [], y :: m, _, _, h => absurd ((h y).2 (by simp)) (by simp)
  | x :: l, [], _, _, h => absurd ((h x).1 (by simp)) (by simp)
  | x :: l, y :: m, hl, hm, h => by
    obtain ⟨a1, a2⟩ := List.pairwise_cons.1 hl
    obtain ⟨b1, b2⟩ := List.pairwise_cons.1 hm
    have hxy : x = y := by
      have p := (h x).1 (by simp)
      have q := (h y).2 (by simp)
      rcases List.mem_cons.1 p with e | p
      · exact e
      · rcases List.mem_cons.1 q with e | q
        · exact e.symm
        · have := a1 y q; have := b1 x p; omega
    subst hxy
    rw [sorted_same a2 b2 fun z => ?_]
    constructor
    · intro hz
      rcases List.mem_cons.1 ((h z).1 (by simp [hz])) with rfl | g
      · have := a1 z hz; omega
      · exact g
    · intro hz
      rcases List.mem_cons.1 ((h z).2 (by simp [hz])) with rfl | g
      · have := b1 z hz; omega
      · exact g
theorem list_pos {t : List (List Ev)} {w : Wls} (h : listW t w) : 0 < storesW w.a t := by have := h.1; have := h.2.1; omega
theorem right_same {t : List (List Ev)} {os O : List Wls} (h : rightO t os) (hO : rightO t O) : os.map (·.a) = O.map (·.a) := by
  refine sorted_same (risO_map h.2.1) (risO_map hO.2.1) fun x => ⟨fun hx => ?_, fun hx => ?_⟩
  · obtain ⟨w, hw, rfl⟩ := List.mem_map.1 hx
    exact right_has hO (list_pos (h.1 w hw))
  · obtain ⟨w, hw, rfl⟩ := List.mem_map.1 hx
    exact right_has h (list_pos (hO.1 w hw))
/-- As the program asks: as many ids, all of these among them. -/
def sameStW (v w : Wls) : Prop := v.a = w.a ∧ v.ids.length = w.ids.length ∧ ∀ x ∈ w.ids, x ∈ v.ids
instance (v w : Wls) : Decidable (sameStW v w) := by unfold sameStW; infer_instance
theorem right_iff {t : List (List Ev)} {os O : List Wls} (hO : rightO t O) : rightO t os ↔ os.length = O.length ∧ ∀ i (h : i < os.length) (h' : i < O.length), sameStW os[i] O[i] := by
  constructor
  · intro h
    have hm := right_same h hO
    have hl : os.length = O.length := by simpa using congrArg List.length hm
    refine ⟨hl, fun i hi hi' => ?_⟩
    have ha : os[i].a = O[i].a := by
      have : (os.map (·.a))[i]'(by simpa using hi) = (O.map (·.a))[i]'(by simpa using hi') := by simp only [hm]
      simpa using this
    have g := h.1 os[i] (List.getElem_mem hi)
    have gO := hO.1 O[i] (List.getElem_mem hi')
    refine ⟨ha, by rw [g.2.1, gO.2.1, ha], fun x hx => list_has g ?_⟩
    rw [ha]
    exact gO.2.2.1 x hx
  · rintro ⟨hl, h⟩
    have hp : ∀ i (hi : i < os.length) (hi' : i < O.length), O[i].ids.Perm os[i].ids := fun i hi hi' => by
      obtain ⟨_, h2, h3⟩ := h i hi hi'
      exact perm_all (hO.1 _ (List.getElem_mem hi')).2.2.2 h3 h2.symm
    have hsum : ∀ {l m : List Wls}, l.length = m.length → (∀ i (h : i < l.length) (h' : i < m.length), l[i].ids.length = m[i].ids.length) → sumO l = sumO m := by
      intro l
      induction l with
      | nil => intro m hl _; rw [List.eq_nil_of_length_eq_zero hl.symm]
      | cons x l ih =>
        intro m hl hh
        rcases m with _ | ⟨y, m⟩
        · simp at hl
        · have h0 := hh 0 (by simp) (by simp)
          have := ih (m := m) (by simpa using hl) fun i hi hi' => by have := hh (i + 1) (by simpa using hi) (by simpa using hi'); simpa using this
          simp only [List.getElem_cons_zero] at h0
          rw [sumO, sumO, h0, this]
    refine ⟨fun w hw => ?_, ?_, ?_⟩
    · obtain ⟨i, hi, rfl⟩ := List.getElem_of_mem hw
      have hi' : i < O.length := by omega
      obtain ⟨h1, h2, h3⟩ := h i hi hi'
      obtain ⟨g0, g1, g2, g3⟩ := hO.1 _ (List.getElem_mem hi')
      have P := hp i hi hi'
      refine ⟨by rw [h2]; exact g0, by rw [h2, h1]; exact g1, fun x hx => ?_, P.nodup_iff.1 g3⟩
      rw [h1]
      exact g2 x (P.mem_iff.2 hx)
    · refine List.pairwise_iff_getElem.2 fun i j hi hj hij => ?_
      rw [(h i hi (by omega)).1, (h j hj (by omega)).1]
      exact List.pairwise_iff_getElem.1 hO.2.1 i j _ _ hij
    · rw [← hO.2.2]
      exact hsum hl fun i hi hi' => (h i hi hi').2.1
theorem find_at {a : Int} : ∀ {os : List Wls}, a ∈ os.map (·.a) → ∃ w ∈ os, w.a = a ∧ findW os a = w.ids
  | [], h => by simp at h
  | v :: r, h => by
    by_cases he : v.a = a
    · exact ⟨v, by simp, he, by rw [findW, if_pos he]⟩
    · rw [List.map_cons, List.mem_cons] at h
      obtain ⟨w, h1, h2, h3⟩ := find_at (os := r) (h.resolve_left fun e => he e.symm)
      exact ⟨w, by simp [h1], h2, by rw [findW, if_neg he]; exact h3⟩
theorem find_none {a : Int} : ∀ {os : List Wls}, a ∉ os.map (·.a) → findW os a = []
  | [], _ => rfl
  | v :: r, h => by
    rw [List.map_cons, List.mem_cons, not_or] at h
    rw [findW, if_neg fun e => h.1 e.symm]
    exact find_none h.2
/-- Each store's id is found at its address; what is found there is such. -/
theorem right_find {t : List (List Ev)} {os : List Wls} {a : Int} {x : Wid} (h : rightO t os) (hx : idW t a x) : x ∈ findW os a := by
  have hp : 0 < storesW a t := by rw [← idsC_len a t 0]; exact List.length_pos_of_mem (idW_mem hx)
  obtain ⟨w, h1, h2, h3⟩ := find_at (right_has h hp)
  rw [h3]
  exact list_has (h.1 w h1) (by rw [h2]; exact hx)
theorem find_id {t : List (List Ev)} {os : List Wls} {a : Int} {x : Wid} (h : rightO t os) (hx : x ∈ findW os a) : idW t a x := by
  by_cases hm : a ∈ os.map (·.a)
  · obtain ⟨w, h1, h2, h3⟩ := find_at hm
    rw [h3] at hx
    rw [← h2]
    exact (h.1 w h1).2.2.1 x hx
  · rw [find_none hm] at hx; simp at hx
theorem pass_le (q : List Nat) : ∀ l : List Wid, passW q l ≤ l.length
  | [] => Nat.le_refl _
  | x :: r => by have := pass_le q r; rw [passW, List.length_cons]; split <;> omega
theorem pass_lt {q : List Nat} {x : Wid} : ∀ {l : List Wid}, x ∈ l → ¬ x.i < (q.getD x.c.toNat 0 : Int) → passW q l < l.length
  | [], h, _ => by simp at h
  | y :: r, h, hx => by
    rw [passW, List.length_cons]
    by_cases hy : y.i < (q.getD y.c.toNat 0 : Int)
    · rw [if_pos hy]
      rcases List.mem_cons.1 h with rfl | h
      · exact absurd hy hx
      · have := pass_lt h hx; omega
    · rw [if_neg hy]; omega
theorem pass_from {q : List Nat} : ∀ {l : List Wid} {k : Nat} (hk : k ≤ l.length), (∀ j (hj : j < k), l[j].i < (q.getD l[j].c.toNat 0 : Int)) → passW q l = k + passW q (l.drop k)
  | l, 0, _, _ => by simp
  | [], k + 1, hk, _ => by simp at hk
  | x :: r, k + 1, hk, h => by
    have h0 := h 0 (by omega)
    simp only [List.getElem_cons_zero] at h0
    rw [passW, if_pos h0, List.drop_succ_cons, pass_from (l := r) (k := k) (by simpa using hk) fun j hj => by have := h (j + 1) (by omega); simpa using this]
    omega
theorem pass_step {q : List Nat} {l : List Wid} {k : Nat} (hk : k < l.length) : passW q (l.drop k) = if l[k].i < (q.getD l[k].c.toNat 0 : Int) then passW q (l.drop (k + 1)) + 1 else 0 := by
  rw [List.drop_eq_getElem_cons hk, passW]
end Go.Proofs.YtnnfkmjhaljplaaGreatDoor
namespace Go.Proofs.YtnnfkmjhaljplaaGreatDoor
def endQ : List Nat → List Nat → List Nat
  | q, [] => q
  | q, c :: r => endQ (nextQ q c) r
theorem endQ_snoc : ∀ (r q : List Nat) (c : Nat), endQ q (r ++ [c]) = nextQ (endQ q r) c
  | [], _, _ => rfl
  | _ :: r, _, c => endQ_snoc r _ c
theorem walkW_append {t : List (List Ev)} {os : List Wls} : ∀ (r s q : List Nat), walkW t os q (r ++ s) = (walkW t os q r && walkW t os (endQ q r) s)
  | [], _, _ => by simp [walkW, endQ]
  | c :: r, s, q => by rw [List.cons_append, walkW, walkW_append r s, walkW, endQ]; simp only [Bool.and_assoc]
theorem walkW_snoc {t : List (List Ev)} {os : List Wls} (r q : List Nat) (c : Nat) : walkW t os q (r ++ [c]) = true ↔ walkW t os q r = true ∧ c < t.length ∧ canW t os (endQ q r) c = true := by
  rw [walkW_append, Bool.and_eq_true, walkW, walkW, Bool.and_true, Bool.and_eq_true, decide_eq_true_eq]
theorem nextQ_get {q : List Nat} {c : Nat} (hc : c < q.length) (j : Nat) : (nextQ q c).getD j 0 = if j = c then q.getD c 0 + 1 else q.getD j 0 := by
  unfold nextQ
  by_cases h : j = c
  · subst h
    rw [if_pos rfl, List.getD_eq_getElem?_getD, List.getElem?_set_self hc]
    rfl
  · rw [if_neg h, List.getD_eq_getElem?_getD, List.getElem?_set_ne (by omega), ← List.getD_eq_getElem?_getD]
theorem nextQ_len (q : List Nat) (c : Nat) : (nextQ q c).length = q.length := by simp [nextQ]
theorem nextQ_sum : ∀ {q : List Nat} {c : Nat}, c < q.length → (nextQ q c).sum = q.sum + 1
  | x :: q, 0, _ => by simp only [nextQ, List.getD_cons_zero, List.set_cons_zero, List.sum_cons]; omega
  | x :: q, c + 1, h => by
    have := nextQ_sum (q := q) (c := c) (by simpa using h)
    simp only [nextQ] at this
    simp only [nextQ, List.getD_cons_succ, List.set_cons_succ, List.sum_cons]
    omega
/-- So many of each core, as they may be. -/
def okQ (t : List (List Ev)) (q : List Nat) : Prop := q.length = t.length ∧ ∀ i, q.getD i 0 ≤ (t.getD i []).length
theorem zeroQ_get (t : List (List Ev)) (i : Nat) : (zeroQ t).getD i 0 = 0 := by
  unfold zeroQ
  rw [List.getD_eq_getElem?_getD, List.getElem?_replicate]
  split <;> rfl
theorem okQ_zero (t : List (List Ev)) : okQ t (zeroQ t) := ⟨by simp [zeroQ], fun i => by rw [zeroQ_get]; exact Nat.zero_le _⟩
theorem getD_len {t : List (List Ev)} {c k : Nat} (h : k < (t.getD c []).length) : c < t.length := by
  rcases Nat.lt_or_ge c t.length with a | a
  · exact a
  · rw [List.getD_eq_getElem?_getD, List.getElem?_eq_none a] at h
    simp at h
theorem can_lt {t : List (List Ev)} {os : List Wls} {q : List Nat} {c : Nat} (h : canW t os q c = true) : q.getD c 0 < (t.getD c []).length := by
  unfold canW at h
  by_cases hh : q.getD c 0 < (t.getD c []).length
  · exact hh
  · rw [if_neg hh] at h; cases h
theorem okQ_next {t : List (List Ev)} {os : List Wls} {q : List Nat} {c : Nat} (h : okQ t q) (hc : canW t os q c = true) : okQ t (nextQ q c) := by
  have hl := can_lt hc
  have hq : c < q.length := by rw [h.1]; exact getD_len hl
  refine ⟨by rw [nextQ_len]; exact h.1, fun i => ?_⟩
  rw [nextQ_get hq]
  split
  · rename_i e; subst e; exact hl
  · exact h.2 i
theorem walk_ok {t : List (List Ev)} {os : List Wls} : ∀ {r q : List Nat}, okQ t q → walkW t os q r = true → okQ t (endQ q r) ∧ (endQ q r).sum = q.sum + r.length
  | [], _, h, _ => ⟨h, rfl⟩
  | c :: r, q, h, hw => by
    rw [walkW, Bool.and_eq_true, Bool.and_eq_true] at hw
    obtain ⟨a, b⟩ := walk_ok (r := r) (okQ_next h hw.1.2) hw.2
    refine ⟨a, ?_⟩
    rw [endQ, b, nextQ_sum (by rw [h.1]; exact getD_len (can_lt hw.1.2)), List.length_cons]
    omega
theorem zeroQ_sum (t : List (List Ev)) : (zeroQ t).sum = 0 := by unfold zeroQ; simp
theorem okQ_sum : ∀ {t : List (List Ev)} {q : List Nat}, okQ t q → q.sum ≤ evsT t
  | [], [], _ => by simp [evsT]
  | [], _ :: _, h => by have := h.1; simp at this
  | _ :: _, [], _ => by simp
  | l :: t, x :: q, h => by
    have h0 := h.2 0
    simp only [List.getD_cons_zero] at h0
    have := okQ_sum (t := t) (q := q) ⟨by simpa using h.1, fun i => by have := h.2 (i + 1); simpa using this⟩
    simp only [evsT] at this
    simp only [evsT, List.map_cons, List.sum_cons]
    omega
section
variable {t : List (List Ev)} {os : List Wls} {q : List Nat} {c : Nat}
theorem can_end (h : ¬ q.getD c 0 < (t.getD c []).length) : canW t os q c = false := by unfold canW; rw [if_neg h]
theorem can_store (h : q.getD c 0 < (t.getD c []).length) (hk : (evN t c (q.getD c 0)).k = 1) (hp : passW q (findW os (evN t c (q.getD c 0)).a) < (findW os (evN t c (q.getD c 0)).a).length) :
    canW t os q c = decide ((findW os (evN t c (q.getD c 0)).a)[passW q (findW os (evN t c (q.getD c 0)).a)] = ⟨(c : Int), ((q.getD c 0 : Nat) : Int)⟩) := by
  unfold canW
  rw [if_pos h, if_pos hk, List.getElem?_eq_getElem hp]
  simp only [Option.some.injEq]
theorem can_first (h : q.getD c 0 < (t.getD c []).length) (hk : ¬ (evN t c (q.getD c 0)).k = 1) (hp : passW q (findW os (evN t c (q.getD c 0)).a) = 0) :
    canW t os q c = decide ((evN t c (q.getD c 0)).v = 0) := by
  unfold canW
  rw [if_pos h, if_neg hk, hp]
theorem can_last {k : Nat} (h : q.getD c 0 < (t.getD c []).length) (hk : ¬ (evN t c (q.getD c 0)).k = 1) (hp : passW q (findW os (evN t c (q.getD c 0)).a) = k + 1) (hl : k < (findW os (evN t c (q.getD c 0)).a).length) :
    canW t os q c = decide ((evN t c (q.getD c 0)).v = (evN t (findW os (evN t c (q.getD c 0)).a)[k].c.toNat (findW os (evN t c (q.getD c 0)).a)[k].i.toNat).v) := by
  unfold canW
  rw [if_pos h, if_neg hk, hp]
  simp only [List.getElem?_eq_getElem hl]
theorem store_id (h : q.getD c 0 < (t.getD c []).length) (hk : (evN t c (q.getD c 0)).k = 1) : idW t (evN t c (q.getD c 0)).a ⟨(c : Int), ((q.getD c 0 : Nat) : Int)⟩ := by
  have hc := getD_len h
  refine ⟨⟨Int.natCast_nonneg _, Int.ofNat_lt.2 hc⟩, ⟨Int.natCast_nonneg _, ?_⟩, ?_, ?_⟩ <;> simp only [Int.toNat_natCast]
  · exact Int.ofNat_lt.2 h
  · exact hk
/-- A store's own id is found, and not passed. -/
theorem store_pass (h : q.getD c 0 < (t.getD c []).length) (hk : (evN t c (q.getD c 0)).k = 1) (hr : rightO t os) : passW q (findW os (evN t c (q.getD c 0)).a) < (findW os (evN t c (q.getD c 0)).a).length := by
  exact pass_lt (x := ⟨(c : Int), ((q.getD c 0 : Nat) : Int)⟩) (right_find hr (store_id h hk)) (by show ¬ (((q.getD c 0 : Nat) : Int) < ((q.getD ((c : Int)).toNat 0 : Nat) : Int)); rw [Int.toNat_natCast]; omega)
end

theorem firstC_all {f : Nat → Option (List Nat)} : ∀ {m c : Nat}, (∀ d, c ≤ d → d < c + m → f d = none) → firstC f c m = none
  | 0, _, _ => rfl
  | m + 1, c, h => by
    unfold firstC
    rw [h c (Nat.le_refl _) (by omega)]
    exact firstC_all fun d h1 h2 => h d (by omega) (by omega)
theorem firstC_hit {f : Nat → Option (List Nat)} {N c : Nat} {r : List Nat} (hc : c < N) (hlow : ∀ d, d < c → f d = none) (h : f c = some r) : firstC f 0 N = some r := by
  rw [firstC_from (by omega) hlow, show N - c = (N - c - 1) + 1 by omega, firstC, h]
/-- The first way on from q, in a row of n. -/
def onW (t : List (List Ev)) (os : List Wls) (n : Nat) (q : List Nat) : Option (List Nat) := firstW t os (n - q.sum) q
/-- Core d is no way on. -/
def shutC (t : List (List Ev)) (os : List Wls) (n : Nat) (q : List Nat) (d : Nat) : Prop := canW t os q d = true → onW t os n (nextQ q d) = none
section
variable {t : List (List Ev)} {os : List Wls} {n : Nat} {q : List Nat}
theorem on_end (h : q.sum = n) : onW t os n q = some [] := by unfold onW; rw [h, Nat.sub_self]; rfl
theorem on_step (h : okQ t q) {d : Nat} (hd : canW t os q d = true) : onW t os n (nextQ q d) = firstW t os (n - q.sum - 1) (nextQ q d) := by
  unfold onW
  rw [nextQ_sum (by rw [h.1]; exact getD_len (can_lt hd)), Nat.sub_sub]
theorem on_none (h : okQ t q) (hn : q.sum < n) (hs : ∀ d, d < t.length → shutC t os n q d) : onW t os n q = none := by
  unfold onW
  rw [show n - q.sum = (n - q.sum - 1) + 1 by omega, firstW]
  refine firstC_all fun d _ hd => ?_
  by_cases hc : canW t os q d = true
  · rw [if_pos hc, ← on_step h hc, hs d (by omega) hc]; rfl
  · rw [if_neg hc]
theorem on_some (h : okQ t q) (hn : q.sum < n) {c : Nat} {s : List Nat} (hc : canW t os q c = true) (hs : ∀ d, d < c → shutC t os n q d) (ho : onW t os n (nextQ q c) = some s) : onW t os n q = some (c :: s) := by
  have hcl := getD_len (can_lt hc)
  unfold onW
  rw [show n - q.sum = (n - q.sum - 1) + 1 by omega, firstW]
  refine firstC_hit hcl (fun d hd => ?_) ?_
  · by_cases hcd : canW t os q d = true
    · rw [if_pos hcd, ← on_step h hcd, hs d hd hcd]; rfl
    · rw [if_neg hcd]
  · rw [if_pos hc, ← on_step h hc, ho]; rfl
/-- What is ahead of a row is shut. -/
def lowW (t : List (List Ev)) (os : List Wls) (n : Nat) (r : List Nat) : Prop := ∀ k (h : k < r.length), ∀ d, d < r[k] → shutC t os n (endQ (zeroQ t) (r.take k)) d
theorem low_nil : lowW t os n [] := fun k h => by simp at h
theorem low_snoc {r : List Nat} {c : Nat} : lowW t os n (r ++ [c]) ↔ lowW t os n r ∧ ∀ d, d < c → shutC t os n (endQ (zeroQ t) r) d := by
  constructor
  · intro h
    refine ⟨fun k hk d hd => ?_, fun d hd => ?_⟩
    · have := h k (by simp; omega) d (by rw [List.getElem_append_left hk]; exact hd)
      rw [List.take_append_of_le_length (by omega)] at this
      exact this
    · have := h r.length (by simp) d (by rw [List.getElem_append_right (Nat.le_refl _)]; simpa using hd)
      rw [List.take_append_of_le_length (Nat.le_refl _), List.take_length] at this
      exact this
  · rintro ⟨h1, h2⟩ k hk d hd
    rcases Nat.lt_or_ge k r.length with a | a
    · rw [List.getElem_append_left a] at hd
      rw [List.take_append_of_le_length (by omega)]
      exact h1 k a d hd
    · obtain rfl : k = r.length := by simp at hk; omega
      rw [List.getElem_append_right (Nat.le_refl _)] at hd
      rw [List.take_append_of_le_length (Nat.le_refl _), List.take_length]
      exact h2 d (by simpa using hd)
theorem low_all : ∀ (m : Nat) {r s : List Nat}, r.length = m → r.length ≤ n → walkW t os (zeroQ t) r = true → lowW t os n r → onW t os n (endQ (zeroQ t) r) = some s → onW t os n (zeroQ t) = some (r ++ s)
  | 0, r, s, hm, _, _, _, ho => by obtain rfl := List.eq_nil_of_length_eq_zero hm; exact ho
  | m + 1, r, s, hm, hn, hw, hl, ho => by
    obtain ⟨r', c, rfl⟩ : ∃ r' c, r = r' ++ [c] := ⟨r.dropLast, r.getLast (fun e => by rw [e] at hm; simp at hm), (List.dropLast_concat_getLast _).symm⟩
    rw [List.length_append, List.length_singleton] at hm hn
    rw [walkW_snoc] at hw
    rw [low_snoc] at hl
    rw [endQ_snoc] at ho
    obtain ⟨a, b⟩ := walk_ok (okQ_zero t) hw.1
    rw [zeroQ_sum] at b
    have := low_all m (s := c :: s) (by omega) (by omega) hw.1 hl.1 (on_some a (by omega) hw.2.2 hl.2 ho)
    rw [List.append_assoc]
    exact this
theorem on_zero : onW t os n (zeroQ t) = firstW t os n (zeroQ t) := by unfold onW; rw [zeroQ_sum, Nat.sub_zero]
/-- What was tried leads nowhere, or lies on the way. -/
def triedW (t : List (List Ev)) (os : List Wls) (n : Nat) (T : List (List Nat)) (r : List Nat) : Prop := ∀ p ∈ T, onW t os n p = none ∨ ∃ k, k ≤ r.length ∧ p = endQ (zeroQ t) (r.take k)
theorem tried_nil : triedW t os n [] [] := fun p hp => by simp at hp
theorem tried_add {T : List (List Nat)} {r : List Nat} (h : triedW t os n T r) : triedW t os n (endQ (zeroQ t) r :: T) r := fun p hp => by
  rcases List.mem_cons.1 hp with rfl | hp
  · exact .inr ⟨r.length, Nat.le_refl _, by rw [List.take_length]⟩
  · exact h p hp
theorem tried_step {T : List (List Nat)} {r : List Nat} {c : Nat} (h : triedW t os n T r) : triedW t os n T (r ++ [c]) := fun p hp => by
  rcases h p hp with h | ⟨k, hk, e⟩
  · exact .inl h
  · exact .inr ⟨k, by simp; omega, by rw [List.take_append_of_le_length hk]; exact e⟩
theorem tried_pop {T : List (List Nat)} {r : List Nat} {c : Nat} (h : triedW t os n T (r ++ [c])) (hd : onW t os n (endQ (zeroQ t) (r ++ [c])) = none) : triedW t os n T r := fun p hp => by
  rcases h p hp with h | ⟨k, hk, e⟩
  · exact .inl h
  · rw [List.length_append, List.length_singleton] at hk
    rcases Nat.lt_or_ge r.length k with a | a
    · obtain rfl : k = r.length + 1 := by omega
      rw [List.take_of_length_le (by simp)] at e
      rw [e]; exact .inl hd
    · rw [List.take_append_of_le_length a] at e
      exact .inr ⟨k, a, e⟩
theorem tried_hit {T : List (List Nat)} {r : List Nat} {c : Nat} (h : triedW t os n T r) (hw : walkW t os (zeroQ t) r = true) (hc : canW t os (endQ (zeroQ t) r) c = true) (hT : nextQ (endQ (zeroQ t) r) c ∈ T) : onW t os n (nextQ (endQ (zeroQ t) r) c) = none := by
  obtain ⟨a, b⟩ := walk_ok (okQ_zero t) hw
  rcases h _ hT with h | ⟨k, hk, e⟩
  · exact h
  · have h1 := congrArg List.sum e
    rw [← List.take_append_drop k r, walkW_append, Bool.and_eq_true] at hw
    obtain ⟨_, b'⟩ := walk_ok (okQ_zero t) hw.1
    rw [b', nextQ_sum (by rw [a.1]; exact getD_len (can_lt hc)), b, List.length_take] at h1
    omega
/-- So much can be tried. -/
theorem tried_len {T : List (List Nat)} (hn : T.Nodup) (ht : t.length ≤ 4) (h8 : ∀ i, (t.getD i []).length ≤ 8) (h : ∀ p ∈ T, okQ t p) : T.length ≤ 6561 := by
  have hx : ∀ p ∈ T, ∀ x ∈ p, x ≤ 8 := fun p hp x hx => by
    obtain ⟨i, hi, rfl⟩ := List.getElem_of_mem hx
    have h1 := (h p hp).2 i
    rw [List.getD_eq_getElem?_getD, List.getElem?_eq_getElem hi] at h1
    have := h8 i
    simp only [Option.getD_some] at h1
    omega
  have hinj : (T.map fun p => keyW p 0).Nodup := by
    refine List.pairwise_map.2 (List.Pairwise.imp_of_mem ?_ hn)
    intro p q hp hq hne e
    exact hne (keyW_inj p q 0 0 (by rw [(h p hp).1, (h q hq).1]) (hx p hp) (hx q hq) e).1
  have := nodup_le (m := List.range 6561) hinj fun x hxm => by
    obtain ⟨p, hp, rfl⟩ := List.mem_map.1 hxm
    have h1 := keyW_lt p 0 (hx p hp)
    have h2 : 9 ^ p.length ≤ 9 ^ 4 := Nat.pow_le_pow_right (by omega) (by rw [(h p hp).1]; exact ht)
    have h3 : (9 : Nat) ^ 4 = 6561 := rfl
    rw [List.mem_range]
    omega
  simpa using this
end
end Go.Proofs.YtnnfkmjhaljplaaGreatDoor
