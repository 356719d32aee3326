/- Plain mathematics of reading a trace's text line by line. No function of the program is named here. Plain mathematics of reading a trace's text: what is read is what is printed. No function of the program is named here. -/
import Derived.Test.YtmdaianbhpppfaaGreatDoorGTxA
import Derived.Lib.Hide
import Derived.Test.YtmdaianbhpppfaaGreatDoorGTxB
namespace Go.Proofs.YtmdaianbhpppfaaGreatDoor
open Go.RowKit

/-- Rows of signs laid behind one another, a sign between them. -/
def joinS (s : Int) : List (List Int) → List Int
  | [] => []
  | [x] => x
  | x :: y :: r => x ++ (s :: joinS s (y :: r))
theorem cutS_ne (s : Int) : ∀ (l cur : List Int), cutS s cur l ≠ []
  | [], cur => by simp [cutS]
  | c :: r, cur => by
    rw [cutS]
    split
    · simp
    · exact cutS_ne s r _
theorem joinS_cons (s : Int) (x : List Int) {r : List (List Int)} (h : r ≠ []) : joinS s (x :: r) = x ++ (s :: joinS s r) := by
  cases r with
  | nil => exact absurd rfl h
  | cons y r => rfl
theorem joinS_cut (s : Int) : ∀ (l cur : List Int), joinS s (cutS s cur l) = cur ++ l
  | [], cur => by simp [cutS, joinS]
  | c :: r, cur => by
    rw [cutS]
    by_cases h : c = s
    · rw [if_pos h, joinS_cons s cur (cutS_ne s r []), joinS_cut s r [], h]; simp
    · rw [if_neg h, joinS_cut s r (cur ++ [c])]; simp
theorem cutS_join (s : Int) : ∀ (ls : List (List Int)), ls ≠ [] → (∀ x ∈ ls, ∀ c ∈ x, c ≠ s) → cutS s [] (joinS s ls) = ls
  | [], h, _ => absurd rfl h
  | [x], _, h => by
    have := cutS_end (s := s) x [] (h x (List.mem_cons_self ..))
    simpa [joinS] using this
  | x :: y :: r, _, h => by
    have h1 := cutS_at (s := s) x [] (joinS s (y :: r)) (h x (List.mem_cons_self ..))
    rw [joinS, show x ++ (s :: joinS s (y :: r)) = x ++ ([s] ++ joinS s (y :: r)) from rfl, h1, cutS_join s (y :: r) (by simp) (fun z hz => h z (List.mem_cons_of_mem _ hz))]
    simp
/-- Each line with its end. -/
def linesS (s : Int) : List (List Int) → List Int
  | [] => []
  | x :: r => x ++ (s :: linesS s r)
theorem joinS_end (s : Int) : ∀ (x : List Int) (r : List (List Int)), joinS s (x :: r) ++ [s] = linesS s (x :: r)
  | x, [] => by simp [joinS, linesS]
  | x, y :: r => by
    have h := joinS_end s y r
    rw [joinS, linesS, ← h]; simp
theorem linesS_app (s : Int) : ∀ (a b : List (List Int)), linesS s (a ++ b) = linesS s a ++ linesS s b
  | [], b => rfl
  | x :: a, b => by rw [List.cons_append, linesS, linesS_app s a b, linesS]; simp
/-- No part holds the sign. -/
theorem cutS_free (s : Int) : ∀ (l cur : List Int), (∀ c ∈ cur, c ≠ s) → ∀ x ∈ cutS s cur l, ∀ c ∈ x, c ≠ s
  | [], cur, h, x, hx => by simp only [cutS, List.mem_singleton] at hx; rw [hx]; exact h
  | c :: r, cur, h, x, hx => by
    rw [cutS] at hx
    by_cases hc : c = s
    · rw [if_pos hc] at hx
      rcases List.mem_cons.1 hx with hx | hx
      · rw [hx]; exact h
      · exact cutS_free s r [] (fun _ h => by simp at h) x hx
    · rw [if_neg hc] at hx
      exact cutS_free s r (cur ++ [c]) (fun d hd => by
        rcases List.mem_append.1 hd with hd | hd
        · exact h d hd
        · simp only [List.mem_singleton] at hd; rw [hd]; exact hc) x hx
theorem cutS_B8 (s : Int) : ∀ (l cur : List Int), B8 l → B8 cur → ∀ x ∈ cutS s cur l, B8 x
  | [], cur, _, h, x, hx => by simp only [cutS, List.mem_singleton] at hx; rw [hx]; exact h
  | c :: r, cur, hl, h, x, hx => by
    have hc := hl c (List.mem_cons_self ..)
    have hr : B8 r := fun y hy => hl y (List.mem_cons_of_mem _ hy)
    rw [cutS] at hx
    by_cases hcs : c = s
    · rw [if_pos hcs] at hx
      rcases List.mem_cons.1 hx with hx | hx
      · rw [hx]; exact h
      · exact cutS_B8 s r [] hr (fun _ h => by simp at h) x hx
    · rw [if_neg hcs] at hx
      exact cutS_B8 s r (cur ++ [c]) hr (h.append (B8.one hc.1 hc.2)) x hx
theorem cutS_len (s : Int) : ∀ (l cur : List Int), ∀ x ∈ cutS s cur l, x.length ≤ cur.length + l.length
  | [], cur, x, hx => by simp only [cutS, List.mem_singleton] at hx; rw [hx]; simp
  | c :: r, cur, x, hx => by
    rw [cutS] at hx
    simp only [List.length_cons]
    by_cases hcs : c = s
    · rw [if_pos hcs] at hx
      rcases List.mem_cons.1 hx with hx | hx
      · rw [hx]; omega
      · have := cutS_len s r [] x hx; simp at this; omega
    · rw [if_neg hcs] at hx
      have := cutS_len s r (cur ++ [c]) x hx
      simp only [List.length_append, List.length_cons, List.length_nil] at this
      omega
theorem cutS_count (s : Int) : ∀ (l cur : List Int), 1 ≤ (cutS s cur l).length ∧ (cutS s cur l).length ≤ l.length + 1
  | [], cur => by simp [cutS]
  | c :: r, cur => by
    rw [cutS]
    by_cases hcs : c = s
    · rw [if_pos hcs]
      have := cutS_count s r []
      simp only [List.length_cons]
      omega
    · rw [if_neg hcs]
      have := cutS_count s r (cur ++ [c])
      simp only [List.length_cons]
      omega

/-! ### The reading, line by line -/
def coreW : List Int := [99, 111, 114, 101]
def trW : List Int := [116, 114, 97, 99, 101, 32]
/-- What a line adds. -/
def addM (t : List (List Ev)) (ws : List (List Int)) : Option (List (List Ev)) :=
  if ws.getD 0 [] = coreW then (if ws.length = 2 ∧ numL 10 6 (ws.getD 1 []) = t.length then some (t ++ [[]]) else none)
  else if ws.getD 0 [] = [119] ∨ ws.getD 0 [] = [114] then
    (if ws.length = 3 ∧ 0 < t.length ∧ 0 ≤ hexV (ws.getD 1 []) ∧ 0 ≤ numL 10 6 (ws.getD 2 []) then some (addE t (lnE ws)) else none)
  else none
def rdM : List (List Ev) → List (List Int) → Option (List (List Ev))
  | t, [] => some t
  | t, ln :: r => (addM t (cutS 32 [] ln)).bind fun t' => rdM t' r
/-- The trace of lines, the first of them told apart. -/
def rdL (first : List Int) (lines : List (List Int)) : Option (List (List Ev)) :=
  if first.take 6 = trW then (rdM [] lines).bind fun t => if numL 10 6 (first.drop 6) = t.length ∧ trF t = 0 then some t else none else none
def rdT (l : List Int) : Option (List (List Ev)) :=
  if l.drop (l.length - 1) = [10] then rdL ((cutS 10 [] (l.take (l.length - 1))).getD 0 []) ((cutS 10 [] (l.take (l.length - 1))).drop 1) else none

theorem hexV_one {w : List Int} (h : 0 ≤ hexV w) : w = [48, 120] ++ digL 16 (hexV w).toNat ∧ hexV w ≤ 999999 := by
  unfold hexV at h ⊢
  by_cases h1 : w.length < 3 ∨ w.take 2 ≠ [48, 120]
  · rw [if_pos h1] at h; omega
  · rw [if_neg h1] at h ⊢
    by_cases h2 : 999999 < numL 16 5 (w.drop 2)
    · rw [if_pos h2] at h; omega
    · rw [if_neg h2] at h ⊢
      have h3 := (numL_one (b := 16) (most := 5) (by omega) (by omega) h).1
      have h4 : w.take 2 = [48, 120] := by
        by_cases h5 : w.take 2 = [48, 120]
        · exact h5
        · exact absurd (.inr h5) h1
      refine ⟨?_, by omega⟩
      conv => lhs; rw [← List.take_append_drop 2 w, h4]
      exact congrArg _ h3
theorem three {ws : List (List Int)} (h : ws.length = 3) : ws = [ws.getD 0 [], ws.getD 1 [], ws.getD 2 []] := by
  match ws, h with
  | [a, b, c], _ => rfl
theorem two {ws : List (List Int)} (h : ws.length = 2) : ws = [ws.getD 0 [], ws.getD 1 []] := by
  match ws, h with
  | [a, b], _ => rfl
end Go.Proofs.YtmdaianbhpppfaaGreatDoor
namespace Go.Proofs.YtmdaianbhpppfaaGreatDoor
open Go.RowKit

theorem addM_sound {t t' : List (List Ev)} {ln : List Int} (h : addM t (cutS 32 [] ln) = some t') : prS 0 t' = prS 0 t ++ (ln ++ [10]) := by
  have hj := joinS_cut 32 ln []
  rw [List.nil_append] at hj
  generalize cutS 32 [] ln = ws at h hj
  unfold addM at h
  by_cases h1 : ws.getD 0 [] = coreW
  · rw [if_pos h1] at h
    by_cases h2 : ws.length = 2 ∧ numL 10 6 (ws.getD 1 []) = t.length
    · rw [if_pos h2] at h
      obtain ⟨h3, h4⟩ := h2
      have h4c : numL ((10 : Nat) : Int) 6 (ws.getD 1 []) = t.length := h4
      have h5 := (numL_one (b := 10) (most := 6) (l := ws.getD 1 []) (by omega) (by omega) (by omega)).1
      rw [show (10 : Nat) = ((10 : Nat)) by rfl] at h5
      have h6 : ws.getD 1 [] = digL 10 t.length := by rw [h5]; congr 1; have : numL ((10 : Nat) : Int) 6 (ws.getD 1 []) = t.length := h4; omega
      have h7 := two h3
      rw [h1, h6] at h7
      rw [h7] at hj
      cases h
      rw [prS_snoc, Nat.zero_add, ← hj]
      simp [joinS, coreW, coL, prC]
    · rw [if_neg h2] at h; cases h
  · rw [if_neg h1] at h
    by_cases h2 : ws.getD 0 [] = [119] ∨ ws.getD 0 [] = [114]
    · rw [if_pos h2] at h
      by_cases h3 : ws.length = 3 ∧ 0 < t.length ∧ 0 ≤ hexV (ws.getD 1 []) ∧ 0 ≤ numL 10 6 (ws.getD 2 [])
      · rw [if_pos h3] at h
        obtain ⟨h4, h5, h6, h7⟩ := h3
        cases h
        obtain ⟨t0, lst, rfl⟩ : ∃ t0 lst, t = t0 ++ [lst] := ⟨t.dropLast, t.getLast (by intro e; rw [e] at h5; simp at h5), (List.dropLast_concat_getLast _).symm⟩
        rw [addE_last, prS_snoc, prC_snoc, prS_snoc]
        have hx := (hexV_one h6).1
        have hn := (numL_one (b := 10) (most := 6) (l := ws.getD 2 []) (by omega) (by omega) h7).1
        have h8 := three h4
        have e : ln = txE (lnE ws) := by
          rw [← hj]
          conv => lhs; rw [h8]
          unfold lnE txE
          simp only [joinS]
          rcases h2 with h2 | h2
          · rw [h2, if_pos rfl, if_pos rfl]
            conv => lhs; rw [hx, hn]
            simp
          · rw [h2, if_neg (by simp)]
            try rw [if_neg (by simp)]
            conv => lhs; rw [hx, hn]
            simp
        rw [e]
        simp
      · rw [if_neg h3] at h; cases h
    · rw [if_neg h2] at h; cases h
theorem rdM_sound : ∀ {lines : List (List Int)} {t t' : List (List Ev)}, rdM t lines = some t' → prS 0 t' = prS 0 t ++ linesS 10 lines
  | [], t, t', h => by cases h; simp [linesS]
  | ln :: r, t, t', h => by
    unfold rdM at h
    cases h1 : addM t (cutS 32 [] ln) with
    | none => rw [h1] at h; cases h
    | some t1 =>
      rw [h1] at h
      have h2 := rdM_sound (lines := r) (t := t1) (t' := t') h
      rw [h2, addM_sound h1, linesS]
      simp
theorem rdT_sound {l : List Int} {t : List (List Ev)} (h : rdT l = some t) : l = prL t ∧ trF t = 0 := by
  unfold rdT at h
  by_cases h1 : l.drop (l.length - 1) = [10]
  · rw [if_pos h1] at h
    have hl : l = l.take (l.length - 1) ++ [10] := by rw [← h1, List.take_append_drop]
    have hj := joinS_cut 10 (l.take (l.length - 1)) []
    rw [List.nil_append] at hj
    have hne := cutS_ne 10 (l.take (l.length - 1)) []
    generalize cutS 10 [] (l.take (l.length - 1)) = ls at h hj hne
    rw [← hj] at hl
    cases ls with
    | nil => exact absurd rfl hne
    | cons x r =>
      simp only [List.getD_cons_zero, List.drop_succ_cons, List.drop_zero] at h
      rw [joinS_end, linesS] at hl
      unfold rdL at h
      by_cases h2 : x.take 6 = trW
      · rw [if_pos h2] at h
        cases h3 : rdM [] r with
        | none => rw [h3] at h; cases h
        | some t1 =>
          rw [h3] at h
          simp only [Option.bind_some] at h
          by_cases h4 : numL 10 6 (x.drop 6) = t1.length ∧ trF t1 = 0
          · rw [if_pos h4] at h
            cases h
            have h5 := rdM_sound h3
            have h6 := (numL_one (b := 10) (most := 6) (l := x.drop 6) (by omega) (by omega) (by have := h4.1; have : numL ((10 : Nat) : Int) 6 (x.drop 6) = t.length := h4.1; omega)).1
            have h7 : x.drop 6 = digL 10 t.length := by rw [h6]; congr 1; have : numL ((10 : Nat) : Int) 6 (x.drop 6) = t.length := h4.1; omega
            refine ⟨?_, h4.2⟩
            rw [hl, prL_eq, h5]
            have hx : x = trW ++ digL 10 t.length := by rw [← h7, ← h2, List.take_append_drop]
            conv => lhs; rw [hx]
            simp [trL, trW, prS]
          · rw [if_neg h4] at h; cases h
      · rw [if_neg h2] at h; cases h
  · rw [if_neg h1] at h; cases h

/-- The lines of a trace. -/
def lnC (l : List Ev) : List (List Int) := l.map txE
def lnS : Nat → List (List Ev) → List (List Int)
  | _, [] => []
  | i, l :: r => ([99, 111, 114, 101, 32] ++ digL 10 i) :: (lnC l ++ lnS (i + 1) r)
theorem linesS_C : ∀ (l : List Ev), linesS 10 (lnC l) = prC l
  | [] => rfl
  | e :: l => by
    have := linesS_C l
    unfold lnC at this ⊢
    rw [List.map_cons, linesS, this, prC]; rfl
theorem linesS_S : ∀ (r : List (List Ev)) (i : Nat), linesS 10 (lnS i r) = prS i r
  | [], _ => rfl
  | l :: r, i => by
    rw [lnS, linesS, linesS_app, linesS_C, linesS_S r (i + 1), prS]
    simp
theorem addM_event {t : List (List Ev)} {l : List Ev} {e : Ev} (h : evF e = 0) : addM (t ++ [l]) (cutS 32 [] (txE e)) = some (t ++ [l ++ [e]]) := by
  have hv := evF_zero h
  obtain ⟨b1, b2⟩ := txE_back h
  have hc := txE_cut e
  have hx := hexV_back (n := e.a.toNat) (by omega)
  have hl := digL_len (b := 10) (by omega) 5 e.v.toNat (by omega)
  have hn : numL 10 6 (digL 10 e.v.toNat) = (e.v.toNat : Int) := numL_back (b := 10) (most := 6) (by omega) (by omega) hl
  unfold addM
  rw [b2]
  rw [hc]
  simp only [List.getD_cons_zero, List.getD_cons_succ, List.length_cons, List.length_nil]
  rw [if_neg (by intro h; unfold coreW at h; simp at h), hx, hn, if_pos (by by_cases hk : e.k = 1; rw [if_pos hk]; exact .inl rfl; rw [if_neg hk]; exact .inr rfl), if_pos ⟨trivial, by simp, by omega, by omega⟩, addE_last]
theorem rdM_events : ∀ (es : List Ev) (t : List (List Ev)) (l : List Ev) (r : List (List Int)), (∀ e ∈ es, evF e = 0) → rdM (t ++ [l]) (lnC es ++ r) = rdM (t ++ [l ++ es]) r
  | [], t, l, r, _ => by simp [lnC]
  | e :: es, t, l, r, h => by
    have h1 := addM_event (t := t) (l := l) (h e (List.mem_cons_self ..))
    have h2 := rdM_events es t (l ++ [e]) r (fun x hx => h x (List.mem_cons_of_mem _ hx))
    unfold lnC at h2 ⊢
    rw [List.map_cons, List.cons_append, rdM, h1, Option.bind_some, h2]
    simp
theorem addM_core {t : List (List Ev)} (h : t.length ≤ 9) : addM t (cutS 32 [] ([99, 111, 114, 101, 32] ++ digL 10 t.length)) = some (t ++ [[]]) := by
  have s0 : ∀ c ∈ ([99, 111, 114, 101] : List Int), c ≠ 32 := fun c hc => by simp at hc; omega
  have s1 : ∀ c ∈ digL 10 t.length, c ≠ 32 := fun c hc => by have := digL_sign (b := 10) (by omega) (by omega) _ c hc; omega
  have e : ([99, 111, 114, 101, 32] : List Int) ++ digL 10 t.length = [99, 111, 114, 101] ++ ([32] ++ digL 10 t.length) := by simp
  have hl := digL_len (b := 10) (by omega) 5 t.length (by omega)
  have hn : numL 10 6 (digL 10 t.length) = (t.length : Int) := numL_back (b := 10) (most := 6) (by omega) (by omega) hl
  rw [e, cutS_at _ _ _ s0, cutS_end _ _ s1]
  unfold addM
  simp only [List.nil_append, List.getD_cons_zero, List.getD_cons_succ, List.length_cons, List.length_nil]
  rw [if_pos (by rfl), hn, if_pos ⟨trivial, rfl⟩]
theorem rdM_cores : ∀ (r : List (List Ev)) (t : List (List Ev)), (∀ l ∈ r, ∀ e ∈ l, evF e = 0) → t.length + r.length ≤ 9 → rdM t (lnS t.length r) = some (t ++ r)
  | [], t, _, _ => by simp [lnS, rdM]
  | l :: r, t, h, hl => by
    simp only [List.length_cons] at hl
    have h1 := addM_core (t := t) (by omega)
    have h2 := rdM_events l t [] (lnS (t.length + 1) r) (h l (List.mem_cons_self ..))
    have h3 := rdM_cores r (t ++ [l]) (fun x hx => h x (List.mem_cons_of_mem _ hx)) (by simp; omega)
    rw [List.length_append] at h3
    simp only [List.length_cons, List.length_nil, Nat.zero_add] at h3
    rw [lnS, rdM, h1, Option.bind_some, h2, List.nil_append, h3]
    simp
theorem rdT_full {t : List (List Ev)} (h : trF t = 0) : rdT (prL t) = some t := by
  obtain ⟨h1, h4, hall⟩ := trT_zero h
  have hev : ∀ l ∈ t, ∀ e ∈ l, evF e = 0 := fun l hl => evs_right (hall l hl)
  have hfree : ∀ x ∈ ((trW ++ digL 10 t.length) :: lnS 0 t), ∀ c ∈ x, c ≠ 10 := by
    have key : ∀ (r : List (List Ev)) (i : Nat), ∀ x ∈ lnS i r, ∀ c ∈ x, c ≠ 10 := by
      intro r
      induction r with
      | nil => intro i x hx; simp [lnS] at hx
      | cons l r ih =>
        intro i x hx c hc
        rw [lnS] at hx
        rcases List.mem_cons.1 hx with hx | hx
        · rw [hx] at hc
          rcases List.mem_append.1 hc with hc | hc
          · simp at hc; omega
          · have := digL_sign (b := 10) (by omega) (by omega) _ c hc; omega
        · rcases List.mem_append.1 hx with hx | hx
          · unfold lnC at hx
            obtain ⟨e, _, rfl⟩ := List.mem_map.1 hx
            exact (txE_sign e).1 c hc
          · exact ih (i + 1) x hx c hc
    intro x hx c hc
    rcases List.mem_cons.1 hx with hx | hx
    · rw [hx] at hc
      rcases List.mem_append.1 hc with hc | hc
      · unfold trW at hc; simp at hc; omega
      · have := digL_sign (b := 10) (by omega) (by omega) _ c hc; omega
    · exact key t 0 x hx c hc
  have e : prL t = joinS 10 ((trW ++ digL 10 t.length) :: lnS 0 t) ++ [10] := by
    rw [joinS_end, linesS, linesS_S, prL_eq]
    simp [trL, trW]
  have hcut := cutS_join 10 ((trW ++ digL 10 t.length) :: lnS 0 t) (by simp) hfree
  generalize joinS 10 ((trW ++ digL 10 t.length) :: lnS 0 t) = J at e hcut
  have hlen : (prL t).length - 1 = J.length := by rw [e]; simp
  have hdr : (prL t).drop ((prL t).length - 1) = [10] := by rw [hlen, e]; simp
  have htk : (prL t).take ((prL t).length - 1) = J := by rw [hlen, e]; simp
  unfold rdT
  rw [hdr, if_pos rfl, htk, hcut]
  simp only [List.getD_cons_zero, List.drop_succ_cons, List.drop_zero]
  have h2 := rdM_cores t [] hev (by simp; omega)
  simp only [List.length_nil, List.nil_append] at h2
  have hl := digL_len (b := 10) (by omega) 5 t.length (by omega)
  have hn : numL 10 6 (digL 10 t.length) = (t.length : Int) := numL_back (b := 10) (most := 6) (by omega) (by omega) hl
  unfold rdL
  rw [if_pos (by unfold trW; rfl), h2, Option.bind_some, show (trW ++ digL 10 t.length).drop 6 = digL 10 t.length by unfold trW; rfl, hn, if_pos ⟨rfl, h⟩]
/-- The reading line by line is the reading. -/
theorem psT_read {l : List Int} (h : l.length ≤ 2000) : (∀ t, rdT l = some t → psC l = 0 ∧ psT l = t) ∧ (rdT l = none → psC l = 5 ∧ psT l = []) := by
  constructor
  · intro t ht
    obtain ⟨h1, h2⟩ := rdT_sound ht
    have h3 := parL_back h2
    rw [← h1] at h3
    have hc : psC l = 0 := by unfold psC; rw [if_pos h, if_pos ⟨by rw [h3]; exact h2, by rw [h3]; exact h1.symm⟩]
    exact ⟨hc, by unfold psT; rw [if_pos hc, h3]⟩
  · intro ht
    have hc : psC l = 5 := by
      unfold psC
      rw [if_pos h]
      by_cases h1 : trF (parL l) = 0 ∧ prL (parL l) = l
      · have := rdT_full h1.1
        rw [h1.2, ht] at this
        cases this
      · rw [if_neg h1]
    exact ⟨hc, by unfold psT; rw [hc]; rfl⟩
end Go.Proofs.YtmdaianbhpppfaaGreatDoor
