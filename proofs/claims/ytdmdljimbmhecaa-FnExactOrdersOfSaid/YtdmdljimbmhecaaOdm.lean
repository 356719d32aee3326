/- Plain mathematics of write orders and rows: what can come next, the rows that fit, the first of them. -/
import Derived.Test.YtdmdljimbmhecaaGBase
namespace Go.Proofs.Ytdmdljimbmhecaa

/-- An id of a store; a list of them for an address. -/
structure Wid where
  c : Int
  i : Int
deriving DecidableEq
structure Wls where
  a : Int
  ids : List Wid
deriving DecidableEq

def evN (t : List (List Ev)) (c k : Nat) : Ev := (t.getD c []).getD k ⟨0, 0, 0⟩
/-- The ids of an address (the first list that bears it). -/
def findW : List Wls → Int → List Wid
  | [], _ => []
  | w :: r, a => if w.a = a then w.ids else findW r a
/-- How many ids from the first one on are behind us. -/
def passW (q : List Nat) : List Wid → Nat
  | [] => 0
  | x :: r => if x.i < (q.getD x.c.toNat 0 : Int) then passW q r + 1 else 0
/-- The next event of core c can come, behind q of each core. -/
def canW (t : List (List Ev)) (os : List Wls) (q : List Nat) (c : Nat) : Bool :=
  if q.getD c 0 < (t.getD c []).length then
    if (evN t c (q.getD c 0)).k = 1 then decide ((findW os (evN t c (q.getD c 0)).a)[passW q (findW os (evN t c (q.getD c 0)).a)]? = some ⟨(c : Int), ((q.getD c 0 : Nat) : Int)⟩)
    else match passW q (findW os (evN t c (q.getD c 0)).a) with
      | 0 => decide ((evN t c (q.getD c 0)).v = 0)
      | k + 1 => match (findW os (evN t c (q.getD c 0)).a)[k]? with
        | some x => decide ((evN t c (q.getD c 0)).v = (evN t x.c.toNat x.i.toNat).v)
        | none => false
  else false
def nextQ (q : List Nat) (c : Nat) : List Nat := q.set c (q.getD c 0 + 1)
/-- A row that fits, from q on. -/
def walkW (t : List (List Ev)) (os : List Wls) : List Nat → List Nat → Bool
  | _, [] => true
  | q, c :: r => decide (c < t.length) && canW t os q c && walkW t os (nextQ q c) r
/-- The first of the cores c, c + 1, .. (m of them) that leads on. -/
def firstC (f : Nat → Option (List Nat)) : Nat → Nat → Option (List Nat)
  | _, 0 => none
  | c, m + 1 => match f c with
    | some r => some r
    | none => firstC f (c + 1) m
/-- The first row of n turns that fits, from q on. -/
def firstW (t : List (List Ev)) (os : List Wls) : Nat → List Nat → Option (List Nat)
  | 0, _ => some []
  | n + 1, q => firstC (fun c => if canW t os q c = true then (firstW t os n (nextQ q c)).map (c :: ·) else none) 0 t.length
def lexL : List Nat → List Nat → Prop
  | [], _ => True
  | _ :: _, [] => False
  | a :: r, b :: s => a < b ∨ a = b ∧ lexL r s

theorem firstC_some {f : Nat → Option (List Nat)} : ∀ {m c : Nat} {r : List Nat}, firstC f c m = some r → ∃ d, c ≤ d ∧ d < c + m ∧ f d = some r ∧ ∀ e, c ≤ e → e < d → f e = none
  | 0, c, r, h => by simp [firstC] at h
  | m + 1, c, r, h => by
    unfold firstC at h
    cases hf : f c with
    | some x =>
      rw [hf] at h
      simp only [Option.some.injEq] at h
      subst h
      exact ⟨c, Nat.le_refl _, by omega, hf, fun e h1 h2 => absurd h1 (by omega)⟩
    | none =>
      rw [hf] at h
      obtain ⟨d, h1, h2, h3, h4⟩ := firstC_some h
      refine ⟨d, by omega, by omega, h3, fun e h5 h6 => ?_⟩
      by_cases he : e = c
      · rw [he]; exact hf
      · exact h4 e (by omega) h6
theorem firstC_none {f : Nat → Option (List Nat)} : ∀ {m c : Nat}, firstC f c m = none → ∀ d, c ≤ d → d < c + m → f d = none
  | 0, c, _, d, h1, h2 => absurd h1 (by omega)
  | m + 1, c, h, d, h1, h2 => by
    unfold firstC at h
    cases hf : f c with
    | some x => rw [hf] at h; simp at h
    | none =>
      rw [hf] at h
      by_cases he : d = c
      · rw [he]; exact hf
      · exact firstC_none h d (by omega) (by omega)
/-- Where a search stands: what is ahead of c leads nowhere. -/
theorem firstC_from {f : Nat → Option (List Nat)} {N : Nat} : ∀ {c : Nat}, c ≤ N → (∀ d, d < c → f d = none) → firstC f 0 N = firstC f c (N - c)
  | 0, _, _ => rfl
  | c + 1, hc, h => by
    rw [firstC_from (c := c) (by omega) (fun d hd => h d (by omega)), show N - c = (N - (c + 1)) + 1 by omega, firstC, h c (Nat.lt_succ_self c)]
theorem firstW_sound (t : List (List Ev)) (os : List Wls) : ∀ (n : Nat) (q r : List Nat), firstW t os n q = some r → walkW t os q r = true ∧ r.length = n
  | 0, q, r, h => by
    simp only [firstW, Option.some.injEq] at h
    subst h
    exact ⟨rfl, rfl⟩
  | n + 1, q, r, h => by
    unfold firstW at h
    obtain ⟨c, _, hc, hf, _⟩ := firstC_some h
    by_cases hcan : canW t os q c = true
    · rw [if_pos hcan] at hf
      cases hn : firstW t os n (nextQ q c) with
      | none => rw [hn] at hf; simp at hf
      | some s =>
        rw [hn] at hf
        simp only [Option.map_some, Option.some.injEq] at hf
        subst hf
        obtain ⟨a, b⟩ := firstW_sound t os n _ s hn
        refine ⟨?_, by rw [List.length_cons, b]⟩
        rw [walkW, a, hcan, decide_eq_true (show c < t.length by omega)]
        rfl
    · rw [if_neg hcan] at hf; simp at hf
/-- None of the rows that fit is ahead of it. -/
theorem firstW_least (t : List (List Ev)) (os : List Wls) : ∀ (n : Nat) (q r : List Nat), walkW t os q r = true → r.length = n → ∃ s, firstW t os n q = some s ∧ lexL s r
  | 0, q, r, _, hl => by
    obtain rfl := List.eq_nil_of_length_eq_zero hl
    exact ⟨[], rfl, trivial⟩
  | n + 1, q, [], _, hl => by simp at hl
  | n + 1, q, c :: r, h, hl => by
    rw [walkW, Bool.and_eq_true, Bool.and_eq_true] at h
    obtain ⟨⟨hc, hcan⟩, hr⟩ := h
    have hc' : c < t.length := of_decide_eq_true hc
    obtain ⟨s, hs, hle⟩ := firstW_least t os n _ r hr (by simpa using hl)
    have hfc : (if canW t os q c = true then (firstW t os n (nextQ q c)).map (c :: ·) else none) = some (c :: s) := by rw [if_pos hcan, hs]; rfl
    unfold firstW
    cases hF : firstC (fun c => if canW t os q c = true then (firstW t os n (nextQ q c)).map (c :: ·) else none) 0 t.length with
    | none =>
      have := firstC_none hF c (Nat.zero_le _) (by omega)
      rw [hfc] at this
      simp at this
    | some u =>
      obtain ⟨d, _, hd, hfd, hno⟩ := firstC_some hF
      refine ⟨u, rfl, ?_⟩
      have hdc : d ≤ c := by
        by_cases hlt : c < d
        · have := hno c (Nat.zero_le _) hlt
          rw [hfc] at this
          simp at this
        · omega
      by_cases he : d = c
      · subst he
        rw [hfc] at hfd
        simp only [Option.some.injEq] at hfd
        subst hfd
        exact .inr ⟨rfl, hle⟩
      · skip
        by_cases hcd : canW t os q d = true
        · rw [if_pos hcd] at hfd
          cases hn : firstW t os n (nextQ q d) with
          | none => rw [hn] at hfd; simp at hfd
          | some v =>
            rw [hn] at hfd
            simp only [Option.map_some, Option.some.injEq] at hfd
            subst hfd
            exact .inl (by omega)
        · rw [if_neg hcd] at hfd; simp at hfd
/-- No row: none that fits. -/
theorem firstW_none {t : List (List Ev)} {os : List Wls} {n : Nat} {q : List Nat} (h : firstW t os n q = none) (r : List Nat) (hl : r.length = n) : walkW t os q r = false := by
  cases hw : walkW t os q r with
  | false => rfl
  | true =>
    obtain ⟨s, hs, _⟩ := firstW_least t os n q r hw hl
    rw [h] at hs
    simp at hs
/-- A number for so many of each core. -/
def keyW : List Nat → Nat → Nat
  | [], n => n
  | x :: r, n => keyW r (n * 9 + x)
theorem keyW_inj : ∀ (q p : List Nat) (m n : Nat), q.length = p.length → (∀ x ∈ q, x ≤ 8) → (∀ x ∈ p, x ≤ 8) → keyW q m = keyW p n → q = p ∧ m = n
  | [], [], m, n, _, _, _, h => ⟨rfl, h⟩
  | [], _ :: _, _, _, hl, _, _, _ => by simp at hl
  | _ :: _, [], _, _, hl, _, _, _ => by simp at hl
  | x :: q, y :: p, m, n, hl, hq, hp, h => by
    obtain ⟨e, h2⟩ := keyW_inj q p _ _ (by simpa using hl) (fun z hz => hq z (by simp [hz])) (fun z hz => hp z (by simp [hz])) h
    have hx := hq x (by simp)
    have hy := hp y (by simp)
    refine ⟨?_, by omega⟩
    rw [e, show x = y by omega]
theorem keyW_lt : ∀ (q : List Nat) (m : Nat), (∀ x ∈ q, x ≤ 8) → keyW q m < (m + 1) * 9 ^ q.length
  | [], m, _ => by simp [keyW]
  | x :: q, m, h => by
    have hx := h x (by simp)
    have := keyW_lt q (m * 9 + x) (fun z hz => h z (by simp [hz]))
    rw [keyW, List.length_cons, Nat.pow_succ]
    refine Nat.lt_of_lt_of_le this ?_
    calc (m * 9 + x + 1) * 9 ^ q.length ≤ ((m + 1) * 9) * 9 ^ q.length := Nat.mul_le_mul (by omega) (Nat.le_refl _)
      _ = (m + 1) * (9 ^ q.length * 9) := by rw [Nat.mul_assoc, Nat.mul_comm 9]
end Go.Proofs.Ytdmdljimbmhecaa
