/- What the laws' walks rest upon, part 3. -/
import Derived.Test.YtnnfkmjhaljplaaGreatM01
namespace Go.Proofs.YtnnfkmjhaljplaaGreat
open Go.RowKit
/-- A step of a log: core and event. -/
structure Stp where
  c : Int
  e : Ev
def stps : List Stp → List Value
  | [] => []
  | s :: r => .int .i64 s.c :: .int .i64 s.e.k :: .int .i64 s.e.a :: .int .i64 s.e.v :: stps r
theorem stps_length : ∀ ss : List Stp, (stps ss).length = ss.length * 4
  | [] => rfl
  | s :: r => by simp only [stps, List.length_cons, stps_length r]; omega
theorem stps_append : ∀ (l m : List Stp), stps (l ++ m) = stps l ++ stps m
  | [], _ => rfl
  | s :: r, m => by simp only [stps, List.cons_append, stps_append r m]
theorem stps_get : ∀ (ss : List Stp) (i : Nat) (h : i < ss.length), (stps ss)[i * 4]? = some (.int .i64 ss[i].c) ∧ (stps ss)[i * 4 + 1]? = some (.int .i64 ss[i].e.k) ∧ (stps ss)[i * 4 + 2]? = some (.int .i64 ss[i].e.a) ∧ (stps ss)[i * 4 + 3]? = some (.int .i64 ss[i].e.v)
  | [], i, h => absurd h (Nat.not_lt_zero _)
  | s :: r, 0, _ => ⟨rfl, rfl, rfl, rfl⟩
  | s :: r, i + 1, h => by
    have ih := stps_get r i (by simpa using h)
    rw [show (i + 1) * 4 = i * 4 + 1 + 1 + 1 + 1 by omega]
    simp only [stps, List.getElem?_cons_succ, List.getElem_cons_succ]
    exact ih
theorem stps_one : ∀ (l : List Stp), ∀ u ∈ stps l, u.oneCell' = true
  | [], u, h => by simp [stps] at h
  | x :: r, u, h => by
    simp only [stps, List.mem_cons] at h
    rcases h with rfl | rfl | rfl | rfl | h
    · rfl
    · rfl
    · rfl
    · rfl
    · exact stps_one r u h
/-- The slice address A leads to the steps ss, in a block below B. -/
def RdP (w : World) (B : Nat) (A : Option Addr) (ss : List Stp) : Prop := RdV w B A (stps ss)
section
variable {w w' : World} {B B' : Nat} {A : Option Addr} {ss : List Stp}
theorem RdP.nil_ : RdP w B A [] := RdV.nil_
theorem RdP.keep (h : RdP w B A ss) (hk : ∀ p : Addr, p.block < B → w'.cell? p = w.cell? p) : RdP w' B A ss := RdV.keep h hk
theorem RdP.more (h : RdP w B A ss) (hB : B ≤ B') : RdP w B' A ss := RdV.more h hB
theorem RdP.below (h : RdP w B A ss) (hb : Below B w w') : RdP w' B A ss := RdV.below h hb
theorem RdP.drew (h : RdP w B A ss) : RdP w.drew B A ss := h
theorem RdP.drewN (h : RdP w B A ss) (n : Nat) : RdP (w.drewN n) B A ss := h
theorem RdP.alloc (h : RdP w B A ss) (hB : B ≤ w.heap.size) (o : Obj) : RdP (w.alloc o) B A ss := RdV.alloc h hB o
theorem RdP.lt (h : RdP w B A ss) : RdP w w.heap.size A ss := RdV.lt h
theorem RdP.of_own {base : Nat} {e : TypeId} {n c : Nat} (h : w.ownsRow base e 4 (.slice A n c) n (stps ss)) : RdP w w.heap.size A ss := RdV.of_own h
theorem RdP.get (h : RdP w B A ss) {i : Nat} (hi : i < ss.length) : ∃ b off, A = some ⟨b, off, none⟩ ∧ b < B ∧ w.cell? ⟨b, off + i * 4, none⟩ = some (.int .i64 ss[i].c) ∧ w.cell? ⟨b, off + i * 4 + 1, none⟩ = some (.int .i64 ss[i].e.k) ∧ w.cell? ⟨b, off + i * 4 + 2, none⟩ = some (.int .i64 ss[i].e.a) ∧ w.cell? ⟨b, off + i * 4 + 3, none⟩ = some (.int .i64 ss[i].e.v) := by
  have hl := stps_length ss
  obtain ⟨b, off, e, hb, hc⟩ := h (by omega)
  obtain ⟨g0, g1, g2, g3⟩ := stps_get ss i hi
  have k0 := hc (i * 4) (by omega)
  have k1 := hc (i * 4 + 1) (by omega)
  have k2 := hc (i * 4 + 2) (by omega)
  have k3 := hc (i * 4 + 3) (by omega)
  rw [List.getElem?_eq_getElem (by omega)] at g0 g1 g2 g3
  rw [Option.some.inj g0] at k0
  rw [Option.some.inj g1] at k1
  rw [Option.some.inj g2] at k2
  rw [Option.some.inj g3] at k3
  exact ⟨b, off, e, hb, k0, by rw [Nat.add_assoc]; exact k1, by rw [Nat.add_assoc]; exact k2, by rw [Nat.add_assoc]; exact k3⟩
theorem RdP.grown {g : Nat} (h : RdP w g A ss) (hg : w.grownBy w' (some g)) : RdP w' g A ss := RdV.grown h hg
end
/-- How many steps core j has. -/
def cntL : List Stp → Int → Nat
  | [], _ => 0
  | s :: r, j => (if s.c = j then 1 else 0) + cntL r j
theorem cntL_append : ∀ (l m : List Stp) (j : Int), cntL (l ++ m) j = cntL l j + cntL m j
  | [], m, j => by simp [cntL]
  | s :: r, m, j => by simp only [List.cons_append, cntL, cntL_append r m j]; omega
theorem cntL_le : ∀ (l : List Stp) (j : Int), cntL l j ≤ l.length
  | [], j => Nat.le_refl _
  | s :: r, j => by have := cntL_le r j; simp only [cntL, List.length_cons]; split <;> omega
theorem cntL_hit (l : List Stp) (s : Stp) (j : Int) (h : s.c = j) : cntL (l ++ [s]) j = cntL l j + 1 := by rw [cntL_append]; simp [cntL, h]
theorem cntL_miss (l : List Stp) (s : Stp) (j : Int) (h : s.c ≠ j) : cntL (l ++ [s]) j = cntL l j := by rw [cntL_append]; simp [cntL, h]
/-- The fault of the steps one by one. -/
def logG (n : Int) : List Stp → Int
  | [] => 0
  | s :: r => if 0 ≤ s.c ∧ s.c ≤ n - 1 then (if evF s.e = 0 then logG n r else evF s.e) else 3
def fewL (ss : List Stp) : Prop := cntL ss 0 ≤ 8 ∧ cntL ss 1 ≤ 8 ∧ cntL ss 2 ≤ 8 ∧ cntL ss 3 ≤ 8
instance (ss : List Stp) : Decidable (fewL ss) := by unfold fewL; infer_instance
def logF (ss : List Stp) (n : Int) : Int :=
  if 1 ≤ n ∧ n ≤ 4 then (if ss.length ≤ 32 then (if logG n ss = 0 then (if fewL ss then 0 else 2) else logG n ss) else 2) else 3
theorem logF_cores {ss : List Stp} {n : Int} (h : ¬ (1 ≤ n ∧ n ≤ 4)) : logF ss n = 3 := if_neg h
theorem logF_long {ss : List Stp} {n : Int} (h : 1 ≤ n ∧ n ≤ 4) (h2 : ¬ ss.length ≤ 32) : logF ss n = 2 := by unfold logF; rw [if_pos h, if_neg h2]
theorem logF_bad {ss : List Stp} {n : Int} (h : 1 ≤ n ∧ n ≤ 4) (h2 : ss.length ≤ 32) (h3 : ¬ logG n ss = 0) : logF ss n = logG n ss := by unfold logF; rw [if_pos h, if_pos h2, if_neg h3]
theorem logF_few {ss : List Stp} {n : Int} (h : 1 ≤ n ∧ n ≤ 4) (h2 : ss.length ≤ 32) (h3 : logG n ss = 0) (h4 : fewL ss) : logF ss n = 0 := by unfold logF; rw [if_pos h, if_pos h2, if_pos h3, if_pos h4]
theorem logF_many {ss : List Stp} {n : Int} (h : 1 ≤ n ∧ n ≤ 4) (h2 : ss.length ≤ 32) (h3 : logG n ss = 0) (h4 : ¬ fewL ss) : logF ss n = 2 := by unfold logF; rw [if_pos h, if_pos h2, if_pos h3, if_neg h4]
theorem logF_zero {ss : List Stp} {n : Int} (h : logF ss n = 0) : (1 ≤ n ∧ n ≤ 4) ∧ ss.length ≤ 32 ∧ logG n ss = 0 ∧ fewL ss := by
  by_cases h1 : 1 ≤ n ∧ n ≤ 4
  · by_cases h2 : ss.length ≤ 32
    · by_cases h3 : logG n ss = 0
      · by_cases h4 : fewL ss
        · exact ⟨h1, h2, h3, h4⟩
        · rw [logF_many h1 h2 h3 h4] at h; omega
      · rw [logF_bad h1 h2 h3] at h; exact absurd h h3
    · rw [logF_long h1 h2] at h; omega
  · rw [logF_cores h1] at h; omega
theorem logG_drop (n : Int) (ss : List Stp) (i : Nat) (h : i < ss.length) : logG n (ss.drop i) = if 0 ≤ ss[i].c ∧ ss[i].c ≤ n - 1 then (if evF ss[i].e = 0 then logG n (ss.drop (i + 1)) else evF ss[i].e) else 3 := by
  rw [List.drop_eq_getElem_cons h, logG]
theorem logG_next {n : Int} {ss : List Stp} {i : Nat} (h : i < ss.length) (h1 : 0 ≤ ss[i].c ∧ ss[i].c ≤ n - 1) (h0 : evF ss[i].e = 0) : logG n (ss.drop i) = logG n (ss.drop (i + 1)) := by rw [logG_drop n ss i h, if_pos h1, if_pos h0]
theorem logG_ev {n : Int} {ss : List Stp} {i : Nat} (h : i < ss.length) (h1 : 0 ≤ ss[i].c ∧ ss[i].c ≤ n - 1) (h0 : ¬ evF ss[i].e = 0) : logG n (ss.drop i) = evF ss[i].e := by rw [logG_drop n ss i h, if_pos h1, if_neg h0]
theorem logG_core {n : Int} {ss : List Stp} {i : Nat} (h : i < ss.length) (h1 : ¬ (0 ≤ ss[i].c ∧ ss[i].c ≤ n - 1)) : logG n (ss.drop i) = 3 := by rw [logG_drop n ss i h, if_neg h1]
theorem logG_end {n : Int} {ss : List Stp} {i : Nat} (h : ¬ i < ss.length) : logG n (ss.drop i) = 0 := by rw [List.drop_eq_nil_of_le (by omega)]; rfl
theorem logG_all {n : Int} : ∀ {ss : List Stp}, logG n ss = 0 → ∀ s ∈ ss, (0 ≤ s.c ∧ s.c ≤ n - 1) ∧ evF s.e = 0
  | [], _, s, hs => by simp at hs
  | x :: r, h, s, hs => by
    rw [logG] at h
    by_cases h1 : 0 ≤ x.c ∧ x.c ≤ n - 1
    · rw [if_pos h1] at h
      by_cases h2 : evF x.e = 0
      · rw [if_pos h2] at h
        rcases List.mem_cons.1 hs with rfl | hs
        · exact ⟨h1, h2⟩
        · exact logG_all h s hs
      · rw [if_neg h2] at h; exact absurd h h2
    · rw [if_neg h1] at h; omega
theorem logG_of {n : Int} : ∀ {ss : List Stp}, (∀ s ∈ ss, (0 ≤ s.c ∧ s.c ≤ n - 1) ∧ evF s.e = 0) → logG n ss = 0
  | [], _ => rfl
  | x :: r, h => by
    obtain ⟨h1, h2⟩ := h x (by simp)
    rw [logG, if_pos h1, if_pos h2]
    exact logG_of fun s hs => h s (by simp [hs])
theorem cntL_none {ss : List Stp} {j : Int} : (∀ s ∈ ss, s.c ≠ j) → cntL ss j = 0 := by
  induction ss with
  | nil => intro _; rfl
  | cons x r ih =>
    intro h
    rw [cntL, if_neg (h x (by simp)), ih fun s hs => h s (by simp [hs])]
/-- The events of core j. -/
def colE (j : Int) : List Stp → List Ev
  | [] => []
  | s :: r => if s.c = j then s.e :: colE j r else colE j r
theorem colE_append (j : Int) : ∀ (l m : List Stp), colE j (l ++ m) = colE j l ++ colE j m
  | [], m => rfl
  | s :: r, m => by
    simp only [List.cons_append, colE]
    split
    · rw [colE_append j r m, List.cons_append]
    · rw [colE_append j r m]
theorem colE_length (j : Int) : ∀ l : List Stp, (colE j l).length = cntL l j
  | [] => rfl
  | s :: r => by
    simp only [colE, cntL]
    split
    · rw [List.length_cons, colE_length j r]; omega
    · rw [colE_length j r]; omega
theorem colE_mem {j : Int} {e : Ev} : ∀ {l : List Stp}, e ∈ colE j l → ∃ s ∈ l, s.e = e
  | [], h => by simp [colE] at h
  | s :: r, h => by
    rw [colE] at h
    split at h
    · rcases List.mem_cons.1 h with rfl | h
      · exact ⟨s, by simp, rfl⟩
      · obtain ⟨x, h1, h2⟩ := colE_mem h; exact ⟨x, by simp [h1], h2⟩
    · obtain ⟨x, h1, h2⟩ := colE_mem h; exact ⟨x, by simp [h1], h2⟩
/-- A log split by cores. -/
def spT (n : Nat) (ss : List Stp) : List (List Ev) := (List.range n).map fun j : Nat => colE (j : Int) ss
theorem spT_length (n : Nat) (ss : List Stp) : (spT n ss).length = n := by simp [spT]
theorem spT_get (n : Nat) (ss : List Stp) (i : Nat) (h : i < (spT n ss).length) : (spT n ss)[i] = colE (i : Int) ss := by simp [spT]
theorem spT_nil (n : Nat) : spT n [] = List.replicate n [] := by
  apply List.ext_getElem
  · simp [spT]
  · intro i h1 h2
    simp [spT, colE]
theorem spT_snoc (n : Nat) (ss : List Stp) (s : Stp) (i : Nat) (hi : s.c = (i : Int)) : spT n (ss ++ [s]) = (spT n ss).set i (colE (i : Int) ss ++ [s.e]) := by
  apply List.ext_getElem
  · simp [spT]
  · intro j h1 h2
    rw [spT_get]
    by_cases hij : i = j
    · subst hij
      rw [List.getElem_set_self, colE_append]
      simp [colE, hi]
    · rw [List.getElem_set_ne hij, spT_get, colE_append]
      have : ¬ s.c = (j : Int) := by omega
      simp [colE, this]
def slT (ss : List Stp) (n : Int) : List (List Ev) := if logF ss n = 0 then spT n.toNat ss else []
theorem sl_ok {ss : List Stp} {n : Int} (h : logF ss n = 0) : slT ss n = spT n.toNat ss := if_pos h
theorem sl_bad {ss : List Stp} {n : Int} (h : ¬ logF ss n = 0) : slT ss n = [] := if_neg h
def pkL (ss : List Stp) (n : Int) : List Int := if logF ss n = 0 then ss.map (·.c) else []
theorem pkL_ok {ss : List Stp} {n : Int} (h : logF ss n = 0) : pkL ss n = ss.map (·.c) := if_pos h
theorem pkL_bad {ss : List Stp} {n : Int} (h : ¬ logF ss n = 0) : pkL ss n = [] := if_neg h
theorem few_at {ss : List Stp} (h : fewL ss) {j : Int} (h0 : 0 ≤ j) (h4 : j < 4) : cntL ss j ≤ 8 := by
  obtain ⟨a, b, c, d⟩ := h
  rcases (show j = 0 ∨ j = 1 ∨ j = 2 ∨ j = 3 by omega) with rfl | rfl | rfl | rfl <;> assumption
end Go.Proofs.YtnnfkmjhaljplaaGreat
namespace Go.Proofs.YtnnfkmjhaljplaaGreat
open Go.RowKit
/-- How often core j stands in an order. -/
def cntO : List Int → Int → Nat
  | [], _ => 0
  | x :: r, j => (if x = j then 1 else 0) + cntO r j
theorem cntO_append : ∀ (l m : List Int) (j : Int), cntO (l ++ m) j = cntO l j + cntO m j
  | [], m, j => by simp [cntO]
  | x :: r, m, j => by simp only [List.cons_append, cntO, cntO_append r m j]; omega
theorem cntO_rep (n : Nat) (p j : Int) : cntO (List.replicate n p) j = if p = j then n else 0 := by
  induction n with
  | zero => simp [cntO]
  | succ n ih => rw [List.replicate_succ, cntO, ih]; split <;> omega
theorem cntO_snoc (l : List Int) (p j : Int) : cntO (l ++ [p]) j = cntO l j + if p = j then 1 else 0 := by rw [cntO_append]; simp [cntO]
/-- How many events core p has. -/
def lenT (t : List (List Ev)) (p : Int) : Nat := if 0 ≤ p then (t.getD p.toNat []).length else 0
theorem lenT_at (t : List (List Ev)) (k : Nat) (h : k < t.length) : lenT t (k : Int) = t[k].length := by
  unfold lenT
  rw [if_pos (by omega), Int.toNat_natCast]
  simp [h]
theorem lenT_out (t : List (List Ev)) (p : Int) (h : p < 0 ∨ (t.length : Int) ≤ p) : lenT t p = 0 := by
  unfold lenT
  by_cases h0 : 0 ≤ p
  · rw [if_pos h0, List.getD_eq_getElem?_getD, List.getElem?_eq_none (by omega)]; rfl
  · rw [if_neg h0]
theorem lenT_in {t : List (List Ev)} {p : Int} (h : 0 < lenT t p) : 0 ≤ p ∧ p < (t.length : Int) := by
  by_cases h0 : 0 ≤ p ∧ p < (t.length : Int)
  · exact h0
  · rw [lenT_out t p (by omega)] at h; omega
/-- A turn of core p; turns one behind the other. -/
def ordS (t : List (List Ev)) (O : List Int) (p : Int) : List Int := if cntO O p < lenT t p then O ++ [p] else O
theorem ordS_yes {t : List (List Ev)} {O : List Int} {p : Int} (h : cntO O p < lenT t p) : ordS t O p = O ++ [p] := if_pos h
theorem ordS_no {t : List (List Ev)} {O : List Int} {p : Int} (h : ¬ cntO O p < lenT t p) : ordS t O p = O := if_neg h
def ordL (t : List (List Ev)) (O : List Int) : List Int → List Int
  | [] => O
  | p :: r => ordL t (ordS t O p) r
theorem ordL_append (t : List (List Ev)) : ∀ (l m : List Int) (O : List Int), ordL t O (l ++ m) = ordL t (ordL t O l) m
  | [], m, O => rfl
  | x :: r, m, O => by simp only [List.cons_append, ordL, ordL_append t r m]
theorem ordL_snoc (t : List (List Ev)) (l : List Int) (p : Int) (O : List Int) : ordL t O (l ++ [p]) = ordS t (ordL t O l) p := by rw [ordL_append]; rfl
theorem ordS_len (t : List (List Ev)) (O : List Int) (p : Int) : (ordS t O p).length ≤ O.length + 1 := by
  unfold ordS
  split
  · simp
  · omega
theorem ordL_len (t : List (List Ev)) : ∀ (l O : List Int), (ordL t O l).length ≤ O.length + l.length
  | [], O => by simp [ordL]
  | p :: r, O => by
    have := ordL_len t r (ordS t O p)
    have := ordS_len t O p
    simp only [ordL, List.length_cons]
    omega
/-- What may stand in an order of t. -/
def okO (t : List (List Ev)) (O : List Int) : Prop := ∀ p, cntO O p ≤ lenT t p
theorem okO_nil (t : List (List Ev)) : okO t [] := fun _ => Nat.zero_le _
theorem okO_S {t : List (List Ev)} {O : List Int} (h : okO t O) (p : Int) : okO t (ordS t O p) := fun j => by
  by_cases hp : cntO O p < lenT t p
  · rw [ordS_yes hp, cntO_snoc]
    by_cases hj : p = j
    · subst hj; rw [if_pos rfl]; omega
    · rw [if_neg hj]; have := h j; omega
  · rw [ordS_no hp]; exact h j
theorem okO_L {t : List (List Ev)} : ∀ (l : List Int) {O : List Int}, okO t O → okO t (ordL t O l)
  | [], _, h => h
  | p :: r, _, h => okO_L r (okO_S h p)
/-- What is left comes core by core. -/
def fillO (t : List (List Ev)) (O : List Int) : Nat → List Int
  | 0 => O
  | k + 1 => fillO t O k ++ List.replicate (lenT t (k : Int) - cntO (fillO t O k) (k : Int)) (k : Int)
theorem ordL_rep (t : List (List Ev)) (p : Int) (O : List Int) (h : cntO O p ≤ lenT t p) : ∀ n : Nat, ordL t O (List.replicate n p) = O ++ List.replicate (min n (lenT t p - cntO O p)) p
  | 0 => by simp [ordL]
  | n + 1 => by
    rw [List.replicate_succ', ordL_snoc, ordL_rep t p O h n]
    by_cases hn : n < lenT t p - cntO O p
    · rw [ordS_yes (by rw [cntO_append, cntO_rep, if_pos rfl]; omega), Nat.min_eq_left (by omega), Nat.min_eq_left (by omega), List.append_assoc, ← List.replicate_succ']
    · rw [ordS_no (by rw [cntO_append, cntO_rep, if_pos rfl]; omega), Nat.min_eq_right (by omega), Nat.min_eq_right (by omega)]
/-- The turns behind the picks. -/
def repsT (t : List (List Ev)) : Nat → List Int
  | 0 => []
  | k + 1 => repsT t k ++ List.replicate (lenT t (k : Int)) (k : Int)
theorem ordL_reps {t : List (List Ev)} {O : List Int} (h : okO t O) : ∀ k, ordL t O (repsT t k) = fillO t O k ∧ okO t (fillO t O k)
  | 0 => ⟨rfl, h⟩
  | k + 1 => by
    obtain ⟨h1, h2⟩ := ordL_reps h k
    have e : ordL t O (repsT t (k + 1)) = fillO t O (k + 1) := by
      rw [repsT, ordL_append, h1, ordL_rep t k _ (h2 k), fillO, Nat.min_eq_right (by omega)]
    exact ⟨e, by rw [← e]; exact okO_L _ h⟩
def turnsT (t : List (List Ev)) (picks : List Int) : List Int := picks ++ repsT t t.length
def ordF (t : List (List Ev)) (picks : List Int) : List Int := fillO t (ordL t [] picks) t.length
theorem ordF_eq (t : List (List Ev)) (picks : List Int) : ordL t [] (turnsT t picks) = ordF t picks := by
  unfold turnsT ordF
  rw [ordL_append, (ordL_reps (okO_L picks (okO_nil t)) t.length).1]
theorem ordF_ok (t : List (List Ev)) (picks : List Int) : okO t (ordF t picks) := by rw [← ordF_eq]; exact okO_L _ (okO_nil t)
theorem fillO_full {t : List (List Ev)} {O : List Int} (h : okO t O) : ∀ (k j : Nat), j < k → cntO (fillO t O k) (j : Int) = lenT t (j : Int)
  | 0, j, hj => absurd hj (Nat.not_lt_zero _)
  | k + 1, j, hj => by
    have h2 := (ordL_reps h k).2 (k : Int)
    rw [fillO, cntO_append, cntO_rep]
    by_cases hjk : k = j
    · subst hjk; rw [if_pos rfl]; omega
    · rw [if_neg (by omega), fillO_full h k j (by omega)]; omega
theorem ordF_full (t : List (List Ev)) (picks : List Int) (p : Int) : cntO (ordF t picks) p = lenT t p := by
  by_cases hp : 0 ≤ p ∧ p < (t.length : Int)
  · obtain ⟨j, rfl⟩ := Int.eq_ofNat_of_zero_le hp.1
    exact fillO_full (okO_L picks (okO_nil t)) t.length j (by omega)
  · have h := ordF_ok t picks p
    rw [lenT_out t p (by omega)] at h ⊢
    omega
theorem repsT_len {t : List (List Ev)} (h8 : ∀ l ∈ t, l.length ≤ 8) : ∀ k, (repsT t k).length ≤ 8 * k
  | 0 => by simp [repsT]
  | k + 1 => by
    have := repsT_len h8 k
    rw [repsT, List.length_append, List.length_replicate]
    have h1 : lenT t (k : Int) ≤ 8 := by
      by_cases hk : k < t.length
      · rw [lenT_at t k hk]; exact h8 _ (List.getElem_mem hk)
      · rw [lenT_out t k (by omega)]; omega
    omega
theorem turnsT_len {t : List (List Ev)} {picks : List Int} (h8 : ∀ l ∈ t, l.length ≤ 8) : (turnsT t picks).length ≤ picks.length + 8 * t.length := by
  have := repsT_len h8 t.length
  unfold turnsT
  rw [List.length_append]
  omega
theorem ordF_len {t : List (List Ev)} {picks : List Int} (h8 : ∀ l ∈ t, l.length ≤ 8) : (ordF t picks).length ≤ picks.length + 8 * t.length := by
  have := turnsT_len (picks := picks) h8
  have := ordL_len t (turnsT t picks) []
  rw [ordF_eq] at this
  simp only [List.length_nil] at this
  omega
/-- The event of core p at place i. -/
def evAtO (t : List (List Ev)) (p : Int) (i : Nat) : Ev := (t.getD p.toNat []).getD i ⟨0, 0, 0⟩
theorem evAtO_get (t : List (List Ev)) (k i : Nat) (hk : k < t.length) (hi : i < t[k].length) : evAtO t (k : Int) i = t[k][i] := by
  unfold evAtO
  rw [Int.toNat_natCast]
  simp [hk, hi]
/-- The log of an order. -/
def logO (t : List (List Ev)) (O : List Int) : List Stp := (List.range O.length).map fun k : Nat => ⟨O.getD k 0, evAtO t (O.getD k 0) (cntO (O.take k) (O.getD k 0))⟩
theorem logO_length (t : List (List Ev)) (O : List Int) : (logO t O).length = O.length := by simp [logO]
theorem logO_snoc (t : List (List Ev)) (O : List Int) (p : Int) : logO t (O ++ [p]) = logO t O ++ [⟨p, evAtO t p (cntO O p)⟩] := by
  unfold logO
  rw [List.length_append, List.length_singleton, List.range_succ, List.map_append, List.map_cons, List.map_nil]
  congr 1
  · apply List.map_congr_left
    intro k hk
    have hk' : k < O.length := by simpa using hk
    have e1 : (O ++ [p]).getD k 0 = O.getD k 0 := by rw [List.getD_eq_getElem?_getD, List.getD_eq_getElem?_getD, List.getElem?_append_left hk']
    rw [e1, List.take_append_of_le_length (by omega)]
  · have e1 : (O ++ [p]).getD O.length 0 = p := by simp
    rw [e1, List.take_left]
theorem logO_map (t : List (List Ev)) (O : List Int) : (logO t O).map (·.c) = O := by
  apply List.ext_getElem
  · rw [List.length_map, logO_length]
  · intro k h1 h2
    simp [logO, h2]
theorem cntL_logO (t : List (List Ev)) (O : List Int) (j : Int) : cntL (logO t O) j = cntO O j := by
  have key : ∀ l : List Stp, cntL l j = cntO (l.map (·.c)) j := by
    intro l
    induction l with
    | nil => rfl
    | cons x r ih => simp only [cntL, List.map_cons, cntO, ih]
  rw [key, logO_map]
def mgC (t : List (List Ev)) (picks : List Int) : Int := if trF t = 0 then (if picks.length ≤ 100 then 0 else 2) else trF t
def mgL (t : List (List Ev)) (picks : List Int) : List Stp := if mgC t picks = 0 then logO t (ordF t picks) else []
theorem mgC_bad {t : List (List Ev)} {picks : List Int} (h : ¬ trF t = 0) : mgC t picks = trF t := if_neg h
theorem mgC_many {t : List (List Ev)} {picks : List Int} (h : trF t = 0) (h2 : ¬ picks.length ≤ 100) : mgC t picks = 2 := by unfold mgC; rw [if_pos h, if_neg h2]
theorem mgC_ok {t : List (List Ev)} {picks : List Int} (h : trF t = 0) (h2 : picks.length ≤ 100) : mgC t picks = 0 := by unfold mgC; rw [if_pos h, if_pos h2]
theorem mgC_zero {t : List (List Ev)} {picks : List Int} (h : mgC t picks = 0) : trF t = 0 ∧ picks.length ≤ 100 := by
  by_cases h0 : trF t = 0
  · by_cases h2 : picks.length ≤ 100
    · exact ⟨h0, h2⟩
    · rw [mgC_many h0 h2] at h; omega
  · rw [mgC_bad h0] at h; exact absurd h h0
theorem mgL_ok {t : List (List Ev)} {picks : List Int} (h : mgC t picks = 0) : mgL t picks = logO t (ordF t picks) := if_pos h
theorem mgL_bad {t : List (List Ev)} {picks : List Int} (h : ¬ mgC t picks = 0) : mgL t picks = [] := if_neg h
/-- What is merged is split again into what it was. -/
theorem colE_logO (t : List (List Ev)) (p : Int) : ∀ (n : Nat) (O : List Int), O.length = n → okO t O → colE p (logO t O) = (t.getD p.toNat []).take (cntO O p)
  | 0, O, h, _ => by
    have : O = [] := List.eq_nil_of_length_eq_zero h
    subst this
    simp [logO, colE, cntO]
  | n + 1, O, h, hok => by
    obtain ⟨O', q, rfl⟩ : ∃ O' q, O = O' ++ [q] := ⟨O.dropLast, O.getLast (by intro e; rw [e] at h; simp at h), (List.dropLast_concat_getLast _).symm⟩
    have hl : O'.length = n := by simpa using h
    have hok' : okO t O' := fun j => by have := hok j; rw [cntO_snoc] at this; omega
    rw [logO_snoc, colE_append, colE_logO t p n O' hl hok', cntO_snoc]
    by_cases hq : q = p
    · subst hq
      have h1 := hok q
      rw [cntO_snoc, if_pos rfl] at h1
      have h2 := lenT_in (t := t) (p := q) (by omega)
      unfold lenT at h1
      rw [if_pos h2.1] at h1
      rw [if_pos rfl]
      simp only [colE, if_pos]
      rw [List.take_succ_eq_append_getElem (by omega)]
      congr 1
      simp only [List.cons.injEq, and_true]
      unfold evAtO
      rw [List.getD_eq_getElem?_getD (l := t.getD q.toNat []), List.getElem?_eq_getElem (by omega)]
      rfl
    · rw [if_neg hq, Nat.add_zero]
      simp [colE, hq]
theorem spT_logO (t : List (List Ev)) (picks : List Int) : spT t.length (logO t (ordF t picks)) = t := by
  apply List.ext_getElem
  · rw [spT_length]
  · intro i h1 h2
    rw [spT_get, colE_logO t (i : Int) _ _ rfl (ordF_ok t picks), ordF_full, lenT_at t i h2, Int.toNat_natCast]
    have e : t.getD i [] = t[i] := by simp [h2]
    rw [e, List.take_length]
theorem all_in {O : List Int} (h : ∀ p ∈ O, 0 ≤ p ∧ p < 4) : O.length = cntO O 0 + cntO O 1 + cntO O 2 + cntO O 3 := by
  induction O with
  | nil => rfl
  | cons x r ih =>
    have h1 := ih fun p hp => h p (by simp [hp])
    have h2 := h x (by simp)
    simp only [List.length_cons, cntO, h1]
    rcases (show x = 0 ∨ x = 1 ∨ x = 2 ∨ x = 3 by omega) with rfl | rfl | rfl | rfl <;> simp <;> omega
theorem cntO_mem {O : List Int} {p : Int} (h : p ∈ O) : 0 < cntO O p := by
  induction O with
  | nil => simp at h
  | cons x r ih =>
    rw [cntO]
    rcases List.mem_cons.1 h with rfl | h
    · rw [if_pos rfl]; omega
    · have := ih h; omega
theorem logO_mem {t : List (List Ev)} {O : List Int} (hok : okO t O) {s : Stp} (hs : s ∈ logO t O) : (0 ≤ s.c ∧ s.c < (t.length : Int)) ∧ ∃ l ∈ t, s.e ∈ l := by
  unfold logO at hs
  obtain ⟨k, hk, rfl⟩ := List.mem_map.1 hs
  have hk' : k < O.length := by simpa using hk
  have e : O.getD k 0 = O[k] := by simp [hk']
  rw [e]
  have h1 := hok O[k]
  have h2 := cntO_mem (List.getElem_mem hk')
  have h3 := lenT_in (t := t) (p := O[k]) (by omega)
  refine ⟨h3, ?_⟩
  obtain ⟨j, hj⟩ := Int.eq_ofNat_of_zero_le h3.1
  simp only
  rw [hj] at h1 h2 h3 ⊢
  have hjt : j < t.length := by omega
  have hlt : cntO (O.take k) (j : Int) < t[j].length := by
    rw [lenT_at t j hjt] at h1
    have e2 : cntO O (j : Int) = cntO (O.take k) (j : Int) + cntO (O.drop k) (j : Int) := by rw [← cntO_append, List.take_append_drop]
    have e3 : 0 < cntO (O.drop k) (j : Int) := by
      rw [List.drop_eq_getElem_cons hk', cntO, if_pos hj]
      omega
    omega
  rw [evAtO_get t j _ hjt hlt]
  exact ⟨t[j], List.getElem_mem hjt, List.getElem_mem hlt⟩
theorem logF_logO {t : List (List Ev)} {picks : List Int} (h0 : trF t = 0) : logF (logO t (ordF t picks)) (t.length : Int) = 0 := by
  have htr : 1 ≤ t.length ∧ t.length ≤ 4 := by
    by_cases h : 1 ≤ t.length ∧ t.length ≤ 4
    · exact h
    · unfold trF at h0; rw [if_neg h] at h0; omega
  have hall : ∀ l ∈ t, stF l = 0 := by
    have key : ∀ u : List (List Ev), stsF u = 0 → ∀ l ∈ u, stF l = 0 := by
      intro u
      induction u with
      | nil => intro _ l hl; simp at hl
      | cons x r ih =>
        intro h l hl
        rw [stsF] at h
        by_cases hx : stF x = 0
        · rw [if_pos hx] at h
          rcases List.mem_cons.1 hl with rfl | hl
          · exact hx
          · exact ih h l hl
        · rw [if_neg hx] at h; exact absurd h hx
    unfold trF at h0
    rw [if_pos htr] at h0
    exact key t h0
  have hok := ordF_ok t picks
  have hmem : ∀ s ∈ logO t (ordF t picks), (0 ≤ s.c ∧ s.c ≤ (t.length : Int) - 1) ∧ evF s.e = 0 := fun s hs => by
    obtain ⟨h1, l, hl, he⟩ := logO_mem hok hs
    exact ⟨by omega, evsF_all (stF_zero (hall l hl)).2 _ he⟩
  have hc8 : ∀ p, cntO (ordF t picks) p ≤ 8 := fun p => by
    have := hok p
    by_cases hp : 0 ≤ p ∧ p < (t.length : Int)
    · obtain ⟨j, rfl⟩ := Int.eq_ofNat_of_zero_le hp.1
      rw [lenT_at t j (by omega)] at this
      have := (stF_zero (hall _ (List.getElem_mem (show j < t.length by omega)))).1
      omega
    · rw [lenT_out t p (by omega)] at this; omega
  have hlen : (logO t (ordF t picks)).length ≤ 32 := by
    rw [logO_length, all_in (fun p hp => by
      have h1 := hok p
      have h2 := cntO_mem hp
      have := lenT_in (t := t) (p := p) (by omega)
      omega)]
    have a := hc8 0; have b := hc8 1; have c := hc8 2; have d := hc8 3
    omega
  refine logF_few (by omega) hlen (logG_of hmem) ?_
  unfold fewL
  simp only [cntL_logO]
  exact ⟨hc8 0, hc8 1, hc8 2, hc8 3⟩
/-- What is split is merged again, by the right picks. -/
theorem getD_spT (n : Nat) (ss : List Stp) (p : Int) (h : 0 ≤ p ∧ p < (n : Int)) : (spT n ss).getD p.toNat [] = colE p ss := by
  obtain ⟨j, rfl⟩ := Int.eq_ofNat_of_zero_le h.1
  rw [Int.toNat_natCast]
  have hj : j < (spT n ss).length := by rw [spT_length]; omega
  rw [List.getD_eq_getElem?_getD, List.getElem?_eq_getElem hj, Option.getD_some, spT_get]
theorem cntL_map : ∀ (l : List Stp) (j : Int), cntO (l.map (·.c)) j = cntL l j
  | [], _ => rfl
  | x :: r, j => by simp only [List.map_cons, cntO, cntL, cntL_map r j]
theorem lenT_spT (n : Nat) (ss : List Stp) (p : Int) (h : 0 ≤ p ∧ p < (n : Int)) : lenT (spT n ss) p = cntL ss p := by
  unfold lenT
  rw [if_pos h.1, getD_spT n ss p h, colE_length]
theorem merge_back {n : Nat} {ss : List Stp} (hin : ∀ s ∈ ss, 0 ≤ s.c ∧ s.c < (n : Int)) : ∀ k, k ≤ ss.length → ordL (spT n ss) [] ((ss.take k).map (·.c)) = (ss.take k).map (·.c) ∧ logO (spT n ss) ((ss.take k).map (·.c)) = ss.take k
  | 0, _ => by simp [ordL, logO]
  | k + 1, hk => by
    obtain ⟨h1, h2⟩ := merge_back hin k (by omega)
    have hkl : k < ss.length := by omega
    have hi := hin _ (List.getElem_mem hkl)
    have hcol : colE ss[k].c ss = colE ss[k].c (ss.take k) ++ ss[k].e :: colE ss[k].c (ss.drop (k + 1)) := by
      have e : ss.take k ++ ss[k] :: ss.drop (k + 1) = ss := by rw [← List.drop_eq_getElem_cons hkl, List.take_append_drop]
      have hc : ∀ p, colE p ss = colE p (ss.take k) ++ colE p (ss[k] :: ss.drop (k + 1)) := fun p => by rw [← colE_append, e]
      rw [hc, colE, if_pos rfl]
    rw [List.take_succ_eq_append_getElem hkl, List.map_append, List.map_cons, List.map_nil, ordL_snoc, h1, logO_snoc, h2]
    have hlt : cntO ((ss.take k).map (·.c)) ss[k].c < lenT (spT n ss) ss[k].c := by
      rw [lenT_spT n ss _ hi, cntL_map, ← colE_length, ← colE_length, hcol, List.length_append, List.length_cons]
      omega
    refine ⟨ordS_yes hlt, ?_⟩
    congr 1
    simp only [List.cons.injEq, and_true]
    have hev : evAtO (spT n ss) ss[k].c (cntO ((ss.take k).map (·.c)) ss[k].c) = ss[k].e := by
      unfold evAtO
      rw [getD_spT n ss _ hi, cntL_map, ← colE_length, hcol]
      simp
    rw [hev]
theorem fillO_none {t : List (List Ev)} {O : List Int} (h : ∀ p, cntO O p = lenT t p) : ∀ k, fillO t O k = O
  | 0 => rfl
  | k + 1 => by rw [fillO, fillO_none h k, h, Nat.sub_self]; simp
theorem merge_split {n : Nat} {ss : List Stp} (h : logF ss (n : Int) = 0) : mgC (spT n ss) (ss.map (·.c)) = 0 ∧ mgL (spT n ss) (ss.map (·.c)) = ss := by
  obtain ⟨hn, hl, hG, h8⟩ := logF_zero h
  have hall := logG_all hG
  have hin : ∀ s ∈ ss, 0 ≤ s.c ∧ s.c < (n : Int) := fun s hs => by have := (hall s hs).1; omega
  have htr : trF (spT n ss) = 0 := by
    have key : ∀ u : List (List Ev), (∀ l ∈ u, stF l = 0) → stsF u = 0 := by
      intro u
      induction u with
      | nil => intro _; rfl
      | cons x r ih => intro h; rw [stsF, if_pos (h x (by simp))]; exact ih fun l hl => h l (by simp [hl])
    have ke : ∀ u : List Ev, (∀ e ∈ u, evF e = 0) → evsF u = 0 := by
      intro u
      induction u with
      | nil => intro _; rfl
      | cons x r ih => intro h; rw [evsF, if_pos (h x (by simp))]; exact ih fun l hl => h l (by simp [hl])
    unfold trF
    rw [spT_length, if_pos (by omega)]
    refine key _ fun l hl => ?_
    obtain ⟨i, hi, rfl⟩ := List.getElem_of_mem hl
    rw [spT_get]
    rw [spT_length] at hi
    rw [stF_few (by rw [colE_length]; exact few_at h8 (by omega) (by omega))]
    exact ke _ fun e he => by obtain ⟨s, h1, h2⟩ := colE_mem he; rw [← h2]; exact (hall s h1).2
  have hc : mgC (spT n ss) (ss.map (·.c)) = 0 := mgC_ok htr (by rw [List.length_map]; omega)
  obtain ⟨h1, h2⟩ := merge_back hin ss.length (Nat.le_refl _)
  rw [List.take_length] at h1 h2
  refine ⟨hc, ?_⟩
  rw [mgL_ok hc]
  unfold ordF
  rw [h1, fillO_none (fun p => ?_), h2]
  rw [cntL_map]
  by_cases hp : 0 ≤ p ∧ p < (n : Int)
  · rw [lenT_spT n ss p hp]
  · rw [lenT_out _ p (by rw [spT_length]; omega)]
    exact cntL_none fun s hs e => hp (e ▸ hin s hs)
theorem mgL_len (t : List (List Ev)) (picks : List Int) : (mgL t picks).length ≤ 132 := by
  by_cases h : mgC t picks = 0
  · obtain ⟨h0, hp⟩ := mgC_zero h
    have h1 : 1 ≤ t.length ∧ t.length ≤ 4 := by
      by_cases h : 1 ≤ t.length ∧ t.length ≤ 4
      · exact h
      · unfold trF at h0; rw [if_neg h] at h0; omega
    have := (logF_zero (logF_logO (picks := picks) h0)).2.1
    rw [mgL_ok h]
    omega
  · rw [mgL_bad h]; simp
end Go.Proofs.YtnnfkmjhaljplaaGreat
namespace Go.Proofs.YtnnfkmjhaljplaaGreat
/-- A cell of the memory. -/
structure Cel where
  a : Int
  v : Int
/-- A machine: its lines (state, address, value) core by core, and its memory. -/
structure Mac where
  cs : List (List Ev)
  mem : List Cel
def lnZ : Ev := ⟨0, 0, 0⟩
def ln (cs : List (List Ev)) (i k : Nat) : Ev := (cs.getD i []).getD k lnZ
def setL (cs : List (List Ev)) (i k : Nat) (x : Ev) : List (List Ev) := cs.set i ((cs.getD i []).set k x)
theorem ln_get (cs : List (List Ev)) (i k : Nat) (hi : i < cs.length) (hk : k < cs[i].length) : ln cs i k = cs[i][k] := by
  unfold ln
  rw [show cs.getD i [] = cs[i] by simp [hi]]
  simp [hk]
theorem ln_set (cs : List (List Ev)) (i k i' k' : Nat) (x : Ev) (hi : i < cs.length) (hk : k < (cs.getD i []).length) : ln (setL cs i k x) i' k' = if i' = i ∧ k' = k then x else ln cs i' k' := by
  unfold ln setL
  by_cases h1 : i' = i
  · subst h1
    have e : (cs.set i' ((cs.getD i' []).set k x)).getD i' [] = (cs.getD i' []).set k x := by
      rw [List.getD_eq_getElem?_getD, List.getElem?_set_self hi]; rfl
    rw [e]
    by_cases h2 : k' = k
    · subst h2
      rw [if_pos ⟨rfl, rfl⟩, List.getD_eq_getElem?_getD, List.getElem?_set_self hk]; rfl
    · rw [if_neg (fun h => h2 h.2), List.getD_eq_getElem?_getD, List.getElem?_set_ne (fun e => h2 e.symm), ← List.getD_eq_getElem?_getD]
  · rw [if_neg (fun h => h1 h.1)]
    rw [List.getD_eq_getElem?_getD (l := cs.set i _), List.getElem?_set_ne (fun e => h1 e.symm), ← List.getD_eq_getElem?_getD]
theorem setL_length (cs : List (List Ev)) (i k : Nat) (x : Ev) : (setL cs i k x).length = cs.length := by simp [setL]
/-- All cores have L lines. -/
def Shp7 (n L : Nat) (cs : List (List Ev)) : Prop := cs.length = n ∧ ∀ l ∈ cs, l.length = L
theorem Shp7.row {n L : Nat} {cs : List (List Ev)} (h : Shp7 n L cs) {i : Nat} (hi : i < n) : (cs.getD i []).length = L := by
  have hi' : i < cs.length := by rw [h.1]; exact hi
  rw [show cs.getD i [] = cs[i] by simp [hi']]
  exact h.2 _ (List.getElem_mem hi')
theorem Shp7.set_ {n L : Nat} {cs : List (List Ev)} (h : Shp7 n L cs) {i k : Nat} (hi : i < n) (x : Ev) : Shp7 n L (setL cs i k x) := by
  refine ⟨by rw [setL_length]; exact h.1, fun l hl => ?_⟩
  rcases List.mem_or_eq_of_mem_set hl with a | a
  · exact h.2 l a
  · rw [a, List.length_set]; exact h.row hi
theorem Shp7.ln_set {n L : Nat} {cs : List (List Ev)} (h : Shp7 n L cs) {i k : Nat} (hi : i < n) (hk : k < L) (x : Ev) (i' k' : Nat) : ln (setL cs i k x) i' k' = if i' = i ∧ k' = k then x else ln cs i' k' :=
  Go.Proofs.YtnnfkmjhaljplaaGreat.ln_set cs i k i' k' x (by rw [h.1]; exact hi) (by rw [h.row hi]; exact hk)
/-- What the memory has at an address. -/
def readM : List Cel → Int → Int
  | [], _ => 0
  | c :: r, a => if c.a = a then c.v else readM r a
def celOk (c : Cel) : Prop := 0 ≤ c.a ∧ c.a ≤ 999999 ∧ 1 ≤ c.v ∧ c.v ≤ 999999
instance (c : Cel) : Decidable (celOk c) := by unfold celOk; infer_instance
/-- Rising. -/
def rise : List Cel → Bool
  | [] => true
  | c :: r => (match r with | [] => true | d :: _ => decide (c.a < d.a)) && rise r
def allC : List Cel → Bool
  | [] => true
  | c :: r => decide (celOk c) && allC r
def cellsF (l : List Cel) : Int := if allC l = true then (if rise l = true then 0 else 1) else 3
/-- The fault of a line at a place. -/
def lineF (L : Nat) (k : Nat) (x : Ev) : Int :=
  if (0 ≤ x.k ∧ x.k ≤ 2) ∧ (x.k = 0 → x.a = 0 ∧ x.v = 0) then
    (if 0 ≤ x.a ∧ x.a ≤ 999999 ∧ 0 ≤ x.v ∧ x.v ≤ 999999 then (if x.k ≠ 0 ∧ x.a % (L : Int) ≠ (k : Int) then 1 else 0) else 3) else 1
def rowF (L : Nat) : Nat → List Ev → Int
  | _, [] => 0
  | k, x :: r => if lineF L k x = 0 then rowF L (k + 1) r else lineF L k x
def linesF (L : Nat) : List (List Ev) → Int
  | [] => 0
  | l :: r => if rowF L 0 l = 0 then linesF L r else rowF L 0 l
/-- Caches keep together. -/
def Tog (n L : Nat) (m : Mac) : Prop := ∀ i, i < n → ∀ k, k < L →
  ((ln m.cs i k).k = 1 → (ln m.cs i k).v = readM m.mem (ln m.cs i k).a) ∧
  ∀ j, j < n → j ≠ i → (ln m.cs i k).k = 2 → (ln m.cs j k).k ≠ 0 → (ln m.cs j k).a ≠ (ln m.cs i k).a
def Siz (m : Mac) : Prop := (1 ≤ m.cs.length ∧ m.cs.length ≤ 4) ∧ m.mem.length ≤ 32 ∧ (∀ l ∈ m.cs, l.length = (m.cs.getD 0 []).length) ∧ 1 ≤ (m.cs.getD 0 []).length ∧ (m.cs.getD 0 []).length ≤ 4
open Classical in
noncomputable def macF (m : Mac) : Int :=
  if Siz m then (if cellsF m.mem = 0 then (if linesF (m.cs.getD 0 []).length m.cs = 0 then (if Tog m.cs.length (m.cs.getD 0 []).length m then 0 else 7) else linesF (m.cs.getD 0 []).length m.cs) else cellsF m.mem) else 2
def opF (o : Ev) : Int := if evF o = 0 then (if o.k = 0 ∧ o.v ≠ 0 then 1 else 0) else evF o
def opsF : List Ev → Int
  | [] => 0
  | o :: r => if opF o = 0 then opsF r else opF o
def prF (l : List Ev) : Int := if l.length ≤ 8 then opsF l else 2
def prsF : List (List Ev) → Int
  | [] => 0
  | l :: r => if prF l = 0 then prsF r else prF l
def pgF (t : List (List Ev)) : Int := if 1 ≤ t.length ∧ t.length ≤ 4 then prsF t else 2
/-- A value written back into the memory. -/
def backL (a v : Int) : Bool → List Cel → List Cel
  | d, [] => if d = true then [] else [⟨a, v⟩]
  | d, c :: r => (if d = false ∧ a < c.a then [⟨a, v⟩] else []) ++ ((if c.a ≠ a then [c] else []) ++ backL a v (d || decide (a < c.a)) r)
def backM (mem : List Cel) (a v : Int) : List Cel := backL a v (decide (v = 0)) mem
/-- Core i's line at place k, of this address, given up to core c. -/
def giveL (c k : Nat) (a : Int) (store : Bool) (m : Mac) (i : Nat) : Mac :=
  let x := ln m.cs i k
  if i = c ∨ x.k = 0 ∨ x.a ≠ a then m
  else ⟨setL m.cs i k (if store = true then lnZ else ⟨1, x.a, x.v⟩), if x.k = 2 then backM m.mem x.a x.v else m.mem⟩
def others (c k : Nat) (a : Int) (store : Bool) (m : Mac) : Mac := (List.range m.cs.length).foldl (giveL c k a store) m
/-- The own line, made free of another address. -/
def freeL (c k : Nat) (a : Int) (m : Mac) : Mac :=
  let x := ln m.cs c k
  if x.k ≠ 0 ∧ x.a ≠ a then ⟨setL m.cs c k lnZ, if x.k = 2 then backM m.mem x.a x.v else m.mem⟩ else m
def placeOf (m : Mac) (c : Nat) (a : Int) : Nat := (a % ((m.cs.getD c []).length : Int)).toNat
/-- One op of core c: the machine, and the value. -/
def doM (m : Mac) (c : Nat) (o : Ev) : Mac × Int :=
  let k := placeOf m c o.a
  let m1 := freeL c k o.a m
  if o.k = 1 then
    (let m2 := if (ln m1.cs c k).k = 2 then m1 else others c k o.a true m1
     (⟨setL m2.cs c k ⟨2, o.a, o.v⟩, m2.mem⟩, o.v))
  else if (ln m1.cs c k).k = 0 then
    (let m2 := others c k o.a false m1
     (⟨setL m2.cs c k ⟨1, o.a, readM m2.mem o.a⟩, m2.mem⟩, readM m2.mem o.a))
  else (m1, (ln m1.cs c k).v)
def newM (n L : Nat) : Mac := ⟨List.replicate n (List.replicate L lnZ), []⟩
theorem rise_tail {c : Cel} {r : List Cel} (h : rise (c :: r) = true) : rise r = true := by
  simp only [rise, Bool.and_eq_true] at h
  exact h.2
theorem rise_lt : ∀ {r : List Cel} {c : Cel}, rise (c :: r) = true → ∀ d ∈ r, c.a < d.a
  | [], _, _, d, hd => by simp at hd
  | e :: r, c, h, d, hd => by
    have h1 : c.a < e.a := by simp only [rise, Bool.and_eq_true, decide_eq_true_eq] at h; exact h.1
    rcases List.mem_cons.1 hd with rfl | hd
    · exact h1
    · have := rise_lt (rise_tail h) d hd
      omega
theorem rise_cons {c : Cel} {r : List Cel} (h : rise r = true) (h2 : ∀ d ∈ r, c.a < d.a) : rise (c :: r) = true := by
  cases r with
  | nil => rfl
  | cons e r =>
    simp only [rise, Bool.and_eq_true, decide_eq_true_eq]
    simp only [rise, Bool.and_eq_true] at h
    exact ⟨h2 e (by simp), h⟩
theorem backL_mem (a v : Int) : ∀ (l : List Cel) (d : Bool) (c : Cel), c ∈ backL a v d l → c = ⟨a, v⟩ ∨ (c ∈ l ∧ c.a ≠ a)
  | [], d, c, h => by
    cases d with
    | true => simp [backL] at h
    | false => simp [backL] at h; exact .inl h
  | e :: r, d, c, h => by
    rw [backL] at h
    rcases List.mem_append.1 h with h | h
    · split at h
      · simp at h; exact .inl h
      · simp at h
    · rcases List.mem_append.1 h with h | h
      · split at h
        · rename_i hne
          simp at h
          subst h
          exact .inr ⟨by simp, hne⟩
        · simp at h
      · rcases backL_mem a v r _ c h with x | ⟨x, y⟩
        · exact .inl x
        · exact .inr ⟨by simp [x], y⟩
/-- Behind the place: the rest alone. -/
theorem backL_done (a v : Int) : ∀ (l : List Cel), (∀ d ∈ l, a < d.a) → backL a v true l = l
  | [], _ => rfl
  | e :: r, h => by
    have h1 := h e (by simp)
    rw [backL, if_neg (by simp), if_pos (by omega), Bool.true_or, backL_done a v r fun d hd => h d (by simp [hd])]
    rfl
/-- Nothing is laid: the cell of this address goes. -/
theorem backL_gone (a v : Int) : ∀ (l : List Cel), backL a v true l = l.filter fun c => decide (c.a ≠ a)
  | [] => rfl
  | e :: r => by
    rw [backL, if_neg (by simp), Bool.true_or, backL_gone a v r, List.filter_cons]
    by_cases h : e.a ≠ a
    · simp [h]
    · simp [h]
theorem backL_read (a v : Int) : ∀ (l : List Cel), rise l = true → ∀ b, readM (backL a v false l) b = if b = a then v else readM l b
  | [], _, b => by
    simp only [backL, readM]
    by_cases h : b = a
    · subst h; simp [readM]
    · rw [if_neg h]; simp [readM]; intro e; exact absurd e.symm h
  | e :: r, hr, b => by
    have hlt := rise_lt hr
    have ih := backL_read a v r (rise_tail hr) b
    rw [backL]
    by_cases h1 : a < e.a
    · rw [if_pos ⟨rfl, h1⟩, if_pos (by omega), decide_eq_true h1, Bool.false_or, backL_done a v r (fun d hd => by have := hlt d hd; omega)]
      simp only [List.cons_append, List.nil_append, readM]
      by_cases h : b = a
      · subst h; simp
      · rw [if_neg h, if_neg (fun e => h e.symm)]
    · rw [if_neg (fun h => h1 h.2), decide_eq_false h1, Bool.false_or, List.nil_append]
      by_cases h2 : e.a = a
      · rw [if_neg (fun h => h h2), List.nil_append, ih]
        by_cases h : b = a
        · rw [if_pos h, if_pos h]
        · rw [if_neg h, if_neg h, readM, if_neg (by omega)]
      · rw [if_pos h2, List.singleton_append, readM, readM]
        by_cases h3 : e.a = b
        · rw [if_pos h3, if_pos h3, if_neg (by omega)]
        · rw [if_neg h3, if_neg h3, ih]
theorem read_filter (a : Int) : ∀ (l : List Cel) (b : Int), readM (l.filter fun c => decide (c.a ≠ a)) b = if b = a then 0 else readM l b
  | [], b => by simp [readM]
  | e :: r, b => by
    rw [List.filter_cons]
    by_cases h : e.a = a
    · simp only [h, ne_eq, not_true_eq_false, decide_false, Bool.false_eq_true, if_false]
      rw [read_filter a r b, readM]
      by_cases h2 : b = a
      · rw [if_pos h2, if_pos h2]
      · rw [if_neg h2, if_neg h2, if_neg (by omega)]
    · simp only [ne_eq, h, not_false_eq_true, decide_true, if_true, readM]
      rw [read_filter a r b]
      by_cases h3 : e.a = b
      · rw [if_pos h3, if_pos h3, if_neg (by omega)]
      · rw [if_neg h3, if_neg h3]
theorem back_read {mem : List Cel} (h : rise mem = true) (a v b : Int) : readM (backM mem a v) b = if b = a then v else readM mem b := by
  unfold backM
  by_cases hv : v = 0
  · rw [decide_eq_true hv, backL_gone, read_filter, hv]
  · rw [decide_eq_false hv]
    exact backL_read a v mem h b
theorem backL_rise (a v : Int) : ∀ (l : List Cel), rise l = true → rise (backL a v false l) = true
  | [], _ => rfl
  | e :: r, hr => by
    have hlt := rise_lt hr
    have ih := backL_rise a v r (rise_tail hr)
    rw [backL]
    by_cases h1 : a < e.a
    · rw [if_pos ⟨rfl, h1⟩, if_pos (by omega), decide_eq_true h1, Bool.false_or, backL_done a v r (fun d hd => by have := hlt d hd; omega)]
      refine rise_cons hr fun d hd => ?_
      rcases List.mem_cons.1 hd with rfl | hd
      · exact h1
      · have := hlt d hd; simp only; omega
    · rw [if_neg (fun h => h1 h.2), decide_eq_false h1, Bool.false_or, List.nil_append]
      by_cases h2 : e.a = a
      · rw [if_neg (fun h => h h2), List.nil_append]; exact ih
      · rw [if_pos h2, List.singleton_append]
        refine rise_cons ih fun d hd => ?_
        rcases backL_mem a v r false d hd with x | ⟨x, _⟩
        · rw [x]; simp only; omega
        · exact hlt d x
theorem rise_filter (p : Cel → Bool) : ∀ (l : List Cel), rise l = true → rise (l.filter p) = true
  | [], _ => rfl
  | e :: r, hr => by
    rw [List.filter_cons]
    split
    · exact rise_cons (rise_filter p r (rise_tail hr)) fun d hd => rise_lt hr d (List.mem_filter.1 hd).1
    · exact rise_filter p r (rise_tail hr)
theorem back_rise {mem : List Cel} (h : rise mem = true) (a v : Int) : rise (backM mem a v) = true := by
  unfold backM
  by_cases hv : v = 0
  · rw [decide_eq_true hv, backL_gone]
    exact rise_filter _ mem h
  · rw [decide_eq_false hv]
    exact backL_rise a v mem h
theorem back_mem {mem : List Cel} {a v : Int} {c : Cel} (h : c ∈ backM mem a v) : (c = ⟨a, v⟩ ∧ v ≠ 0) ∨ c ∈ mem := by
  unfold backM at h
  by_cases hv : v = 0
  · rw [decide_eq_true hv, backL_gone] at h
    exact .inr (List.mem_filter.1 h).1
  · rw [decide_eq_false hv] at h
    rcases backL_mem a v mem false c h with x | x
    · exact .inl ⟨x, hv⟩
    · exact .inr x.1
theorem backL_len (a v : Int) : ∀ (l : List Cel) (d : Bool), (backL a v d l).length ≤ l.length + (if d = true then 0 else 1)
  | [], d => by cases d <;> simp [backL]
  | e :: r, d => by
    have ih := backL_len a v r (d || decide (a < e.a))
    rw [backL, List.length_append, List.length_append, List.length_cons]
    have h2 : (if e.a ≠ a then [e] else ([] : List Cel)).length ≤ 1 := by split <;> simp
    cases d with
    | true => simp only [Bool.true_or, if_true, Bool.true_eq_false, false_and, if_false, List.length_nil] at ih ⊢; omega
    | false =>
      by_cases h : a < e.a
      · rw [decide_eq_true h] at ih
        simp only [Bool.or_true, if_true] at ih
        have h1 : (if false = false ∧ a < e.a then [(⟨a, v⟩ : Cel)] else []).length = 1 := by rw [if_pos ⟨rfl, h⟩]; rfl
        simp only [h, decide_true, Bool.or_true] at *
        simp only [and_self, if_true, List.length_singleton, Bool.false_eq_true, if_false] at *
        omega
      · rw [decide_eq_false h] at ih
        simp only [h, decide_false, Bool.or_false, and_false, if_false, List.length_nil, Bool.false_eq_true] at *
        omega
theorem back_len (mem : List Cel) (a v : Int) : (backM mem a v).length ≤ mem.length + 1 := by
  have := backL_len a v mem (decide (v = 0))
  unfold backM
  split at this <;> omega
theorem allC_iff : ∀ {l : List Cel}, allC l = true ↔ ∀ c ∈ l, celOk c
  | [] => by simp [allC]
  | c :: r => by
    have ih := allC_iff (l := r)
    simp only [allC, Bool.and_eq_true, decide_eq_true_eq, List.mem_cons, forall_eq_or_imp]
    rw [ih]
theorem back_ok {mem : List Cel} (h : ∀ c ∈ mem, celOk c) {a v : Int} (ha : 0 ≤ a ∧ a ≤ 999999) (hv : 0 ≤ v ∧ v ≤ 999999) : ∀ c ∈ backM mem a v, celOk c := fun c hc => by
  rcases back_mem hc with ⟨rfl, h0⟩ | x
  · unfold celOk; simp only; omega
  · exact h c x
end Go.Proofs.YtnnfkmjhaljplaaGreat
