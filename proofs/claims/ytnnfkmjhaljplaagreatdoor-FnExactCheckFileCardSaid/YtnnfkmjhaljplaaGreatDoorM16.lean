/- What the laws' walks rest upon, part 16. -/
import Derived.Test.YtnnfkmjhaljplaaGreatDoorM01
namespace Go.Proofs.YtnnfkmjhaljplaaGreatDoor
open Go.RowKit
/-- A step of a log: core and event. -/
structure Stp where
  c : Int
  e : Ev
def stps : List Stp → List Value
  | [] => []
  | s :: r => .int .i64 s.c :: .int .i64 s.e.k :: .int .i64 s.e.a :: .int .i64 s.e.v :: stps r
theorem stps_length : ∀ ss : List Stp, (stps ss).length = ss.length * 4
  | [] => rfl
  | s :: r => by simp only [stps, List.length_cons, stps_length r]; omega
theorem stps_append : ∀ (l m : List Stp), stps (l ++ m) = stps l ++ stps m
  | [], _ => rfl
  | s :: r, m => by simp only [stps, List.cons_append, stps_append r m]
theorem stps_get : ∀ (ss : List Stp) (i : Nat) (h : i < ss.length), (stps ss)[i * 4]? = some (.int .i64 ss[i].c) ∧ (stps ss)[i * 4 + 1]? = some (.int .i64 ss[i].e.k) ∧ (stps ss)[i * 4 + 2]? = some (.int .i64 ss[i].e.a) ∧ (stps ss)[i * 4 + 3]? = some (.int .i64 ss[i].e.v)
  | [], i, h => absurd h (Nat.not_lt_zero _)
  | s :: r, 0, _ => ⟨rfl, rfl, rfl, rfl⟩
  | s :: r, i + 1, h => by
    have ih := stps_get r i (by simpa using h)
    rw [show (i + 1) * 4 = i * 4 + 1 + 1 + 1 + 1 by omega]
    simp only [stps, List.getElem?_cons_succ, List.getElem_cons_succ]
    exact ih
theorem stps_one : ∀ (l : List Stp), ∀ u ∈ stps l, u.oneCell' = true
  | [], u, h => by simp [stps] at h
  | x :: r, u, h => by
    simp only [stps, List.mem_cons] at h
    rcases h with rfl | rfl | rfl | rfl | h
    · rfl
    · rfl
    · rfl
    · rfl
    · exact stps_one r u h
/-- The slice address A leads to the steps ss, in a block below B. -/
def RdP (w : World) (B : Nat) (A : Option Addr) (ss : List Stp) : Prop := RdV w B A (stps ss)
section
variable {w w' : World} {B B' : Nat} {A : Option Addr} {ss : List Stp}
theorem RdP.nil_ : RdP w B A [] := RdV.nil_
theorem RdP.keep (h : RdP w B A ss) (hk : ∀ p : Addr, p.block < B → w'.cell? p = w.cell? p) : RdP w' B A ss := RdV.keep h hk
theorem RdP.more (h : RdP w B A ss) (hB : B ≤ B') : RdP w B' A ss := RdV.more h hB
theorem RdP.below (h : RdP w B A ss) (hb : Below B w w') : RdP w' B A ss := RdV.below h hb
theorem RdP.drew (h : RdP w B A ss) : RdP w.drew B A ss := h
theorem RdP.drewN (h : RdP w B A ss) (n : Nat) : RdP (w.drewN n) B A ss := h
theorem RdP.alloc (h : RdP w B A ss) (hB : B ≤ w.heap.size) (o : Obj) : RdP (w.alloc o) B A ss := RdV.alloc h hB o
theorem RdP.lt (h : RdP w B A ss) : RdP w w.heap.size A ss := RdV.lt h
theorem RdP.of_own {base : Nat} {e : TypeId} {n c : Nat} (h : w.ownsRow base e 4 (.slice A n c) n (stps ss)) : RdP w w.heap.size A ss := RdV.of_own h
theorem RdP.get (h : RdP w B A ss) {i : Nat} (hi : i < ss.length) : ∃ b off, A = some ⟨b, off, none⟩ ∧ b < B ∧ w.cell? ⟨b, off + i * 4, none⟩ = some (.int .i64 ss[i].c) ∧ w.cell? ⟨b, off + i * 4 + 1, none⟩ = some (.int .i64 ss[i].e.k) ∧ w.cell? ⟨b, off + i * 4 + 2, none⟩ = some (.int .i64 ss[i].e.a) ∧ w.cell? ⟨b, off + i * 4 + 3, none⟩ = some (.int .i64 ss[i].e.v) := by
  have hl := stps_length ss
  obtain ⟨b, off, e, hb, hc⟩ := h (by omega)
  obtain ⟨g0, g1, g2, g3⟩ := stps_get ss i hi
  have k0 := hc (i * 4) (by omega)
  have k1 := hc (i * 4 + 1) (by omega)
  have k2 := hc (i * 4 + 2) (by omega)
  have k3 := hc (i * 4 + 3) (by omega)
  rw [List.getElem?_eq_getElem (by omega)] at g0 g1 g2 g3
  rw [Option.some.inj g0] at k0
  rw [Option.some.inj g1] at k1
  rw [Option.some.inj g2] at k2
  rw [Option.some.inj g3] at k3
  exact ⟨b, off, e, hb, k0, by rw [Nat.add_assoc]; exact k1, by rw [Nat.add_assoc]; exact k2, by rw [Nat.add_assoc]; exact k3⟩
theorem RdP.grown {g : Nat} (h : RdP w g A ss) (hg : w.grownBy w' (some g)) : RdP w' g A ss := RdV.grown h hg
end
/-- How many steps core j has. -/
def cntL : List Stp → Int → Nat
  | [], _ => 0
  | s :: r, j => (if s.c = j then 1 else 0) + cntL r j
theorem cntL_append : ∀ (l m : List Stp) (j : Int), cntL (l ++ m) j = cntL l j + cntL m j
  | [], m, j => by simp [cntL]
  | s :: r, m, j => by simp only [List.cons_append, cntL, cntL_append r m j]; omega
theorem cntL_le : ∀ (l : List Stp) (j : Int), cntL l j ≤ l.length
  | [], j => Nat.le_refl _
  | s :: r, j => by have := cntL_le r j; simp only [cntL, List.length_cons]; split <;> omega
/-- The fault of the steps one by one. -/
def logG (n : Int) : List Stp → Int
  | [] => 0
  | s :: r => if 0 ≤ s.c ∧ s.c ≤ n - 1 then (if evF s.e = 0 then logG n r else evF s.e) else 3
def fewL (ss : List Stp) : Prop := cntL ss 0 ≤ 8 ∧ cntL ss 1 ≤ 8 ∧ cntL ss 2 ≤ 8 ∧ cntL ss 3 ≤ 8
instance (ss : List Stp) : Decidable (fewL ss) := by unfold fewL; infer_instance
def logF (ss : List Stp) (n : Int) : Int :=
  if 1 ≤ n ∧ n ≤ 4 then (if ss.length ≤ 32 then (if logG n ss = 0 then (if fewL ss then 0 else 2) else logG n ss) else 2) else 3
theorem logF_cores {ss : List Stp} {n : Int} (h : ¬ (1 ≤ n ∧ n ≤ 4)) : logF ss n = 3 := if_neg h
theorem logF_long {ss : List Stp} {n : Int} (h : 1 ≤ n ∧ n ≤ 4) (h2 : ¬ ss.length ≤ 32) : logF ss n = 2 := by unfold logF; rw [if_pos h, if_neg h2]
theorem logF_bad {ss : List Stp} {n : Int} (h : 1 ≤ n ∧ n ≤ 4) (h2 : ss.length ≤ 32) (h3 : ¬ logG n ss = 0) : logF ss n = logG n ss := by unfold logF; rw [if_pos h, if_pos h2, if_neg h3]
theorem logF_few {ss : List Stp} {n : Int} (h : 1 ≤ n ∧ n ≤ 4) (h2 : ss.length ≤ 32) (h3 : logG n ss = 0) (h4 : fewL ss) : logF ss n = 0 := by unfold logF; rw [if_pos h, if_pos h2, if_pos h3, if_pos h4]
theorem logF_many {ss : List Stp} {n : Int} (h : 1 ≤ n ∧ n ≤ 4) (h2 : ss.length ≤ 32) (h3 : logG n ss = 0) (h4 : ¬ fewL ss) : logF ss n = 2 := by unfold logF; rw [if_pos h, if_pos h2, if_pos h3, if_neg h4]
theorem logF_zero {ss : List Stp} {n : Int} (h : logF ss n = 0) : (1 ≤ n ∧ n ≤ 4) ∧ ss.length ≤ 32 ∧ logG n ss = 0 ∧ fewL ss := by
  by_cases h1 : 1 ≤ n ∧ n ≤ 4
  · by_cases h2 : ss.length ≤ 32
    · by_cases h3 : logG n ss = 0
      · by_cases h4 : fewL ss
        · exact ⟨h1, h2, h3, h4⟩
        · rw [logF_many h1 h2 h3 h4] at h; omega
      · rw [logF_bad h1 h2 h3] at h; exact absurd h h3
    · rw [logF_long h1 h2] at h; omega
  · rw [logF_cores h1] at h; omega
theorem logG_all {n : Int} : ∀ {ss : List Stp}, logG n ss = 0 → ∀ s ∈ ss, (0 ≤ s.c ∧ s.c ≤ n - 1) ∧ evF s.e = 0
  | [], _, s, hs => by simp at hs
  | x :: r, h, s, hs => by
    rw [logG] at h
    by_cases h1 : 0 ≤ x.c ∧ x.c ≤ n - 1
    · rw [if_pos h1] at h
      by_cases h2 : evF x.e = 0
      · rw [if_pos h2] at h
        rcases List.mem_cons.1 hs with rfl | hs
        · exact ⟨h1, h2⟩
        · exact logG_all h s hs
      · rw [if_neg h2] at h; exact absurd h h2
    · rw [if_neg h1] at h; omega
theorem logG_of {n : Int} : ∀ {ss : List Stp}, (∀ s ∈ ss, (0 ≤ s.c ∧ s.c ≤ n - 1) ∧ evF s.e = 0) → logG n ss = 0
  | [], _ => rfl
  | x :: r, h => by
    obtain ⟨h1, h2⟩ := h x (by simp)
    rw [logG, if_pos h1, if_pos h2]
    exact logG_of fun s hs => h s (by simp [hs])
/-- The events of core j. -/
def colE (j : Int) : List Stp → List Ev
  | [] => []
  | s :: r => if s.c = j then s.e :: colE j r else colE j r
theorem colE_append (j : Int) : ∀ (l m : List Stp), colE j (l ++ m) = colE j l ++ colE j m
  | [], m => rfl
  | s :: r, m => by
    simp only [List.cons_append, colE]
    split
    · rw [colE_append j r m, List.cons_append]
    · rw [colE_append j r m]
theorem colE_length (j : Int) : ∀ l : List Stp, (colE j l).length = cntL l j
  | [] => rfl
  | s :: r => by
    simp only [colE, cntL]
    split
    · rw [List.length_cons, colE_length j r]; omega
    · rw [colE_length j r]; omega
/-- A log split by cores. -/
def spT (n : Nat) (ss : List Stp) : List (List Ev) := (List.range n).map fun j : Nat => colE (j : Int) ss
theorem spT_length (n : Nat) (ss : List Stp) : (spT n ss).length = n := by simp [spT]
theorem spT_get (n : Nat) (ss : List Stp) (i : Nat) (h : i < (spT n ss).length) : (spT n ss)[i] = colE (i : Int) ss := by simp [spT]
theorem spT_nil (n : Nat) : spT n [] = List.replicate n [] := by
  apply List.ext_getElem
  · simp [spT]
  · intro i h1 h2
    simp [spT, colE]
theorem spT_snoc (n : Nat) (ss : List Stp) (s : Stp) (i : Nat) (hi : s.c = (i : Int)) : spT n (ss ++ [s]) = (spT n ss).set i (colE (i : Int) ss ++ [s.e]) := by
  apply List.ext_getElem
  · simp [spT]
  · intro j h1 h2
    rw [spT_get]
    by_cases hij : i = j
    · subst hij
      rw [List.getElem_set_self, colE_append]
      simp [colE, hi]
    · rw [List.getElem_set_ne hij, spT_get, colE_append]
      have : ¬ s.c = (j : Int) := by omega
      simp [colE, this]
end Go.Proofs.YtnnfkmjhaljplaaGreatDoor
namespace Go.Proofs.YtnnfkmjhaljplaaGreatDoor
open Go.RowKit
/-- How often core j stands in an order. -/
def cntO : List Int → Int → Nat
  | [], _ => 0
  | x :: r, j => (if x = j then 1 else 0) + cntO r j
theorem cntO_append : ∀ (l m : List Int) (j : Int), cntO (l ++ m) j = cntO l j + cntO m j
  | [], m, j => by simp [cntO]
  | x :: r, m, j => by simp only [List.cons_append, cntO, cntO_append r m j]; omega
theorem cntO_rep (n : Nat) (p j : Int) : cntO (List.replicate n p) j = if p = j then n else 0 := by
  induction n with
  | zero => simp [cntO]
  | succ n ih => rw [List.replicate_succ, cntO, ih]; split <;> omega
theorem cntO_snoc (l : List Int) (p j : Int) : cntO (l ++ [p]) j = cntO l j + if p = j then 1 else 0 := by rw [cntO_append]; simp [cntO]
/-- How many events core p has. -/
def lenT (t : List (List Ev)) (p : Int) : Nat := if 0 ≤ p then (t.getD p.toNat []).length else 0
theorem lenT_at (t : List (List Ev)) (k : Nat) (h : k < t.length) : lenT t (k : Int) = t[k].length := by
  unfold lenT
  rw [if_pos (by omega), Int.toNat_natCast]
  simp [h]
theorem lenT_out (t : List (List Ev)) (p : Int) (h : p < 0 ∨ (t.length : Int) ≤ p) : lenT t p = 0 := by
  unfold lenT
  by_cases h0 : 0 ≤ p
  · rw [if_pos h0, List.getD_eq_getElem?_getD, List.getElem?_eq_none (by omega)]; rfl
  · rw [if_neg h0]
theorem lenT_in {t : List (List Ev)} {p : Int} (h : 0 < lenT t p) : 0 ≤ p ∧ p < (t.length : Int) := by
  by_cases h0 : 0 ≤ p ∧ p < (t.length : Int)
  · exact h0
  · rw [lenT_out t p (by omega)] at h; omega
/-- A turn of core p; turns one behind the other. -/
def ordS (t : List (List Ev)) (O : List Int) (p : Int) : List Int := if cntO O p < lenT t p then O ++ [p] else O
theorem ordS_yes {t : List (List Ev)} {O : List Int} {p : Int} (h : cntO O p < lenT t p) : ordS t O p = O ++ [p] := if_pos h
theorem ordS_no {t : List (List Ev)} {O : List Int} {p : Int} (h : ¬ cntO O p < lenT t p) : ordS t O p = O := if_neg h
def ordL (t : List (List Ev)) (O : List Int) : List Int → List Int
  | [] => O
  | p :: r => ordL t (ordS t O p) r
theorem ordL_append (t : List (List Ev)) : ∀ (l m : List Int) (O : List Int), ordL t O (l ++ m) = ordL t (ordL t O l) m
  | [], m, O => rfl
  | x :: r, m, O => by simp only [List.cons_append, ordL, ordL_append t r m]
theorem ordL_snoc (t : List (List Ev)) (l : List Int) (p : Int) (O : List Int) : ordL t O (l ++ [p]) = ordS t (ordL t O l) p := by rw [ordL_append]; rfl
theorem ordS_len (t : List (List Ev)) (O : List Int) (p : Int) : (ordS t O p).length ≤ O.length + 1 := by
  unfold ordS
  split
  · simp
  · omega
theorem ordL_len (t : List (List Ev)) : ∀ (l O : List Int), (ordL t O l).length ≤ O.length + l.length
  | [], O => by simp [ordL]
  | p :: r, O => by
    have := ordL_len t r (ordS t O p)
    have := ordS_len t O p
    simp only [ordL, List.length_cons]
    omega
/-- What may stand in an order of t. -/
def okO (t : List (List Ev)) (O : List Int) : Prop := ∀ p, cntO O p ≤ lenT t p
theorem okO_nil (t : List (List Ev)) : okO t [] := fun _ => Nat.zero_le _
theorem okO_S {t : List (List Ev)} {O : List Int} (h : okO t O) (p : Int) : okO t (ordS t O p) := fun j => by
  by_cases hp : cntO O p < lenT t p
  · rw [ordS_yes hp, cntO_snoc]
    by_cases hj : p = j
    · subst hj; rw [if_pos rfl]; omega
    · rw [if_neg hj]; have := h j; omega
  · rw [ordS_no hp]; exact h j
theorem okO_L {t : List (List Ev)} : ∀ (l : List Int) {O : List Int}, okO t O → okO t (ordL t O l)
  | [], _, h => h
  | p :: r, _, h => okO_L r (okO_S h p)
/-- What is left comes core by core. -/
def fillO (t : List (List Ev)) (O : List Int) : Nat → List Int
  | 0 => O
  | k + 1 => fillO t O k ++ List.replicate (lenT t (k : Int) - cntO (fillO t O k) (k : Int)) (k : Int)
theorem ordL_rep (t : List (List Ev)) (p : Int) (O : List Int) (h : cntO O p ≤ lenT t p) : ∀ n : Nat, ordL t O (List.replicate n p) = O ++ List.replicate (min n (lenT t p - cntO O p)) p
  | 0 => by simp [ordL]
  | n + 1 => by
    rw [List.replicate_succ', ordL_snoc, ordL_rep t p O h n]
    by_cases hn : n < lenT t p - cntO O p
    · rw [ordS_yes (by rw [cntO_append, cntO_rep, if_pos rfl]; omega), Nat.min_eq_left (by omega), Nat.min_eq_left (by omega), List.append_assoc, ← List.replicate_succ']
    · rw [ordS_no (by rw [cntO_append, cntO_rep, if_pos rfl]; omega), Nat.min_eq_right (by omega), Nat.min_eq_right (by omega)]
/-- The turns behind the picks. -/
def repsT (t : List (List Ev)) : Nat → List Int
  | 0 => []
  | k + 1 => repsT t k ++ List.replicate (lenT t (k : Int)) (k : Int)
theorem ordL_reps {t : List (List Ev)} {O : List Int} (h : okO t O) : ∀ k, ordL t O (repsT t k) = fillO t O k ∧ okO t (fillO t O k)
  | 0 => ⟨rfl, h⟩
  | k + 1 => by
    obtain ⟨h1, h2⟩ := ordL_reps h k
    have e : ordL t O (repsT t (k + 1)) = fillO t O (k + 1) := by
      rw [repsT, ordL_append, h1, ordL_rep t k _ (h2 k), fillO, Nat.min_eq_right (by omega)]
    exact ⟨e, by rw [← e]; exact okO_L _ h⟩
def turnsT (t : List (List Ev)) (picks : List Int) : List Int := picks ++ repsT t t.length
def ordF (t : List (List Ev)) (picks : List Int) : List Int := fillO t (ordL t [] picks) t.length
theorem ordF_eq (t : List (List Ev)) (picks : List Int) : ordL t [] (turnsT t picks) = ordF t picks := by
  unfold turnsT ordF
  rw [ordL_append, (ordL_reps (okO_L picks (okO_nil t)) t.length).1]
theorem ordF_ok (t : List (List Ev)) (picks : List Int) : okO t (ordF t picks) := by rw [← ordF_eq]; exact okO_L _ (okO_nil t)
theorem fillO_full {t : List (List Ev)} {O : List Int} (h : okO t O) : ∀ (k j : Nat), j < k → cntO (fillO t O k) (j : Int) = lenT t (j : Int)
  | 0, j, hj => absurd hj (Nat.not_lt_zero _)
  | k + 1, j, hj => by
    have h2 := (ordL_reps h k).2 (k : Int)
    rw [fillO, cntO_append, cntO_rep]
    by_cases hjk : k = j
    · subst hjk; rw [if_pos rfl]; omega
    · rw [if_neg (by omega), fillO_full h k j (by omega)]; omega
theorem ordF_full (t : List (List Ev)) (picks : List Int) (p : Int) : cntO (ordF t picks) p = lenT t p := by
  by_cases hp : 0 ≤ p ∧ p < (t.length : Int)
  · obtain ⟨j, rfl⟩ := Int.eq_ofNat_of_zero_le hp.1
    exact fillO_full (okO_L picks (okO_nil t)) t.length j (by omega)
  · have h := ordF_ok t picks p
    rw [lenT_out t p (by omega)] at h ⊢
    omega
theorem repsT_len {t : List (List Ev)} (h8 : ∀ l ∈ t, l.length ≤ 8) : ∀ k, (repsT t k).length ≤ 8 * k
  | 0 => by simp [repsT]
  | k + 1 => by
    have := repsT_len h8 k
    rw [repsT, List.length_append, List.length_replicate]
    have h1 : lenT t (k : Int) ≤ 8 := by
      by_cases hk : k < t.length
      · rw [lenT_at t k hk]; exact h8 _ (List.getElem_mem hk)
      · rw [lenT_out t k (by omega)]; omega
    omega
theorem turnsT_len {t : List (List Ev)} {picks : List Int} (h8 : ∀ l ∈ t, l.length ≤ 8) : (turnsT t picks).length ≤ picks.length + 8 * t.length := by
  have := repsT_len h8 t.length
  unfold turnsT
  rw [List.length_append]
  omega
/-- The event of core p at place i. -/
def evAtO (t : List (List Ev)) (p : Int) (i : Nat) : Ev := (t.getD p.toNat []).getD i ⟨0, 0, 0⟩
theorem evAtO_get (t : List (List Ev)) (k i : Nat) (hk : k < t.length) (hi : i < t[k].length) : evAtO t (k : Int) i = t[k][i] := by
  unfold evAtO
  rw [Int.toNat_natCast]
  simp [hk, hi]
/-- The log of an order. -/
def logO (t : List (List Ev)) (O : List Int) : List Stp := (List.range O.length).map fun k : Nat => ⟨O.getD k 0, evAtO t (O.getD k 0) (cntO (O.take k) (O.getD k 0))⟩
theorem logO_length (t : List (List Ev)) (O : List Int) : (logO t O).length = O.length := by simp [logO]
theorem logO_snoc (t : List (List Ev)) (O : List Int) (p : Int) : logO t (O ++ [p]) = logO t O ++ [⟨p, evAtO t p (cntO O p)⟩] := by
  unfold logO
  rw [List.length_append, List.length_singleton, List.range_succ, List.map_append, List.map_cons, List.map_nil]
  congr 1
  · apply List.map_congr_left
    intro k hk
    have hk' : k < O.length := by simpa using hk
    have e1 : (O ++ [p]).getD k 0 = O.getD k 0 := by rw [List.getD_eq_getElem?_getD, List.getD_eq_getElem?_getD, List.getElem?_append_left hk']
    rw [e1, List.take_append_of_le_length (by omega)]
  · have e1 : (O ++ [p]).getD O.length 0 = p := by simp
    rw [e1, List.take_left]
theorem logO_map (t : List (List Ev)) (O : List Int) : (logO t O).map (·.c) = O := by
  apply List.ext_getElem
  · rw [List.length_map, logO_length]
  · intro k h1 h2
    simp [logO, h2]
theorem cntL_logO (t : List (List Ev)) (O : List Int) (j : Int) : cntL (logO t O) j = cntO O j := by
  have key : ∀ l : List Stp, cntL l j = cntO (l.map (·.c)) j := by
    intro l
    induction l with
    | nil => rfl
    | cons x r ih => simp only [cntL, List.map_cons, cntO, ih]
  rw [key, logO_map]
def mgC (t : List (List Ev)) (picks : List Int) : Int := if trF t = 0 then (if picks.length ≤ 100 then 0 else 2) else trF t
def mgL (t : List (List Ev)) (picks : List Int) : List Stp := if mgC t picks = 0 then logO t (ordF t picks) else []
theorem mgC_bad {t : List (List Ev)} {picks : List Int} (h : ¬ trF t = 0) : mgC t picks = trF t := if_neg h
theorem mgC_many {t : List (List Ev)} {picks : List Int} (h : trF t = 0) (h2 : ¬ picks.length ≤ 100) : mgC t picks = 2 := by unfold mgC; rw [if_pos h, if_neg h2]
theorem mgC_ok {t : List (List Ev)} {picks : List Int} (h : trF t = 0) (h2 : picks.length ≤ 100) : mgC t picks = 0 := by unfold mgC; rw [if_pos h, if_pos h2]
theorem mgL_ok {t : List (List Ev)} {picks : List Int} (h : mgC t picks = 0) : mgL t picks = logO t (ordF t picks) := if_pos h
theorem mgL_bad {t : List (List Ev)} {picks : List Int} (h : ¬ mgC t picks = 0) : mgL t picks = [] := if_neg h
/-- What is merged is split again into what it was. -/
theorem colE_logO (t : List (List Ev)) (p : Int) : ∀ (n : Nat) (O : List Int), O.length = n → okO t O → colE p (logO t O) = (t.getD p.toNat []).take (cntO O p)
  | 0, O, h, _ => by
    have : O = [] := List.eq_nil_of_length_eq_zero h
    subst this
    simp [logO, colE, cntO]
  | n + 1, O, h, hok => by
    obtain ⟨O', q, rfl⟩ : ∃ O' q, O = O' ++ [q] := ⟨O.dropLast, O.getLast (by intro e; rw [e] at h; simp at h), (List.dropLast_concat_getLast _).symm⟩
    have hl : O'.length = n := by simpa using h
    have hok' : okO t O' := fun j => by have := hok j; rw [cntO_snoc] at this; omega
    rw [logO_snoc, colE_append, colE_logO t p n O' hl hok', cntO_snoc]
    by_cases hq : q = p
    · subst hq
      have h1 := hok q
      rw [cntO_snoc, if_pos rfl] at h1
      have h2 := lenT_in (t := t) (p := q) (by omega)
      unfold lenT at h1
      rw [if_pos h2.1] at h1
      rw [if_pos rfl]
      simp only [colE, if_pos]
      rw [List.take_succ_eq_append_getElem (by omega)]
      congr 1
      simp only [List.cons.injEq, and_true]
      unfold evAtO
      rw [List.getD_eq_getElem?_getD (l := t.getD q.toNat []), List.getElem?_eq_getElem (by omega)]
      rfl
    · rw [if_neg hq, Nat.add_zero]
      simp [colE, hq]
theorem spT_logO (t : List (List Ev)) (picks : List Int) : spT t.length (logO t (ordF t picks)) = t := by
  apply List.ext_getElem
  · rw [spT_length]
  · intro i h1 h2
    rw [spT_get, colE_logO t (i : Int) _ _ rfl (ordF_ok t picks), ordF_full, lenT_at t i h2, Int.toNat_natCast]
    have e : t.getD i [] = t[i] := by simp [h2]
    rw [e, List.take_length]
theorem all_in {O : List Int} (h : ∀ p ∈ O, 0 ≤ p ∧ p < 4) : O.length = cntO O 0 + cntO O 1 + cntO O 2 + cntO O 3 := by
  induction O with
  | nil => rfl
  | cons x r ih =>
    have h1 := ih fun p hp => h p (by simp [hp])
    have h2 := h x (by simp)
    simp only [List.length_cons, cntO, h1]
    rcases (show x = 0 ∨ x = 1 ∨ x = 2 ∨ x = 3 by omega) with rfl | rfl | rfl | rfl <;> simp <;> omega
theorem cntO_mem {O : List Int} {p : Int} (h : p ∈ O) : 0 < cntO O p := by
  induction O with
  | nil => simp at h
  | cons x r ih =>
    rw [cntO]
    rcases List.mem_cons.1 h with rfl | h
    · rw [if_pos rfl]; omega
    · have := ih h; omega
theorem logO_mem {t : List (List Ev)} {O : List Int} (hok : okO t O) {s : Stp} (hs : s ∈ logO t O) : (0 ≤ s.c ∧ s.c < (t.length : Int)) ∧ ∃ l ∈ t, s.e ∈ l := by
  unfold logO at hs
  obtain ⟨k, hk, rfl⟩ := List.mem_map.1 hs
  have hk' : k < O.length := by simpa using hk
  have e : O.getD k 0 = O[k] := by simp [hk']
  rw [e]
  have h1 := hok O[k]
  have h2 := cntO_mem (List.getElem_mem hk')
  have h3 := lenT_in (t := t) (p := O[k]) (by omega)
  refine ⟨h3, ?_⟩
  obtain ⟨j, hj⟩ := Int.eq_ofNat_of_zero_le h3.1
  simp only
  rw [hj] at h1 h2 h3 ⊢
  have hjt : j < t.length := by omega
  have hlt : cntO (O.take k) (j : Int) < t[j].length := by
    rw [lenT_at t j hjt] at h1
    have e2 : cntO O (j : Int) = cntO (O.take k) (j : Int) + cntO (O.drop k) (j : Int) := by rw [← cntO_append, List.take_append_drop]
    have e3 : 0 < cntO (O.drop k) (j : Int) := by
      rw [List.drop_eq_getElem_cons hk', cntO, if_pos hj]
      omega
    omega
  rw [evAtO_get t j _ hjt hlt]
  exact ⟨t[j], List.getElem_mem hjt, List.getElem_mem hlt⟩
theorem logF_logO {t : List (List Ev)} {picks : List Int} (h0 : trF t = 0) : logF (logO t (ordF t picks)) (t.length : Int) = 0 := by
  have htr : 1 ≤ t.length ∧ t.length ≤ 4 := by
    by_cases h : 1 ≤ t.length ∧ t.length ≤ 4
    · exact h
    · unfold trF at h0; rw [if_neg h] at h0; omega
  have hall : ∀ l ∈ t, stF l = 0 := by
    have key : ∀ u : List (List Ev), stsF u = 0 → ∀ l ∈ u, stF l = 0 := by
      intro u
      induction u with
      | nil => intro _ l hl; simp at hl
      | cons x r ih =>
        intro h l hl
        rw [stsF] at h
        by_cases hx : stF x = 0
        · rw [if_pos hx] at h
          rcases List.mem_cons.1 hl with rfl | hl
          · exact hx
          · exact ih h l hl
        · rw [if_neg hx] at h; exact absurd h hx
    unfold trF at h0
    rw [if_pos htr] at h0
    exact key t h0
  have hok := ordF_ok t picks
  have hmem : ∀ s ∈ logO t (ordF t picks), (0 ≤ s.c ∧ s.c ≤ (t.length : Int) - 1) ∧ evF s.e = 0 := fun s hs => by
    obtain ⟨h1, l, hl, he⟩ := logO_mem hok hs
    exact ⟨by omega, evsF_all (stF_zero (hall l hl)).2 _ he⟩
  have hc8 : ∀ p, cntO (ordF t picks) p ≤ 8 := fun p => by
    have := hok p
    by_cases hp : 0 ≤ p ∧ p < (t.length : Int)
    · obtain ⟨j, rfl⟩ := Int.eq_ofNat_of_zero_le hp.1
      rw [lenT_at t j (by omega)] at this
      have := (stF_zero (hall _ (List.getElem_mem (show j < t.length by omega)))).1
      omega
    · rw [lenT_out t p (by omega)] at this; omega
  have hlen : (logO t (ordF t picks)).length ≤ 32 := by
    rw [logO_length, all_in (fun p hp => by
      have h1 := hok p
      have h2 := cntO_mem hp
      have := lenT_in (t := t) (p := p) (by omega)
      omega)]
    have a := hc8 0; have b := hc8 1; have c := hc8 2; have d := hc8 3
    omega
  refine logF_few (by omega) hlen (logG_of hmem) ?_
  unfold fewL
  simp only [cntL_logO]
  exact ⟨hc8 0, hc8 1, hc8 2, hc8 3⟩
end Go.Proofs.YtnnfkmjhaljplaaGreatDoor
namespace Go.Proofs.YtnnfkmjhaljplaaGreatDoor
/-- A cell of the memory. -/
structure Cel where
  a : Int
  v : Int
/-- A machine: its lines (state, address, value) core by core, and its memory. -/
structure Mac where
  cs : List (List Ev)
  mem : List Cel
def lnZ : Ev := ⟨0, 0, 0⟩
def ln (cs : List (List Ev)) (i k : Nat) : Ev := (cs.getD i []).getD k lnZ
def setL (cs : List (List Ev)) (i k : Nat) (x : Ev) : List (List Ev) := cs.set i ((cs.getD i []).set k x)
def celOk (c : Cel) : Prop := 0 ≤ c.a ∧ c.a ≤ 999999 ∧ 1 ≤ c.v ∧ c.v ≤ 999999
instance (c : Cel) : Decidable (celOk c) := by unfold celOk; infer_instance
/-- Rising. -/
def rise : List Cel → Bool
  | [] => true
  | c :: r => (match r with | [] => true | d :: _ => decide (c.a < d.a)) && rise r
/-- A value written back into the memory. -/
def backL (a v : Int) : Bool → List Cel → List Cel
  | d, [] => if d = true then [] else [⟨a, v⟩]
  | d, c :: r => (if d = false ∧ a < c.a then [⟨a, v⟩] else []) ++ ((if c.a ≠ a then [c] else []) ++ backL a v (d || decide (a < c.a)) r)
def backM (mem : List Cel) (a v : Int) : List Cel := backL a v (decide (v = 0)) mem
/-- Core i's line at place k, of this address, given up to core c. -/
def giveL (c k : Nat) (a : Int) (store : Bool) (m : Mac) (i : Nat) : Mac :=
  let x := ln m.cs i k
  if i = c ∨ x.k = 0 ∨ x.a ≠ a then m
  else ⟨setL m.cs i k (if store = true then lnZ else ⟨1, x.a, x.v⟩), if x.k = 2 then backM m.mem x.a x.v else m.mem⟩
def others (c k : Nat) (a : Int) (store : Bool) (m : Mac) : Mac := (List.range m.cs.length).foldl (giveL c k a store) m
end Go.Proofs.YtnnfkmjhaljplaaGreatDoor
