/- Plain mathematics of chapter 6: logs, their faults, split by cores. No program is named here. -/
import Derived.Test.YtldepledinolmaaDoorGBase
namespace Go.Proofs.YtldepledinolmaaDoor
open Go.RowKit

/-- A step of a log: core and event. -/
structure Stp where
  c : Int
  e : Ev
def stps : List Stp → List Value
  | [] => []
  | s :: r => .int .i64 s.c :: .int .i64 s.e.k :: .int .i64 s.e.a :: .int .i64 s.e.v :: stps r
theorem stps_length : ∀ ss : List Stp, (stps ss).length = ss.length * 4
  | [] => rfl
  | s :: r => by simp only [stps, List.length_cons, stps_length r]; omega
theorem stps_append : ∀ (l m : List Stp), stps (l ++ m) = stps l ++ stps m
  | [], _ => rfl
  | s :: r, m => by simp only [stps, List.cons_append, stps_append r m]
theorem stps_get : ∀ (ss : List Stp) (i : Nat) (h : i < ss.length), (stps ss)[i * 4]? = some (.int .i64 ss[i].c) ∧ (stps ss)[i * 4 + 1]? = some (.int .i64 ss[i].e.k) ∧ (stps ss)[i * 4 + 2]? = some (.int .i64 ss[i].e.a) ∧ (stps ss)[i * 4 + 3]? = some (.int .i64 ss[i].e.v)
  | [], i, h => absurd h (Nat.not_lt_zero _)
  | s :: r, 0, _ => ⟨rfl, rfl, rfl, rfl⟩
  | s :: r, i + 1, h => by
    have ih := stps_get r i (by simpa using h)
    rw [show (i + 1) * 4 = i * 4 + 1 + 1 + 1 + 1 by omega]
    simp only [stps, List.getElem?_cons_succ, List.getElem_cons_succ]
    exact ih
theorem stps_one : ∀ (l : List Stp), ∀ u ∈ stps l, u.oneCell' = true
  | [], u, h => by simp [stps] at h
  | x :: r, u, h => by
    simp only [stps, List.mem_cons] at h
    rcases h with rfl | rfl | rfl | rfl | h
    · rfl
    · rfl
    · rfl
    · rfl
    · exact stps_one r u h

/-- The slice address A leads to the steps ss, in a block below B. -/
def RdP (w : World) (B : Nat) (A : Option Addr) (ss : List Stp) : Prop := RdV w B A (stps ss)
section
variable {w w' : World} {B B' : Nat} {A : Option Addr} {ss : List Stp}
theorem RdP.nil_ : RdP w B A [] := RdV.nil_
theorem RdP.keep (h : RdP w B A ss) (hk : ∀ p : Addr, p.block < B → w'.cell? p = w.cell? p) : RdP w' B A ss := RdV.keep h hk
theorem RdP.more (h : RdP w B A ss) (hB : B ≤ B') : RdP w B' A ss := RdV.more h hB
theorem RdP.below (h : RdP w B A ss) (hb : Below B w w') : RdP w' B A ss := RdV.below h hb
theorem RdP.drew (h : RdP w B A ss) : RdP w.drew B A ss := h
theorem RdP.drewN (h : RdP w B A ss) (n : Nat) : RdP (w.drewN n) B A ss := h
theorem RdP.alloc (h : RdP w B A ss) (hB : B ≤ w.heap.size) (o : Obj) : RdP (w.alloc o) B A ss := RdV.alloc h hB o
theorem RdP.lt (h : RdP w B A ss) : RdP w w.heap.size A ss := RdV.lt h
theorem RdP.of_own {base : Nat} {e : TypeId} {n c : Nat} (h : w.ownsRow base e 4 (.slice A n c) n (stps ss)) : RdP w w.heap.size A ss := RdV.of_own h
theorem RdP.get (h : RdP w B A ss) {i : Nat} (hi : i < ss.length) : ∃ b off, A = some ⟨b, off, none⟩ ∧ b < B ∧ w.cell? ⟨b, off + i * 4, none⟩ = some (.int .i64 ss[i].c) ∧ w.cell? ⟨b, off + i * 4 + 1, none⟩ = some (.int .i64 ss[i].e.k) ∧ w.cell? ⟨b, off + i * 4 + 2, none⟩ = some (.int .i64 ss[i].e.a) ∧ w.cell? ⟨b, off + i * 4 + 3, none⟩ = some (.int .i64 ss[i].e.v) := by
  have hl := stps_length ss
  obtain ⟨b, off, e, hb, hc⟩ := h (by omega)
  obtain ⟨g0, g1, g2, g3⟩ := stps_get ss i hi
  have k0 := hc (i * 4) (by omega)
  have k1 := hc (i * 4 + 1) (by omega)
  have k2 := hc (i * 4 + 2) (by omega)
  have k3 := hc (i * 4 + 3) (by omega)
  rw [List.getElem?_eq_getElem (by omega)] at g0 g1 g2 g3
  rw [Option.some.inj g0] at k0
  rw [Option.some.inj g1] at k1
  rw [Option.some.inj g2] at k2
  rw [Option.some.inj g3] at k3
  exact ⟨b, off, e, hb, k0, by rw [Nat.add_assoc]; exact k1, by rw [Nat.add_assoc]; exact k2, by rw [Nat.add_assoc]; exact k3⟩
theorem RdP.grown {g : Nat} (h : RdP w g A ss) (hg : w.grownBy w' (some g)) : RdP w' g A ss := RdV.grown h hg
end

def stpOk (s : Stp) : Prop := I64 s.c ∧ s.e.ok
def OkP (ss : List Stp) : Prop := ∀ s ∈ ss, stpOk s

/-- How many steps core j has. -/
def cntL : List Stp → Int → Nat
  | [], _ => 0
  | s :: r, j => (if s.c = j then 1 else 0) + cntL r j
theorem cntL_append : ∀ (l m : List Stp) (j : Int), cntL (l ++ m) j = cntL l j + cntL m j
  | [], m, j => by simp [cntL]
  | s :: r, m, j => by simp only [List.cons_append, cntL, cntL_append r m j]; omega
theorem cntL_le : ∀ (l : List Stp) (j : Int), cntL l j ≤ l.length
  | [], j => Nat.le_refl _
  | s :: r, j => by have := cntL_le r j; simp only [cntL, List.length_cons]; split <;> omega
theorem cntL_hit (l : List Stp) (s : Stp) (j : Int) (h : s.c = j) : cntL (l ++ [s]) j = cntL l j + 1 := by rw [cntL_append]; simp [cntL, h]
theorem cntL_miss (l : List Stp) (s : Stp) (j : Int) (h : s.c ≠ j) : cntL (l ++ [s]) j = cntL l j := by rw [cntL_append]; simp [cntL, h]
/-- The fault of the steps one by one. -/
def logG (n : Int) : List Stp → Int
  | [] => 0
  | s :: r => if 0 ≤ s.c ∧ s.c ≤ n - 1 then (if evF s.e = 0 then logG n r else evF s.e) else 3
def fewL (ss : List Stp) : Prop := cntL ss 0 ≤ 8 ∧ cntL ss 1 ≤ 8 ∧ cntL ss 2 ≤ 8 ∧ cntL ss 3 ≤ 8
instance (ss : List Stp) : Decidable (fewL ss) := by unfold fewL; infer_instance
def logF (ss : List Stp) (n : Int) : Int :=
  if 1 ≤ n ∧ n ≤ 4 then (if ss.length ≤ 32 then (if logG n ss = 0 then (if fewL ss then 0 else 2) else logG n ss) else 2) else 3
theorem logF_cores {ss : List Stp} {n : Int} (h : ¬ (1 ≤ n ∧ n ≤ 4)) : logF ss n = 3 := if_neg h
theorem logF_long {ss : List Stp} {n : Int} (h : 1 ≤ n ∧ n ≤ 4) (h2 : ¬ ss.length ≤ 32) : logF ss n = 2 := by unfold logF; rw [if_pos h, if_neg h2]
theorem logF_bad {ss : List Stp} {n : Int} (h : 1 ≤ n ∧ n ≤ 4) (h2 : ss.length ≤ 32) (h3 : ¬ logG n ss = 0) : logF ss n = logG n ss := by unfold logF; rw [if_pos h, if_pos h2, if_neg h3]
theorem logF_few {ss : List Stp} {n : Int} (h : 1 ≤ n ∧ n ≤ 4) (h2 : ss.length ≤ 32) (h3 : logG n ss = 0) (h4 : fewL ss) : logF ss n = 0 := by unfold logF; rw [if_pos h, if_pos h2, if_pos h3, if_pos h4]
theorem logF_many {ss : List Stp} {n : Int} (h : 1 ≤ n ∧ n ≤ 4) (h2 : ss.length ≤ 32) (h3 : logG n ss = 0) (h4 : ¬ fewL ss) : logF ss n = 2 := by unfold logF; rw [if_pos h, if_pos h2, if_pos h3, if_neg h4]
theorem logF_zero {ss : List Stp} {n : Int} (h : logF ss n = 0) : (1 ≤ n ∧ n ≤ 4) ∧ ss.length ≤ 32 ∧ logG n ss = 0 ∧ fewL ss := by
  by_cases h1 : 1 ≤ n ∧ n ≤ 4
  · by_cases h2 : ss.length ≤ 32
    · by_cases h3 : logG n ss = 0
      · by_cases h4 : fewL ss
        · exact ⟨h1, h2, h3, h4⟩
        · rw [logF_many h1 h2 h3 h4] at h; omega
      · rw [logF_bad h1 h2 h3] at h; exact absurd h h3
    · rw [logF_long h1 h2] at h; omega
  · rw [logF_cores h1] at h; omega
theorem logG_drop (n : Int) (ss : List Stp) (i : Nat) (h : i < ss.length) : logG n (ss.drop i) = if 0 ≤ ss[i].c ∧ ss[i].c ≤ n - 1 then (if evF ss[i].e = 0 then logG n (ss.drop (i + 1)) else evF ss[i].e) else 3 := by
  rw [List.drop_eq_getElem_cons h, logG]
theorem logG_next {n : Int} {ss : List Stp} {i : Nat} (h : i < ss.length) (h1 : 0 ≤ ss[i].c ∧ ss[i].c ≤ n - 1) (h0 : evF ss[i].e = 0) : logG n (ss.drop i) = logG n (ss.drop (i + 1)) := by rw [logG_drop n ss i h, if_pos h1, if_pos h0]
theorem logG_ev {n : Int} {ss : List Stp} {i : Nat} (h : i < ss.length) (h1 : 0 ≤ ss[i].c ∧ ss[i].c ≤ n - 1) (h0 : ¬ evF ss[i].e = 0) : logG n (ss.drop i) = evF ss[i].e := by rw [logG_drop n ss i h, if_pos h1, if_neg h0]
theorem logG_core {n : Int} {ss : List Stp} {i : Nat} (h : i < ss.length) (h1 : ¬ (0 ≤ ss[i].c ∧ ss[i].c ≤ n - 1)) : logG n (ss.drop i) = 3 := by rw [logG_drop n ss i h, if_neg h1]
theorem logG_end {n : Int} {ss : List Stp} {i : Nat} (h : ¬ i < ss.length) : logG n (ss.drop i) = 0 := by rw [List.drop_eq_nil_of_le (by omega)]; rfl
theorem logG_all {n : Int} : ∀ {ss : List Stp}, logG n ss = 0 → ∀ s ∈ ss, (0 ≤ s.c ∧ s.c ≤ n - 1) ∧ evF s.e = 0
  | [], _, s, hs => by simp at hs
  | x :: r, h, s, hs => by
    rw [logG] at h
    by_cases h1 : 0 ≤ x.c ∧ x.c ≤ n - 1
    · rw [if_pos h1] at h
      by_cases h2 : evF x.e = 0
      · rw [if_pos h2] at h
        rcases List.mem_cons.1 hs with rfl | hs
        · exact ⟨h1, h2⟩
        · exact logG_all h s hs
      · rw [if_neg h2] at h; exact absurd h h2
    · rw [if_neg h1] at h; omega
theorem logG_of {n : Int} : ∀ {ss : List Stp}, (∀ s ∈ ss, (0 ≤ s.c ∧ s.c ≤ n - 1) ∧ evF s.e = 0) → logG n ss = 0
  | [], _ => rfl
  | x :: r, h => by
    obtain ⟨h1, h2⟩ := h x (by simp)
    rw [logG, if_pos h1, if_pos h2]
    exact logG_of fun s hs => h s (by simp [hs])
theorem cntL_none {ss : List Stp} {j : Int} : (∀ s ∈ ss, s.c ≠ j) → cntL ss j = 0 := by
  induction ss with
  | nil => intro _; rfl
  | cons x r ih =>
    intro h
    rw [cntL, if_neg (h x (by simp)), ih fun s hs => h s (by simp [hs])]
theorem logF_cases (ss : List Stp) (n : Int) : logF ss n = 0 ∨ ¬ logF ss n = 0 := by omega

/-- The events of core j. -/
def colE (j : Int) : List Stp → List Ev
  | [] => []
  | s :: r => if s.c = j then s.e :: colE j r else colE j r
theorem colE_append (j : Int) : ∀ (l m : List Stp), colE j (l ++ m) = colE j l ++ colE j m
  | [], m => rfl
  | s :: r, m => by
    simp only [List.cons_append, colE]
    split
    · rw [colE_append j r m, List.cons_append]
    · rw [colE_append j r m]
theorem colE_length (j : Int) : ∀ l : List Stp, (colE j l).length = cntL l j
  | [] => rfl
  | s :: r => by
    simp only [colE, cntL]
    split
    · rw [List.length_cons, colE_length j r]; omega
    · rw [colE_length j r]; omega
theorem colE_mem {j : Int} {e : Ev} : ∀ {l : List Stp}, e ∈ colE j l → ∃ s ∈ l, s.e = e
  | [], h => by simp [colE] at h
  | s :: r, h => by
    rw [colE] at h
    split at h
    · rcases List.mem_cons.1 h with rfl | h
      · exact ⟨s, by simp, rfl⟩
      · obtain ⟨x, h1, h2⟩ := colE_mem h; exact ⟨x, by simp [h1], h2⟩
    · obtain ⟨x, h1, h2⟩ := colE_mem h; exact ⟨x, by simp [h1], h2⟩
/-- A log split by cores. -/
def spT (n : Nat) (ss : List Stp) : List (List Ev) := (List.range n).map fun j : Nat => colE (j : Int) ss
theorem spT_length (n : Nat) (ss : List Stp) : (spT n ss).length = n := by simp [spT]
theorem spT_get (n : Nat) (ss : List Stp) (i : Nat) (h : i < (spT n ss).length) : (spT n ss)[i] = colE (i : Int) ss := by simp [spT]
theorem spT_nil (n : Nat) : spT n [] = List.replicate n [] := by
  apply List.ext_getElem
  · simp [spT]
  · intro i h1 h2
    simp [spT, colE]
theorem spT_snoc (n : Nat) (ss : List Stp) (s : Stp) (i : Nat) (hi : s.c = (i : Int)) : spT n (ss ++ [s]) = (spT n ss).set i (colE (i : Int) ss ++ [s.e]) := by
  apply List.ext_getElem
  · simp [spT]
  · intro j h1 h2
    rw [spT_get]
    by_cases hij : i = j
    · subst hij
      rw [List.getElem_set_self, colE_append]
      simp [colE, hi]
    · rw [List.getElem_set_ne hij, spT_get, colE_append]
      have : ¬ s.c = (j : Int) := by omega
      simp [colE, this]
def slC (ss : List Stp) (n : Int) : Int := logF ss n
def slT (ss : List Stp) (n : Int) : List (List Ev) := if logF ss n = 0 then spT n.toNat ss else []
theorem sl_ok {ss : List Stp} {n : Int} (h : logF ss n = 0) : slT ss n = spT n.toNat ss := if_pos h
theorem sl_bad {ss : List Stp} {n : Int} (h : ¬ logF ss n = 0) : slT ss n = [] := if_neg h
def pkL (ss : List Stp) (n : Int) : List Int := if logF ss n = 0 then ss.map (·.c) else []
theorem pkL_ok {ss : List Stp} {n : Int} (h : logF ss n = 0) : pkL ss n = ss.map (·.c) := if_pos h
theorem pkL_bad {ss : List Stp} {n : Int} (h : ¬ logF ss n = 0) : pkL ss n = [] := if_neg h
theorem few_at {ss : List Stp} (h : fewL ss) {j : Int} (h0 : 0 ≤ j) (h4 : j < 4) : cntL ss j ≤ 8 := by
  obtain ⟨a, b, c, d⟩ := h
  rcases (show j = 0 ∨ j = 1 ∨ j = 2 ∨ j = 3 by omega) with rfl | rfl | rfl | rfl <;> assumption
end Go.Proofs.YtldepledinolmaaDoor
