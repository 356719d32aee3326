/- Plain mathematics of chapter 7: machines with caches; their faults; how an op turns them. No program is named here. -/
import Derived.Test.YtifijhfeeammkaaMgMath
namespace Go.Proofs.Ytifijhfeeammkaa

/-- A cell of the memory. -/
structure Cel where
  a : Int
  v : Int
/-- A machine: its lines (state, address, value) core by core, and its memory. -/
structure Mac where
  cs : List (List Ev)
  mem : List Cel
def lnZ : Ev := ⟨0, 0, 0⟩
def ln (cs : List (List Ev)) (i k : Nat) : Ev := (cs.getD i []).getD k lnZ
def setL (cs : List (List Ev)) (i k : Nat) (x : Ev) : List (List Ev) := cs.set i ((cs.getD i []).set k x)
theorem ln_get (cs : List (List Ev)) (i k : Nat) (hi : i < cs.length) (hk : k < cs[i].length) : ln cs i k = cs[i][k] := by
  unfold ln
  rw [show cs.getD i [] = cs[i] by simp [hi]]
  simp [hk]
theorem ln_set (cs : List (List Ev)) (i k i' k' : Nat) (x : Ev) (hi : i < cs.length) (hk : k < (cs.getD i []).length) : ln (setL cs i k x) i' k' = if i' = i ∧ k' = k then x else ln cs i' k' := by
  unfold ln setL
  by_cases h1 : i' = i
  · subst h1
    have e : (cs.set i' ((cs.getD i' []).set k x)).getD i' [] = (cs.getD i' []).set k x := by
      rw [List.getD_eq_getElem?_getD, List.getElem?_set_self hi]; rfl
    rw [e]
    by_cases h2 : k' = k
    · subst h2
      rw [if_pos ⟨rfl, rfl⟩, List.getD_eq_getElem?_getD, List.getElem?_set_self hk]; rfl
    · rw [if_neg (fun h => h2 h.2), List.getD_eq_getElem?_getD, List.getElem?_set_ne (fun e => h2 e.symm), ← List.getD_eq_getElem?_getD]
  · rw [if_neg (fun h => h1 h.1)]
    rw [List.getD_eq_getElem?_getD (l := cs.set i _), List.getElem?_set_ne (fun e => h1 e.symm), ← List.getD_eq_getElem?_getD]
theorem setL_length (cs : List (List Ev)) (i k : Nat) (x : Ev) : (setL cs i k x).length = cs.length := by simp [setL]
/-- All cores have L lines. -/
def Shp7 (n L : Nat) (cs : List (List Ev)) : Prop := cs.length = n ∧ ∀ l ∈ cs, l.length = L
theorem Shp7.row {n L : Nat} {cs : List (List Ev)} (h : Shp7 n L cs) {i : Nat} (hi : i < n) : (cs.getD i []).length = L := by
  have hi' : i < cs.length := by rw [h.1]; exact hi
  rw [show cs.getD i [] = cs[i] by simp [hi']]
  exact h.2 _ (List.getElem_mem hi')
theorem Shp7.set_ {n L : Nat} {cs : List (List Ev)} (h : Shp7 n L cs) {i k : Nat} (hi : i < n) (x : Ev) : Shp7 n L (setL cs i k x) := by
  refine ⟨by rw [setL_length]; exact h.1, fun l hl => ?_⟩
  rcases List.mem_or_eq_of_mem_set hl with a | a
  · exact h.2 l a
  · rw [a, List.length_set]; exact h.row hi
theorem Shp7.ln_set {n L : Nat} {cs : List (List Ev)} (h : Shp7 n L cs) {i k : Nat} (hi : i < n) (hk : k < L) (x : Ev) (i' k' : Nat) : ln (setL cs i k x) i' k' = if i' = i ∧ k' = k then x else ln cs i' k' :=
  Go.Proofs.Ytifijhfeeammkaa.ln_set cs i k i' k' x (by rw [h.1]; exact hi) (by rw [h.row hi]; exact hk)

/-- What the memory has at an address. -/
def readM : List Cel → Int → Int
  | [], _ => 0
  | c :: r, a => if c.a = a then c.v else readM r a
def celOk (c : Cel) : Prop := 0 ≤ c.a ∧ c.a ≤ 999999 ∧ 1 ≤ c.v ∧ c.v ≤ 999999
instance (c : Cel) : Decidable (celOk c) := by unfold celOk; infer_instance
/-- Rising. -/
def rise : List Cel → Bool
  | [] => true
  | c :: r => (match r with | [] => true | d :: _ => decide (c.a < d.a)) && rise r
def allC : List Cel → Bool
  | [] => true
  | c :: r => decide (celOk c) && allC r
def cellsF (l : List Cel) : Int := if allC l = true then (if rise l = true then 0 else 1) else 3
/-- The fault of a line at a place. -/
def lineF (L : Nat) (k : Nat) (x : Ev) : Int :=
  if (0 ≤ x.k ∧ x.k ≤ 2) ∧ (x.k = 0 → x.a = 0 ∧ x.v = 0) then
    (if 0 ≤ x.a ∧ x.a ≤ 999999 ∧ 0 ≤ x.v ∧ x.v ≤ 999999 then (if x.k ≠ 0 ∧ x.a % (L : Int) ≠ (k : Int) then 1 else 0) else 3) else 1
def rowF (L : Nat) : Nat → List Ev → Int
  | _, [] => 0
  | k, x :: r => if lineF L k x = 0 then rowF L (k + 1) r else lineF L k x
def linesF (L : Nat) : List (List Ev) → Int
  | [] => 0
  | l :: r => if rowF L 0 l = 0 then linesF L r else rowF L 0 l
/-- Caches keep together. -/
def Tog (n L : Nat) (m : Mac) : Prop := ∀ i, i < n → ∀ k, k < L →
  ((ln m.cs i k).k = 1 → (ln m.cs i k).v = readM m.mem (ln m.cs i k).a) ∧
  ∀ j, j < n → j ≠ i → (ln m.cs i k).k = 2 → (ln m.cs j k).k ≠ 0 → (ln m.cs j k).a ≠ (ln m.cs i k).a
def Siz (m : Mac) : Prop := (1 ≤ m.cs.length ∧ m.cs.length ≤ 4) ∧ m.mem.length ≤ 32 ∧ (∀ l ∈ m.cs, l.length = (m.cs.getD 0 []).length) ∧ 1 ≤ (m.cs.getD 0 []).length ∧ (m.cs.getD 0 []).length ≤ 4
open Classical in
noncomputable def macF (m : Mac) : Int :=
  if Siz m then (if cellsF m.mem = 0 then (if linesF (m.cs.getD 0 []).length m.cs = 0 then (if Tog m.cs.length (m.cs.getD 0 []).length m then 0 else 7) else linesF (m.cs.getD 0 []).length m.cs) else cellsF m.mem) else 2
def opF (o : Ev) : Int := if evF o = 0 then (if o.k = 0 ∧ o.v ≠ 0 then 1 else 0) else evF o
def opsF : List Ev → Int
  | [] => 0
  | o :: r => if opF o = 0 then opsF r else opF o
def prF (l : List Ev) : Int := if l.length ≤ 8 then opsF l else 2
def prsF : List (List Ev) → Int
  | [] => 0
  | l :: r => if prF l = 0 then prsF r else prF l
def pgF (t : List (List Ev)) : Int := if 1 ≤ t.length ∧ t.length ≤ 4 then prsF t else 2

/-- A value written back into the memory. -/
def backL (a v : Int) : Bool → List Cel → List Cel
  | d, [] => if d = true then [] else [⟨a, v⟩]
  | d, c :: r => (if d = false ∧ a < c.a then [⟨a, v⟩] else []) ++ ((if c.a ≠ a then [c] else []) ++ backL a v (d || decide (a < c.a)) r)
def backM (mem : List Cel) (a v : Int) : List Cel := backL a v (decide (v = 0)) mem
/-- Core i's line at place k, of this address, given up to core c. -/
def giveL (c k : Nat) (a : Int) (store : Bool) (m : Mac) (i : Nat) : Mac :=
  let x := ln m.cs i k
  if i = c ∨ x.k = 0 ∨ x.a ≠ a then m
  else ⟨setL m.cs i k (if store = true then lnZ else ⟨1, x.a, x.v⟩), if x.k = 2 then backM m.mem x.a x.v else m.mem⟩
def others (c k : Nat) (a : Int) (store : Bool) (m : Mac) : Mac := (List.range m.cs.length).foldl (giveL c k a store) m
/-- The own line, made free of another address. -/
def freeL (c k : Nat) (a : Int) (m : Mac) : Mac :=
  let x := ln m.cs c k
  if x.k ≠ 0 ∧ x.a ≠ a then ⟨setL m.cs c k lnZ, if x.k = 2 then backM m.mem x.a x.v else m.mem⟩ else m
def placeOf (m : Mac) (c : Nat) (a : Int) : Nat := (a % ((m.cs.getD c []).length : Int)).toNat
/-- One op of core c: the machine, and the value. -/
def doM (m : Mac) (c : Nat) (o : Ev) : Mac × Int :=
  let k := placeOf m c o.a
  let m1 := freeL c k o.a m
  if o.k = 1 then
    (let m2 := if (ln m1.cs c k).k = 2 then m1 else others c k o.a true m1
     (⟨setL m2.cs c k ⟨2, o.a, o.v⟩, m2.mem⟩, o.v))
  else if (ln m1.cs c k).k = 0 then
    (let m2 := others c k o.a false m1
     (⟨setL m2.cs c k ⟨1, o.a, readM m2.mem o.a⟩, m2.mem⟩, readM m2.mem o.a))
  else (m1, (ln m1.cs c k).v)
/-- The first line that is modified and has this address. -/
def modL (a : Int) : List Ev → Option Int
  | [] => none
  | x :: r => if x.k = 2 ∧ x.a = a then some x.v else modL a r
def valM (m : Mac) (a : Int) : Int := (modL a m.cs.flatten).getD (readM m.mem a)
def newM (n L : Nat) : Mac := ⟨List.replicate n (List.replicate L lnZ), []⟩

/-! ### the memory -/
theorem rise_tail {c : Cel} {r : List Cel} (h : rise (c :: r) = true) : rise r = true := by
  simp only [rise, Bool.and_eq_true] at h
  exact h.2
theorem rise_lt : ∀ {r : List Cel} {c : Cel}, rise (c :: r) = true → ∀ d ∈ r, c.a < d.a
  | [], _, _, d, hd => by simp at hd
  | e :: r, c, h, d, hd => by
    have h1 : c.a < e.a := by simp only [rise, Bool.and_eq_true, decide_eq_true_eq] at h; exact h.1
    rcases List.mem_cons.1 hd with rfl | hd
    · exact h1
    · have := rise_lt (rise_tail h) d hd
      omega
theorem rise_cons {c : Cel} {r : List Cel} (h : rise r = true) (h2 : ∀ d ∈ r, c.a < d.a) : rise (c :: r) = true := by
  cases r with
  | nil => rfl
  | cons e r =>
    simp only [rise, Bool.and_eq_true, decide_eq_true_eq]
    simp only [rise, Bool.and_eq_true] at h
    exact ⟨h2 e (by simp), h⟩
theorem read_none : ∀ {r : List Cel} {a : Int}, (∀ d ∈ r, d.a ≠ a) → readM r a = 0
  | [], _, _ => rfl
  | c :: r, a, h => by
    rw [readM, if_neg (h c (by simp))]
    exact read_none fun d hd => h d (by simp [hd])
theorem backL_mem (a v : Int) : ∀ (l : List Cel) (d : Bool) (c : Cel), c ∈ backL a v d l → c = ⟨a, v⟩ ∨ (c ∈ l ∧ c.a ≠ a)
  | [], d, c, h => by
    cases d with
    | true => simp [backL] at h
    | false => simp [backL] at h; exact .inl h
  | e :: r, d, c, h => by
    rw [backL] at h
    rcases List.mem_append.1 h with h | h
    · split at h
      · simp at h; exact .inl h
      · simp at h
    · rcases List.mem_append.1 h with h | h
      · split at h
        · rename_i hne
          simp at h
          subst h
          exact .inr ⟨by simp, hne⟩
        · simp at h
      · rcases backL_mem a v r _ c h with x | ⟨x, y⟩
        · exact .inl x
        · exact .inr ⟨by simp [x], y⟩
/-- Behind the place: the rest alone. -/
theorem backL_done (a v : Int) : ∀ (l : List Cel), (∀ d ∈ l, a < d.a) → backL a v true l = l
  | [], _ => rfl
  | e :: r, h => by
    have h1 := h e (by simp)
    rw [backL, if_neg (by simp), if_pos (by omega), Bool.true_or, backL_done a v r fun d hd => h d (by simp [hd])]
    rfl
/-- Nothing is laid: the cell of this address goes. -/
theorem backL_gone (a v : Int) : ∀ (l : List Cel), backL a v true l = l.filter fun c => decide (c.a ≠ a)
  | [] => rfl
  | e :: r => by
    rw [backL, if_neg (by simp), Bool.true_or, backL_gone a v r, List.filter_cons]
    by_cases h : e.a ≠ a
    · simp [h]
    · simp [h]
theorem backL_read (a v : Int) : ∀ (l : List Cel), rise l = true → ∀ b, readM (backL a v false l) b = if b = a then v else readM l b
  | [], _, b => by
    simp only [backL, readM]
    by_cases h : b = a
    · subst h; simp [readM]
    · rw [if_neg h]; simp [readM]; intro e; exact absurd e.symm h
  | e :: r, hr, b => by
    have hlt := rise_lt hr
    have ih := backL_read a v r (rise_tail hr) b
    rw [backL]
    by_cases h1 : a < e.a
    · rw [if_pos ⟨rfl, h1⟩, if_pos (by omega), decide_eq_true h1, Bool.false_or, backL_done a v r (fun d hd => by have := hlt d hd; omega)]
      simp only [List.cons_append, List.nil_append, readM]
      by_cases h : b = a
      · subst h; simp
      · rw [if_neg h, if_neg (fun e => h e.symm)]
    · rw [if_neg (fun h => h1 h.2), decide_eq_false h1, Bool.false_or, List.nil_append]
      by_cases h2 : e.a = a
      · rw [if_neg (fun h => h h2), List.nil_append, ih]
        by_cases h : b = a
        · rw [if_pos h, if_pos h]
        · rw [if_neg h, if_neg h, readM, if_neg (by omega)]
      · rw [if_pos h2, List.singleton_append, readM, readM]
        by_cases h3 : e.a = b
        · rw [if_pos h3, if_pos h3, if_neg (by omega)]
        · rw [if_neg h3, if_neg h3, ih]
theorem read_filter (a : Int) : ∀ (l : List Cel) (b : Int), readM (l.filter fun c => decide (c.a ≠ a)) b = if b = a then 0 else readM l b
  | [], b => by simp [readM]
  | e :: r, b => by
    rw [List.filter_cons]
    by_cases h : e.a = a
    · simp only [h, ne_eq, not_true_eq_false, decide_false, Bool.false_eq_true, if_false]
      rw [read_filter a r b, readM]
      by_cases h2 : b = a
      · rw [if_pos h2, if_pos h2]
      · rw [if_neg h2, if_neg h2, if_neg (by omega)]
    · simp only [ne_eq, h, not_false_eq_true, decide_true, if_true, readM]
      rw [read_filter a r b]
      by_cases h3 : e.a = b
      · rw [if_pos h3, if_pos h3, if_neg (by omega)]
      · rw [if_neg h3, if_neg h3]
theorem back_read {mem : List Cel} (h : rise mem = true) (a v b : Int) : readM (backM mem a v) b = if b = a then v else readM mem b := by
  unfold backM
  by_cases hv : v = 0
  · rw [decide_eq_true hv, backL_gone, read_filter, hv]
  · rw [decide_eq_false hv]
    exact backL_read a v mem h b
theorem backL_rise (a v : Int) : ∀ (l : List Cel), rise l = true → rise (backL a v false l) = true
  | [], _ => rfl
  | e :: r, hr => by
    have hlt := rise_lt hr
    have ih := backL_rise a v r (rise_tail hr)
    rw [backL]
    by_cases h1 : a < e.a
    · rw [if_pos ⟨rfl, h1⟩, if_pos (by omega), decide_eq_true h1, Bool.false_or, backL_done a v r (fun d hd => by have := hlt d hd; omega)]
      refine rise_cons hr fun d hd => ?_
      rcases List.mem_cons.1 hd with rfl | hd
      · exact h1
      · have := hlt d hd; simp only; omega
    · rw [if_neg (fun h => h1 h.2), decide_eq_false h1, Bool.false_or, List.nil_append]
      by_cases h2 : e.a = a
      · rw [if_neg (fun h => h h2), List.nil_append]; exact ih
      · rw [if_pos h2, List.singleton_append]
        refine rise_cons ih fun d hd => ?_
        rcases backL_mem a v r false d hd with x | ⟨x, _⟩
        · rw [x]; simp only; omega
        · exact hlt d x
theorem rise_filter (p : Cel → Bool) : ∀ (l : List Cel), rise l = true → rise (l.filter p) = true
  | [], _ => rfl
  | e :: r, hr => by
    rw [List.filter_cons]
    split
    · exact rise_cons (rise_filter p r (rise_tail hr)) fun d hd => rise_lt hr d (List.mem_filter.1 hd).1
    · exact rise_filter p r (rise_tail hr)
theorem back_rise {mem : List Cel} (h : rise mem = true) (a v : Int) : rise (backM mem a v) = true := by
  unfold backM
  by_cases hv : v = 0
  · rw [decide_eq_true hv, backL_gone]
    exact rise_filter _ mem h
  · rw [decide_eq_false hv]
    exact backL_rise a v mem h
theorem back_mem {mem : List Cel} {a v : Int} {c : Cel} (h : c ∈ backM mem a v) : (c = ⟨a, v⟩ ∧ v ≠ 0) ∨ c ∈ mem := by
  unfold backM at h
  by_cases hv : v = 0
  · rw [decide_eq_true hv, backL_gone] at h
    exact .inr (List.mem_filter.1 h).1
  · rw [decide_eq_false hv] at h
    rcases backL_mem a v mem false c h with x | x
    · exact .inl ⟨x, hv⟩
    · exact .inr x.1
theorem backL_len (a v : Int) : ∀ (l : List Cel) (d : Bool), (backL a v d l).length ≤ l.length + (if d = true then 0 else 1)
  | [], d => by cases d <;> simp [backL]
  | e :: r, d => by
    have ih := backL_len a v r (d || decide (a < e.a))
    rw [backL, List.length_append, List.length_append, List.length_cons]
    have h2 : (if e.a ≠ a then [e] else ([] : List Cel)).length ≤ 1 := by split <;> simp
    cases d with
    | true => simp only [Bool.true_or, if_true, Bool.true_eq_false, false_and, if_false, List.length_nil] at ih ⊢; omega
    | false =>
      by_cases h : a < e.a
      · rw [decide_eq_true h] at ih
        simp only [Bool.or_true, if_true] at ih
        have h1 : (if false = false ∧ a < e.a then [(⟨a, v⟩ : Cel)] else []).length = 1 := by rw [if_pos ⟨rfl, h⟩]; rfl
        simp only [h, decide_true, Bool.or_true] at *
        simp only [and_self, if_true, List.length_singleton, Bool.false_eq_true, if_false] at *
        omega
      · rw [decide_eq_false h] at ih
        simp only [h, decide_false, Bool.or_false, and_false, if_false, List.length_nil, Bool.false_eq_true] at *
        omega
theorem back_len (mem : List Cel) (a v : Int) : (backM mem a v).length ≤ mem.length + 1 := by
  have := backL_len a v mem (decide (v = 0))
  unfold backM
  split at this <;> omega
theorem allC_iff : ∀ {l : List Cel}, allC l = true ↔ ∀ c ∈ l, celOk c
  | [] => by simp [allC]
  | c :: r => by
    have ih := allC_iff (l := r)
    simp only [allC, Bool.and_eq_true, decide_eq_true_eq, List.mem_cons, forall_eq_or_imp]
    rw [ih]
theorem back_ok {mem : List Cel} (h : ∀ c ∈ mem, celOk c) {a v : Int} (ha : 0 ≤ a ∧ a ≤ 999999) (hv : 0 ≤ v ∧ v ≤ 999999) : ∀ c ∈ backM mem a v, celOk c := fun c hc => by
  rcases back_mem hc with ⟨rfl, h0⟩ | x
  · unfold celOk; simp only; omega
  · exact h c x
end Go.Proofs.Ytifijhfeeammkaa
