/- Plain mathematics of chapter 7: faults, values, and the log of a machine. No program is named here. -/
import Derived.Test.YtifijhfeeammkaaMsi3
namespace Go.Proofs.Ytifijhfeeammkaa

theorem cellsF_zero {l : List Cel} : cellsF l = 0 ↔ (∀ c ∈ l, celOk c) ∧ rise l = true := by
  unfold cellsF
  by_cases h1 : allC l = true
  · rw [if_pos h1]
    by_cases h2 : rise l = true
    · rw [if_pos h2]
      exact ⟨fun _ => ⟨allC_iff.1 h1, h2⟩, fun _ => rfl⟩
    · rw [if_neg h2]
      exact ⟨fun h => by omega, fun h => absurd h.2 h2⟩
  · rw [if_neg h1]
    exact ⟨fun h => by omega, fun h => absurd (allC_iff.2 h.1) h1⟩
theorem rowF_zero {L : Nat} : ∀ (l : List Ev) (k : Nat), rowF L k l = 0 ↔ ∀ j (h : j < l.length), lineF L (k + j) l[j] = 0
  | [], k => by simp [rowF]
  | x :: r, k => by
    have ih := rowF_zero (L := L) r (k + 1)
    rw [rowF]
    by_cases h1 : lineF L k x = 0
    · rw [if_pos h1, ih]
      constructor
      · intro h j hj
        cases j with
        | zero => exact h1
        | succ j =>
          have := h j (by simpa using hj)
          rw [show k + 1 + j = k + (j + 1) by omega] at this
          exact this
      · intro h j hj
        have := h (j + 1) (by simpa using hj)
        rw [show k + (j + 1) = k + 1 + j by omega] at this
        exact this
    · rw [if_neg h1]
      exact ⟨fun h => absurd h h1, fun h => h 0 (by simp)⟩
theorem linesF_zero {L : Nat} : ∀ cs : List (List Ev), linesF L cs = 0 ↔ ∀ l ∈ cs, rowF L 0 l = 0
  | [] => by simp [linesF]
  | l :: r => by
    have ih := linesF_zero (L := L) r
    rw [linesF]
    by_cases h1 : rowF L 0 l = 0
    · rw [if_pos h1, ih]
      exact ⟨fun h l' hl' => by rcases List.mem_cons.1 hl' with rfl | x; exact h1; exact h l' x, fun h l' hl' => h l' (by simp [hl'])⟩
    · rw [if_neg h1]
      exact ⟨fun h => absurd h h1, fun h => h l (by simp)⟩
theorem lines_iff {n L : Nat} {cs : List (List Ev)} (h : Shp7 n L cs) : linesF L cs = 0 ↔ ∀ i, i < n → ∀ k, k < L → lineF L k (ln cs i k) = 0 := by
  rw [linesF_zero]
  constructor
  · intro hh i hi k hk
    have hi' : i < cs.length := by rw [h.1]; exact hi
    have hl := h.2 _ (List.getElem_mem hi')
    have := (rowF_zero _ _).1 (hh _ (List.getElem_mem hi')) k (by omega)
    rw [Nat.zero_add] at this
    rw [ln_get cs i k hi' (by omega)]
    exact this
  · intro hh l hl
    obtain ⟨i, hi, rfl⟩ := List.getElem_of_mem hl
    have hr := h.2 _ (List.getElem_mem hi)
    rw [rowF_zero]
    intro j hj
    have := hh i (by rw [← h.1]; exact hi) j (by omega)
    rw [ln_get cs i j hi hj] at this
    rw [Nat.zero_add]
    exact this
theorem macF_siz {m : Mac} (h : ¬ Siz m) : macF m = 2 := if_neg h
theorem macF_cells {m : Mac} (h : Siz m) (h2 : ¬ cellsF m.mem = 0) : macF m = cellsF m.mem := by unfold macF; rw [if_pos h, if_neg h2]
theorem macF_lines {m : Mac} (h : Siz m) (h2 : cellsF m.mem = 0) (h3 : ¬ linesF (m.cs.getD 0 []).length m.cs = 0) : macF m = linesF (m.cs.getD 0 []).length m.cs := by unfold macF; rw [if_pos h, if_pos h2, if_neg h3]
theorem macF_tog {m : Mac} (h : Siz m) (h2 : cellsF m.mem = 0) (h3 : linesF (m.cs.getD 0 []).length m.cs = 0) (h4 : ¬ Tog m.cs.length (m.cs.getD 0 []).length m) : macF m = 7 := by unfold macF; rw [if_pos h, if_pos h2, if_pos h3, if_neg h4]
theorem macF_ok {m : Mac} (h : Siz m) (h2 : cellsF m.mem = 0) (h3 : linesF (m.cs.getD 0 []).length m.cs = 0) (h4 : Tog m.cs.length (m.cs.getD 0 []).length m) : macF m = 0 := by unfold macF; rw [if_pos h, if_pos h2, if_pos h3, if_pos h4]
theorem Siz.shp {m : Mac} (h : Siz m) : Shp7 m.cs.length (m.cs.getD 0 []).length m.cs := ⟨rfl, h.2.2.1⟩
theorem macF_zero {m : Mac} (h : macF m = 0) : GoodM m.cs.length (m.cs.getD 0 []).length m ∧ m.mem.length ≤ 32 := by
  by_cases h1 : Siz m
  · by_cases h2 : cellsF m.mem = 0
    · by_cases h3 : linesF (m.cs.getD 0 []).length m.cs = 0
      · by_cases h4 : Tog m.cs.length (m.cs.getD 0 []).length m
        · obtain ⟨c1, c2⟩ := cellsF_zero.1 h2
          exact ⟨⟨h1.shp, ⟨h1.1.1, h1.1.2, h1.2.2.2⟩, c1, c2, (lines_iff h1.shp).1 h3, h4⟩, h1.2.1⟩
        · rw [macF_tog h1 h2 h3 h4] at h; omega
      · rw [macF_lines h1 h2 h3] at h; exact absurd h h3
    · rw [macF_cells h1 h2] at h; exact absurd h h2
  · rw [macF_siz h1] at h; omega
theorem GoodM.rows {n L : Nat} {m : Mac} (h : GoodM n L m) : m.cs.length = n ∧ (m.cs.getD 0 []).length = L := ⟨h.shp.1, h.shp.row (by have := h.nL; omega)⟩
theorem macF_good {n L : Nat} {m : Mac} (h : GoodM n L m) (hm : m.mem.length ≤ 32) : macF m = 0 := by
  obtain ⟨e1, e2⟩ := h.rows
  have hn := h.nL
  have hS : Siz m := ⟨by omega, hm, fun l hl => by rw [e2]; exact h.shp.2 l hl, by omega, by omega⟩
  refine macF_ok hS (cellsF_zero.2 ⟨h.ok, h.ris⟩) ?_ ?_
  · rw [e2]; exact (lines_iff h.shp).2 h.line
  · rw [e1, e2]; exact h.tog

/-! ### values -/
theorem modL_some {a v : Int} : ∀ {l : List Ev}, modL a l = some v → ∃ x ∈ l, x.k = 2 ∧ x.a = a ∧ x.v = v
  | [], h => by simp [modL] at h
  | x :: r, h => by
    rw [modL] at h
    by_cases h1 : x.k = 2 ∧ x.a = a
    · rw [if_pos h1] at h
      exact ⟨x, by simp, h1.1, h1.2, Option.some.inj h⟩
    · rw [if_neg h1] at h
      obtain ⟨y, hy, e⟩ := modL_some h
      exact ⟨y, by simp [hy], e⟩
theorem modL_none {a : Int} : ∀ {l : List Ev}, modL a l = none → ∀ x ∈ l, ¬ (x.k = 2 ∧ x.a = a)
  | [], _, x, hx => by simp at hx
  | y :: r, h, x, hx => by
    rw [modL] at h
    by_cases h1 : y.k = 2 ∧ y.a = a
    · rw [if_pos h1] at h; simp at h
    · rw [if_neg h1] at h
      rcases List.mem_cons.1 hx with rfl | hx
      · exact h1
      · exact modL_none h x hx
theorem mem_flat {n L : Nat} {cs : List (List Ev)} (h : Shp7 n L cs) {x : Ev} : x ∈ cs.flatten ↔ ∃ i k, i < n ∧ k < L ∧ ln cs i k = x := by
  rw [List.mem_flatten]
  constructor
  · rintro ⟨l, hl, hx⟩
    obtain ⟨i, hi, rfl⟩ := List.getElem_of_mem hl
    obtain ⟨k, hk, rfl⟩ := List.getElem_of_mem hx
    have hr := h.2 _ (List.getElem_mem hi)
    exact ⟨i, k, by rw [← h.1]; exact hi, by omega, ln_get cs i k hi hk⟩
  · rintro ⟨i, k, hi, hk, rfl⟩
    have hi' : i < cs.length := by rw [h.1]; exact hi
    have hr := h.2 _ (List.getElem_mem hi')
    refine ⟨cs[i], List.getElem_mem hi', ?_⟩
    rw [ln_get cs i k hi' (by omega)]
    exact List.getElem_mem _
theorem val_has {n L : Nat} {m : Mac} (h : Shp7 n L m.cs) (a : Int) : HasV n L m a (valM m a) := by
  unfold valM
  cases hm : modL a m.cs.flatten with
  | some v =>
    obtain ⟨x, hx, e1, e2, e3⟩ := modL_some hm
    obtain ⟨i, k, hi, hk, rfl⟩ := (mem_flat h).1 hx
    exact .inl ⟨i, k, hi, hk, e1, e2, e3⟩
  | none =>
    exact .inr ⟨fun i k hi hk => modL_none hm _ ((mem_flat h).2 ⟨i, k, hi, hk, rfl⟩), rfl⟩
theorem val_eq {n L : Nat} {m : Mac} (h : GoodM n L m) {a v : Int} (hv : HasV n L m a v) : valM m a = v := HasV.unique h (val_has h.shp a) hv

/-! ### a new machine -/
theorem ln_new (n L i k : Nat) : ln (newM n L).cs i k = lnZ := by
  unfold ln newM
  simp only [List.getD_eq_getElem?_getD]
  by_cases hi : i < n
  · rw [List.getElem?_replicate, if_pos hi, Option.getD_some, List.getElem?_replicate]
    split <;> rfl
  · rw [List.getElem?_replicate, if_neg hi]
    simp
theorem new_shp (n L : Nat) : Shp7 n L (newM n L).cs := ⟨by simp [newM], fun l hl => by rw [List.eq_of_mem_replicate hl]; simp⟩
theorem new_good {n L : Nat} (h : 1 ≤ n ∧ n ≤ 4 ∧ 1 ≤ L ∧ L ≤ 4) : GoodM n L (newM n L) :=
  ⟨new_shp n L, h, fun c hc => by simp [newM] at hc, rfl, fun i _ k _ => by rw [ln_new]; exact lineF_Z _ _,
    fun i _ k _ => ⟨fun e => by rw [ln_new] at e; simp [lnZ] at e, fun j _ _ e => by rw [ln_new] at e; simp [lnZ] at e⟩⟩
theorem new_has (n L : Nat) (a : Int) : HasV n L (newM n L) a 0 := .inr ⟨fun i k _ _ h => by rw [ln_new] at h; simp [lnZ] at h, rfl⟩
theorem new_src (n L : Nat) : SrcS n L [] (newM n L) := ⟨fun c hc => by simp [newM] at hc, fun i k _ _ h => by rw [ln_new] at h; simp [lnZ] at h⟩
theorem new_fault {n L : Nat} (h : 1 ≤ n ∧ n ≤ 4 ∧ 1 ≤ L ∧ L ≤ 4) : macF (newM n L) = 0 := macF_good (new_good h) (by simp [newM])

/-! ### ops one behind the other -/
def runL : Mac → List Stp → List Stp × Mac
  | m, [] => ([], m)
  | m, s :: r => (⟨s.c, ⟨s.e.k, s.e.a, (doM m s.c.toNat s.e).2⟩⟩ :: (runL (doM m s.c.toNat s.e).1 r).1, (runL (doM m s.c.toNat s.e).1 r).2)
theorem runL_snoc : ∀ (l : List Stp) (m : Mac) (s : Stp), runL m (l ++ [s]) = ((runL m l).1 ++ [⟨s.c, ⟨s.e.k, s.e.a, (doM (runL m l).2 s.c.toNat s.e).2⟩⟩], (doM (runL m l).2 s.c.toNat s.e).1)
  | [], m, s => rfl
  | x :: r, m, s => by
    have ih := runL_snoc r (doM m x.c.toNat x.e).1 s
    simp only [List.cons_append, runL, ih]
/-- What one memory would do. -/
def flatL : (Int → Int) → List Stp → List Stp
  | _, [] => []
  | V, s :: r => if s.e.k = 1 then s :: flatL (fun b => if b = s.e.a then s.e.v else V b) r else ⟨s.c, ⟨s.e.k, s.e.a, V s.e.a⟩⟩ :: flatL V r
/-- The addresses that are stored to. -/
def stoS : List Int → List Stp → List Int
  | S, [] => S
  | S, s :: r => stoS (if s.e.k = 1 then s.e.a :: S else S) r
theorem stoS_len : ∀ (l : List Stp) (S : List Int), (stoS S l).length ≤ S.length + l.length
  | [], S => by simp [stoS]
  | s :: r, S => by
    have := stoS_len r (if s.e.k = 1 then s.e.a :: S else S)
    rw [stoS, List.length_cons]
    split at this
    · rw [List.length_cons] at this
      rename_i h
      rw [if_pos h]
      omega
    · rename_i h
      rw [if_neg h]
      omega
theorem run_ok {n L : Nat} : ∀ (l : List Stp) (m : Mac) (V : Int → Int) (S : List Int), GoodM n L m → (∀ s ∈ l, (0 ≤ s.c ∧ s.c < (n : Int)) ∧ opF s.e = 0) → (∀ a, HasV n L m a (V a)) → SrcS n L S m →
    (runL m l).1 = flatL V l ∧ GoodM n L (runL m l).2 ∧ SrcS n L (stoS S l) (runL m l).2 ∧ (∀ s ∈ (runL m l).1, evF s.e = 0)
  | [], m, V, S, h, _, _, hS => ⟨rfl, h, hS, fun s hs => by simp [runL] at hs⟩
  | s :: r, m, V, S, h, hl, hV, hS => by
    obtain ⟨hc, ho⟩ := hl s (by simp)
    have hcn : s.c.toNat < n := by omega
    have D := do_ok h hcn ho
    obtain ⟨hkd, ha, hv⟩ := opF_zero ho
    obtain ⟨d, hd⟩ : ∃ d, d = doM m s.c.toNat s.e := ⟨_, rfl⟩
    rw [← hd] at D
    obtain ⟨V', hV'⟩ : ∃ V' : Int → Int, V' = (if s.e.k = 1 then (fun b => if b = s.e.a then s.e.v else V b) else V) := ⟨_, rfl⟩
    have hd2 : d.2 = if s.e.k = 1 then s.e.v else V s.e.a := by
      split
      · rename_i hk; exact D.stored hk
      · rename_i hk
        exact HasV.unique h (D.loaded (by omega)) (hV _)
    have hVV : ∀ a, HasV n L d.1 a (V' a) := fun a => by
      by_cases hk : s.e.k = 1
      · rw [if_pos hk] at hV' hd2
        rw [hV']
        simp only
        by_cases e : a = s.e.a
        · rw [if_pos e, e, ← hd2]; exact D.here
        · rw [if_neg e]; exact D.other a _ e (hV a)
      · rw [if_neg hk] at hV' hd2
        rw [hV']
        by_cases e : a = s.e.a
        · rw [e, ← hd2]; exact D.here
        · exact D.other a _ e (hV a)
    obtain ⟨i1, i2, i3, i4⟩ := run_ok r d.1 V' (if s.e.k = 1 then s.e.a :: S else S) D.good (fun x hx => hl x (by simp [hx])) hVV (D.src S hS)
    have hb := HasV.bound D.good D.here
    refine ⟨?_, ?_, ?_, ?_⟩
    · simp only [runL, ← hd, i1, flatL]
      by_cases hk : s.e.k = 1
      · rw [if_pos hk] at hV' hd2
        rw [if_pos hk, hV', hd2]
      · rw [if_neg hk] at hV' hd2
        rw [if_neg hk, hV', hd2]
    · simp only [runL, ← hd]; exact i2
    · simp only [runL, ← hd, stoS]; exact i3
    · intro x hx
      simp only [runL, ← hd] at hx
      rcases List.mem_cons.1 hx with rfl | hx
      · exact evF_ok (by simp only; omega) ⟨ha.1, ha.2, hb.1, hb.2⟩
      · exact i4 x hx
theorem run_map : ∀ (l : List Stp) (m : Mac), (runL m l).1.map (·.c) = l.map (·.c)
  | [], m => rfl
  | s :: r, m => by simp only [runL, List.map_cons, run_map r]
theorem run_len (l : List Stp) (m : Mac) : (runL m l).1.length = l.length := by
  have := congrArg List.length (run_map l m)
  simpa using this
theorem run_cnt (j : Int) : ∀ (l : List Stp) (m : Mac), cntL (runL m l).1 j = cntL l j
  | [], m => rfl
  | s :: r, m => by simp only [runL, cntL, run_cnt j r]
/-- A rising memory has no more cells than there are addresses. -/
theorem rise_len : ∀ (l : List Cel) (S : List Int), rise l = true → (∀ c ∈ l, c.a ∈ S) → l.length ≤ S.length
  | [], S, _, _ => Nat.zero_le _
  | c :: r, S, h, hS => by
    have hc := hS c (by simp)
    have hlt := rise_lt h
    have ih := rise_len r (S.erase c.a) (rise_tail h) fun d hd => (List.mem_erase_of_ne (by have := hlt d hd; omega)).2 (hS d (by simp [hd]))
    rw [List.length_erase_of_mem hc] at ih
    have := List.length_pos_of_mem hc
    rw [List.length_cons]
    omega

/-! ### programs -/
theorem opF_ev {o : Ev} (h : opF o = 0) : evF o = 0 := by
  obtain ⟨a, b, c⟩ := opF_zero h
  exact evF_ok (by omega) ⟨b.1, b.2, c.1, c.2⟩
theorem opsF_all : ∀ {l : List Ev}, opsF l = 0 → ∀ o ∈ l, opF o = 0
  | [], _, o, ho => by simp at ho
  | x :: r, h, o, ho => by
    rw [opsF] at h
    by_cases h1 : opF x = 0
    · rw [if_pos h1] at h
      rcases List.mem_cons.1 ho with rfl | ho
      · exact h1
      · exact opsF_all h o ho
    · rw [if_neg h1] at h; exact absurd h h1
theorem prF_zero {l : List Ev} (h : prF l = 0) : l.length ≤ 8 ∧ ∀ o ∈ l, opF o = 0 := by
  unfold prF at h
  by_cases h1 : l.length ≤ 8
  · rw [if_pos h1] at h; exact ⟨h1, opsF_all h⟩
  · rw [if_neg h1] at h; omega
theorem prsF_all : ∀ {t : List (List Ev)}, prsF t = 0 → ∀ l ∈ t, prF l = 0
  | [], _, l, hl => by simp at hl
  | x :: r, h, l, hl => by
    rw [prsF] at h
    by_cases h1 : prF x = 0
    · rw [if_pos h1] at h
      rcases List.mem_cons.1 hl with rfl | hl
      · exact h1
      · exact prsF_all h l hl
    · rw [if_neg h1] at h; exact absurd h h1
theorem pgF_zero {t : List (List Ev)} (h : pgF t = 0) : (1 ≤ t.length ∧ t.length ≤ 4) ∧ ∀ l ∈ t, l.length ≤ 8 ∧ ∀ o ∈ l, opF o = 0 := by
  unfold pgF at h
  by_cases h1 : 1 ≤ t.length ∧ t.length ≤ 4
  · rw [if_pos h1] at h; exact ⟨h1, fun l hl => prF_zero (prsF_all h l hl)⟩
  · rw [if_neg h1] at h; omega
theorem evsF_of : ∀ {l : List Ev}, (∀ e ∈ l, evF e = 0) → evsF l = 0
  | [], _ => rfl
  | x :: r, h => by rw [evsF, if_pos (h x (by simp))]; exact evsF_of fun e he => h e (by simp [he])
theorem stsF_of : ∀ {t : List (List Ev)}, (∀ l ∈ t, stF l = 0) → stsF t = 0
  | [], _ => rfl
  | x :: r, h => by rw [stsF, if_pos (h x (by simp))]; exact stsF_of fun e he => h e (by simp [he])
theorem pgF_tr {t : List (List Ev)} (h : pgF t = 0) : trF t = 0 := by
  obtain ⟨h1, h2⟩ := pgF_zero h
  unfold trF
  rw [if_pos h1]
  refine stsF_of fun l hl => ?_
  obtain ⟨a, b⟩ := h2 l hl
  unfold stF
  rw [if_pos a]
  exact evsF_of fun e he => opF_ev (b e he)
def simC (t : List (List Ev)) (L : Int) (picks : List Int) : Int := if pgF t = 0 then (if 1 ≤ L ∧ L ≤ 4 then (if picks.length ≤ 100 then 0 else 2) else 3) else pgF t
def simL (t : List (List Ev)) (L : Int) (picks : List Int) : List Stp × Mac := runL (newM t.length L.toNat) (logO t (ordF t picks))
theorem simC_zero {t : List (List Ev)} {L : Int} {picks : List Int} (h : simC t L picks = 0) : pgF t = 0 ∧ (1 ≤ L ∧ L ≤ 4) ∧ picks.length ≤ 100 := by
  unfold simC at h
  by_cases h1 : pgF t = 0
  · rw [if_pos h1] at h
    by_cases h2 : 1 ≤ L ∧ L ≤ 4
    · rw [if_pos h2] at h
      by_cases h3 : picks.length ≤ 100
      · exact ⟨h1, h2, h3⟩
      · rw [if_neg h3] at h; omega
    · rw [if_neg h2] at h; omega
  · rw [if_neg h1] at h; exact absurd h h1
theorem simC_ok {t : List (List Ev)} {L : Int} {picks : List Int} (h1 : pgF t = 0) (h2 : 1 ≤ L ∧ L ≤ 4) (h3 : picks.length ≤ 100) : simC t L picks = 0 := by unfold simC; rw [if_pos h1, if_pos h2, if_pos h3]
/-- A machine does what one memory would do; its log and itself have no fault. -/
theorem sim_ok {t : List (List Ev)} {L : Int} {picks : List Int} (h : pgF t = 0) (hL : 1 ≤ L ∧ L ≤ 4) :
    (simL t L picks).1 = flatL (fun _ => 0) (logO t (ordF t picks)) ∧ GoodM t.length L.toNat (simL t L picks).2 ∧ macF (simL t L picks).2 = 0 ∧ logF (simL t L picks).1 (t.length : Int) = 0 := by
  obtain ⟨h1, h2⟩ := pgF_zero h
  have hF := logF_logO (picks := picks) (pgF_tr h)
  obtain ⟨f1, f2, f3, f4⟩ := logF_zero hF
  have hall : ∀ s ∈ logO t (ordF t picks), (0 ≤ s.c ∧ s.c < (t.length : Int)) ∧ opF s.e = 0 := fun s hs => by
    obtain ⟨a, l, hl, he⟩ := logO_mem (ordF_ok t picks) hs
    exact ⟨a, (h2 l hl).2 _ he⟩
  obtain ⟨r1, r2, r3, r4⟩ := run_ok (n := t.length) (L := L.toNat) (logO t (ordF t picks)) (newM t.length L.toNat) (fun _ => 0) [] (new_good (by omega)) hall (new_has _ _) (new_src _ _)
  unfold simL
  refine ⟨r1, r2, macF_good r2 ?_, logF_few f1 (by rw [run_len]; exact f2) (logG_of fun s hs => ⟨?_, r4 s hs⟩) ?_⟩
  · have e1 := rise_len _ _ r2.ris r3.1
    have e2 := stoS_len (logO t (ordF t picks)) []
    simp only [List.length_nil] at e2
    omega
  · have hm : s.c ∈ (runL (newM t.length L.toNat) (logO t (ordF t picks))).1.map (·.c) := List.mem_map_of_mem hs
    rw [run_map] at hm
    obtain ⟨x, hx, e⟩ := List.mem_map.1 hm
    have := (hall x hx).1
    omega
  · obtain ⟨g0, g1, g2, g3⟩ := f4
    exact ⟨by rw [run_cnt]; exact g0, by rw [run_cnt]; exact g1, by rw [run_cnt]; exact g2, by rw [run_cnt]; exact g3⟩
end Go.Proofs.Ytifijhfeeammkaa
