/- Plain mathematics of traces as texts. No function of the program is named here. -/
import Derived.Test.YtmdaianbhpppfaaDoorTxMath
import Derived.Test.YtmdaianbhpppfaaDoorEvBase
namespace Go.Proofs.YtmdaianbhpppfaaDoor
open Go.RowKit

/-- An event's text; the lines of a row of events; of cores from number i on; a trace's text. -/
def txE (e : Ev) : List Int := [if e.k = 1 then 119 else 114, 32, 48, 120] ++ (digL 16 e.a.toNat ++ ([32] ++ digL 10 e.v.toNat))
def prC : List Ev → List Int
  | [] => []
  | e :: r => txE e ++ ([10] ++ prC r)
def prS : Nat → List (List Ev) → List Int
  | _, [] => []
  | i, l :: r => [99, 111, 114, 101, 32] ++ (digL 10 i ++ ([10] ++ (prC l ++ prS (i + 1) r)))
def prL (t : List (List Ev)) : List Int := [116, 114, 97, 99, 101, 32] ++ (digL 10 t.length ++ ([10] ++ prS 0 t))

/-- A row of signs cut at a sign. -/
def cutS (s : Int) : List Int → List Int → List (List Int)
  | cur, [] => [cur]
  | cur, c :: r => if c = s then cur :: cutS s [] r else cutS s (cur ++ [c]) r
theorem cutS_no {s : Int} : ∀ (x cur r : List Int), (∀ c ∈ x, c ≠ s) → cutS s cur (x ++ r) = cutS s (cur ++ x) r
  | [], cur, r, _ => by simp
  | c :: x, cur, r, h => by
    rw [List.cons_append, cutS, if_neg (h c (List.mem_cons_self ..)), cutS_no x _ r (fun d hd => h d (List.mem_cons_of_mem _ hd)), List.append_assoc]
    rfl
theorem cutS_at {s : Int} (x cur r : List Int) (h : ∀ c ∈ x, c ≠ s) : cutS s cur (x ++ ([s] ++ r)) = (cur ++ x) :: cutS s [] r := by
  rw [cutS_no x cur _ h]
  show cutS s (cur ++ x) (s :: r) = _
  rw [cutS, if_pos rfl]
theorem cutS_end {s : Int} (x cur : List Int) (h : ∀ c ∈ x, c ≠ s) : cutS s cur x = [cur ++ x] := by
  have := cutS_no x cur [] h
  rw [List.append_nil] at this
  rw [this]; rfl

/-- What the word of an address is; -1: none. -/
def hexV (w : List Int) : Int := if w.length < 3 ∨ w.take 2 ≠ [48, 120] then -1 else (if 999999 < numL 16 5 (w.drop 2) then -1 else numL 16 5 (w.drop 2))
/-- The event of a line. -/
def lnE (ws : List (List Int)) : Ev := ⟨if ws.getD 0 [] = [119] then 1 else 0, hexV (ws.getD 1 []), numL 10 6 (ws.getD 2 [])⟩
def lnOk (ws : List (List Int)) : Prop := ws.length = 3 ∧ (ws.getD 0 [] = [114] ∨ ws.getD 0 [] = [119]) ∧ evF (lnE ws) = 0
/-- An event behind the last row. -/
def addE (out : List (List Ev)) (e : Ev) : List (List Ev) := out.set (out.length - 1) (out.getD (out.length - 1) [] ++ [e])
instance (ws : List (List Int)) : Decidable (lnOk ws) := by unfold lnOk; infer_instance
def parS : List (List Ev) → List (List Int) → List (List Ev)
  | out, [] => out
  | out, ln :: r =>
    if 4 < ln.length ∧ ln.take 4 = [99, 111, 114, 101] then parS (out ++ [[]]) r
    else if lnOk (cutS 32 [] ln) ∧ 0 < out.length then parS (addE out (lnE (cutS 32 [] ln))) r else parS out r
def parL (l : List Int) : List (List Ev) := parS [] ((cutS 10 [] l).drop 1)
/-- The reading of a text. -/
def psC (l : List Int) : Int := if l.length ≤ 2000 then (if trF (parL l) = 0 ∧ prL (parL l) = l then 0 else 5) else 2
def psT (l : List Int) : List (List Ev) := if psC l = 0 then parL l else []

theorem dg_sign {n : Nat} (h : n < 16) : 48 ≤ dg n ∧ dg n ≤ 102 := by unfold dg; split <;> omega
theorem digS_sign {b : Nat} (hb : 2 ≤ b) (hb16 : b ≤ 16) : ∀ (f n : Nat), ∀ c ∈ digS b f n, 48 ≤ c ∧ c ≤ 102
  | 0, n => fun x hx => by simp [digS] at hx
  | f + 1, n => by
    unfold digS
    by_cases hn : n < b
    · rw [if_pos hn]; intro c hc; simp only [List.mem_singleton] at hc; rw [hc]; exact dg_sign (by omega)
    · have := Nat.mod_lt n (show 0 < b by omega)
      rw [if_neg hn]
      intro c hc
      rcases List.mem_append.1 hc with hc | hc
      · exact digS_sign hb hb16 f _ c hc
      · simp only [List.mem_singleton] at hc; rw [hc]; exact dg_sign (by omega)
theorem digL_sign {b : Nat} (hb : 2 ≤ b) (hb16 : b ≤ 16) (n : Nat) : ∀ c ∈ digL b n, 48 ≤ c ∧ c ≤ 102 := digS_sign hb hb16 _ _

theorem hexV_back {n : Nat} (h : n ≤ 999999) : hexV ([48, 120] ++ digL 16 n) = n := by
  have hl := digL_len (b := 16) (by omega) 4 n (by omega)
  have hp := digL_pos (b := 16) (by omega) n
  have hn := numL_back (b := 16) (most := 5) (n := n) (by omega) (by omega) hl
  have hn' : numL 16 5 (digL 16 n) = (n : Int) := hn
  unfold hexV
  rw [if_neg (by
    rintro (h1 | h1)
    · simp at h1; omega
    · exact h1 rfl)]
  show (if 999999 < numL 16 5 (digL 16 n) then -1 else numL 16 5 (digL 16 n)) = _
  rw [hn', if_neg (by omega)]
theorem txE_cut (e : Ev) : cutS 32 [] (txE e) = [[if e.k = 1 then 119 else 114], [48, 120] ++ digL 16 e.a.toNat, digL 10 e.v.toNat] := by
  have s1 : ∀ c ∈ ([48, 120] : List Int) ++ digL 16 e.a.toNat, c ≠ 32 := fun c hc => by
    rcases List.mem_append.1 hc with hc | hc
    · simp at hc; omega
    · have := digL_sign (b := 16) (by omega) (by omega) _ c hc; omega
  have s2 : ∀ c ∈ digL 10 e.v.toNat, c ≠ 32 := fun c hc => by have := digL_sign (b := 10) (by omega) (by omega) _ c hc; omega
  have s0 : ∀ c ∈ ([if e.k = 1 then 119 else 114] : List Int), c ≠ 32 := fun c hc => by
    simp only [List.mem_singleton] at hc
    rw [hc]; split <;> omega
  have e1 : txE e = [if e.k = 1 then 119 else 114] ++ ([32] ++ (([48, 120] ++ digL 16 e.a.toNat) ++ ([32] ++ digL 10 e.v.toNat))) := by unfold txE; simp
  rw [e1, cutS_at _ _ _ s0, cutS_at _ _ _ s1, cutS_end _ _ s2]
  simp
theorem txE_back {e : Ev} (h : evF e = 0) : lnOk (cutS 32 [] (txE e)) ∧ lnE (cutS 32 [] (txE e)) = e := by
  have hv := evF_zero h
  have hE : lnE (cutS 32 [] (txE e)) = e := by
    rw [txE_cut e]
    unfold lnE
    simp only [List.getD_cons_zero, List.getD_cons_succ]
    have ha := hexV_back (n := e.a.toNat) (by omega)
    have hl := digL_len (b := 10) (by omega) 5 e.v.toNat (by omega)
    have hn : numL 10 6 (digL 10 e.v.toNat) = (e.v.toNat : Int) := numL_back (b := 10) (most := 6) (by omega) (by omega) hl
    rw [ha, hn]
    obtain ⟨k, a, v⟩ := e
    simp only at hv ⊢
    have hk : k = 0 ∨ k = 1 := by omega
    rcases hk with rfl | rfl <;> simp <;> omega
  refine ⟨⟨by rw [txE_cut e]; rfl, ?_, by rw [hE]; exact h⟩, hE⟩
  rw [txE_cut e]
  simp only [List.getD_cons_zero]
  by_cases hk : e.k = 1
  · rw [if_pos hk]; exact .inr rfl
  · rw [if_neg hk]; exact .inl rfl
theorem txE_sign (e : Ev) : (∀ c ∈ txE e, c ≠ 10) ∧ ∀ r : List Int, (txE e ++ r).take 4 ≠ [99, 111, 114, 101] := by
  refine ⟨fun c hc => ?_, fun r h => ?_⟩
  · unfold txE at hc
    rcases List.mem_append.1 hc with hc | hc
    · simp only [List.mem_cons, List.not_mem_nil, or_false] at hc
      rcases hc with hc | hc | hc | hc
      · rw [hc]; split <;> omega
      · omega
      · omega
      · omega
    · rcases List.mem_append.1 hc with hc | hc
      · have := digL_sign (b := 16) (by omega) (by omega) _ c hc; omega
      · rcases List.mem_append.1 hc with hc | hc
        · simp at hc; omega
        · have := digL_sign (b := 10) (by omega) (by omega) _ c hc; omega
  · have := congrArg (fun l => l.getD 0 0) h
    unfold txE at this
    simp at this
    split at this <;> omega
theorem addE_last (out : List (List Ev)) (l : List Ev) (e : Ev) : addE (out ++ [l]) e = out ++ [l ++ [e]] := by
  unfold addE
  simp
theorem parS_events : ∀ (es : List Ev) (out : List (List Ev)) (l : List Ev) (r : List Int), (∀ e ∈ es, evF e = 0) → parS (out ++ [l]) (cutS 10 [] (prC es ++ r)) = parS (out ++ [l ++ es]) (cutS 10 [] r)
  | [], out, l, r, _ => by simp [prC]
  | e :: es, out, l, r, h => by
    obtain ⟨b1, b2⟩ := txE_back (h e (List.mem_cons_self ..))
    obtain ⟨s1, s2⟩ := txE_sign e
    have e1 : prC (e :: es) ++ r = txE e ++ ([10] ++ (prC es ++ r)) := by simp [prC]
    rw [e1, cutS_at _ _ _ s1, List.nil_append]
    conv => lhs; unfold parS
    rw [if_neg (fun h => by have := s2 []; rw [List.append_nil] at this; exact this h.2), if_pos ⟨b1, by simp⟩, b2, addE_last, parS_events es out _ r (fun x hx => h x (List.mem_cons_of_mem _ hx))]
    simp
theorem parS_cores : ∀ (r : List (List Ev)) (i : Nat) (out : List (List Ev)), (∀ l ∈ r, ∀ e ∈ l, evF e = 0) → parS out (cutS 10 [] (prS i r)) = out ++ r
  | [], i, out, _ => by
    simp only [prS, cutS, List.append_nil]
    unfold parS
    rw [if_neg (fun h => by simp at h), if_neg (fun h => by have := h.1.1; simp [cutS] at this)]
    rfl
  | l :: r, i, out, h => by
    have s1 : ∀ c ∈ ([99, 111, 114, 101, 32] : List Int) ++ digL 10 i, c ≠ 10 := fun c hc => by
      rcases List.mem_append.1 hc with hc | hc
      · simp at hc; omega
      · have := digL_sign (b := 10) (by omega) (by omega) _ c hc; omega
    have e1 : prS i (l :: r) = ([99, 111, 114, 101, 32] ++ digL 10 i) ++ ([10] ++ (prC l ++ prS (i + 1) r)) := by simp [prS]
    rw [e1, cutS_at _ _ _ s1, List.nil_append]
    conv => lhs; unfold parS
    rw [if_pos ⟨by simp, by simp⟩, parS_events l out [] _ (h l (List.mem_cons_self ..)), parS_cores r (i + 1) _ (fun x hx => h x (List.mem_cons_of_mem _ hx))]
    simp
theorem evs_right {l : List Ev} (h : stF l = 0) : ∀ e ∈ l, evF e = 0 := evsF_all (stF_zero h).2
/-- A right trace: its cores are right, and few (the same stands in FilMath, which wants much more). -/
theorem stsT_all : ∀ {t : List (List Ev)}, stsF t = 0 → ∀ l ∈ t, stF l = 0
  | [], _, l, h => by simp at h
  | x :: r, h, l, hl => by
    unfold stsF at h
    by_cases h0 : stF x = 0
    · rw [if_pos h0] at h
      rcases List.mem_cons.1 hl with rfl | hl
      · exact h0
      · exact stsT_all h l hl
    · rw [if_neg h0] at h; exact absurd h h0
theorem trT_zero {t : List (List Ev)} (h : trF t = 0) : 1 ≤ t.length ∧ t.length ≤ 4 ∧ ∀ l ∈ t, stF l = 0 := by
  unfold trF at h
  by_cases h1 : 1 ≤ t.length ∧ t.length ≤ 4
  · rw [if_pos h1] at h; exact ⟨h1.1, h1.2, stsT_all h⟩
  · rw [if_neg h1] at h; omega
/-- A trace is read back from its text. -/
theorem parL_back {t : List (List Ev)} (h : trF t = 0) : parL (prL t) = t := by
  obtain ⟨_, _, hall⟩ := trT_zero h
  have s1 : ∀ c ∈ ([116, 114, 97, 99, 101, 32] : List Int) ++ digL 10 t.length, c ≠ 10 := fun c hc => by
    rcases List.mem_append.1 hc with hc | hc
    · simp at hc; omega
    · have := digL_sign (b := 10) (by omega) (by omega) _ c hc; omega
  have e1 : prL t = ([116, 114, 97, 99, 101, 32] ++ digL 10 t.length) ++ ([10] ++ prS 0 t) := by simp [prL]
  unfold parL
  rw [e1, cutS_at _ _ _ s1]
  simp only [List.drop_succ_cons, List.drop_zero]
  have := parS_cores t 0 [] (fun l hl => evs_right (hall l hl))
  rw [this, List.nil_append]
end Go.Proofs.YtmdaianbhpppfaaDoor
