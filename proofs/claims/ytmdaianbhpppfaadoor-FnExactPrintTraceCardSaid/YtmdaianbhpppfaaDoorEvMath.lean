/- Plain mathematics of chapter 2: events, their faults, their bytes and how these are read back. No program is named here. -/
import Derived.Test.YtmdaianbhpppfaaDoorNums
import Derived.Test.YtmdaianbhpppfaaDoorReadMath2
namespace Go.Proofs.YtmdaianbhpppfaaDoor
open Go.RowKit

/-- An event: kind, address, value. -/
structure Ev where
  k : Int
  a : Int
  v : Int

def I64 (n : Int) : Prop := -9223372036854775808 ≤ n ∧ n ≤ 9223372036854775807
def Ev.ok (e : Ev) : Prop := I64 e.k ∧ I64 e.a ∧ I64 e.v
def OkE (es : List Ev) : Prop := ∀ e ∈ es, e.ok
theorem OkE.get {es : List Ev} (h : OkE es) (i : Nat) (hi : i < es.length) : es[i].ok := h _ (List.getElem_mem hi)

/-- The events' cells, one behind the other. -/
def Ev.row (e : Ev) : List Value := [.int .i64 e.k, .int .i64 e.a, .int .i64 e.v]
def evs : List Ev → List Value
  | [] => []
  | e :: r => .int .i64 e.k :: .int .i64 e.a :: .int .i64 e.v :: evs r
theorem evs_length : ∀ es : List Ev, (evs es).length = es.length * 3
  | [] => rfl
  | e :: r => by simp only [evs, List.length_cons, evs_length r]; omega
theorem evs_append : ∀ (l m : List Ev), evs (l ++ m) = evs l ++ evs m
  | [], _ => rfl
  | e :: r, m => by simp only [evs, List.cons_append, evs_append r m]
theorem evs_get : ∀ (es : List Ev) (i : Nat) (h : i < es.length), (evs es)[i * 3]? = some (.int .i64 es[i].k) ∧ (evs es)[i * 3 + 1]? = some (.int .i64 es[i].a) ∧ (evs es)[i * 3 + 2]? = some (.int .i64 es[i].v)
  | [], i, h => absurd h (Nat.not_lt_zero _)
  | e :: r, 0, _ => ⟨rfl, rfl, rfl⟩
  | e :: r, i + 1, h => by
    have ih := evs_get r i (by simpa using h)
    rw [show (i + 1) * 3 = i * 3 + 1 + 1 + 1 by omega]
    simp only [evs, List.getElem?_cons_succ, List.getElem_cons_succ]
    exact ih
theorem evs_take : ∀ (es : List Ev) (i : Nat), evs (es.take i) = (evs es).take (i * 3)
  | [], i => by simp [evs]
  | e :: r, 0 => by simp [evs]
  | e :: r, i + 1 => by
    rw [show (i + 1) * 3 = i * 3 + 1 + 1 + 1 by omega]
    simp only [List.take_succ_cons, evs, evs_take r i]

/-- The fault of an event, of steps, of a trace. -/
def evF (e : Ev) : Int := if e.k = 0 ∨ e.k = 1 then (if 0 ≤ e.a ∧ e.a ≤ 999999 ∧ 0 ≤ e.v ∧ e.v ≤ 999999 then 0 else 3) else 1
def evsF : List Ev → Int
  | [] => 0
  | e :: r => if evF e = 0 then evsF r else evF e
def stF (es : List Ev) : Int := if es.length ≤ 8 then evsF es else 2
def stsF : List (List Ev) → Int
  | [] => 0
  | l :: r => if stF l = 0 then stsF r else stF l
def trF (t : List (List Ev)) : Int := if 1 ≤ t.length ∧ t.length ≤ 4 then stsF t else 2
theorem evF_form {e : Ev} (h : ¬ (e.k = 0 ∨ e.k = 1)) : evF e = 1 := if_neg h
theorem evF_range {e : Ev} (h : e.k = 0 ∨ e.k = 1) (h' : ¬ (0 ≤ e.a ∧ e.a ≤ 999999 ∧ 0 ≤ e.v ∧ e.v ≤ 999999)) : evF e = 3 := by unfold evF; rw [if_pos h, if_neg h']
theorem evF_ok {e : Ev} (h : e.k = 0 ∨ e.k = 1) (h' : 0 ≤ e.a ∧ e.a ≤ 999999 ∧ 0 ≤ e.v ∧ e.v ≤ 999999) : evF e = 0 := by unfold evF; rw [if_pos h, if_pos h']
theorem evF_zero {e : Ev} (h : evF e = 0) : (e.k = 0 ∨ e.k = 1) ∧ 0 ≤ e.a ∧ e.a ≤ 999999 ∧ 0 ≤ e.v ∧ e.v ≤ 999999 := by
  unfold evF at h
  by_cases h1 : e.k = 0 ∨ e.k = 1
  · by_cases h2 : 0 ≤ e.a ∧ e.a ≤ 999999 ∧ 0 ≤ e.v ∧ e.v ≤ 999999
    · exact ⟨h1, h2⟩
    · rw [if_pos h1, if_neg h2] at h; omega
  · rw [if_neg h1] at h; omega
theorem evF_cases (e : Ev) : evF e = 0 ∨ evF e = 1 ∨ evF e = 3 := by
  unfold evF
  split
  · split
    · exact .inl rfl
    · exact .inr (.inr rfl)
  · exact .inr (.inl rfl)
theorem evsF_drop (es : List Ev) (i : Nat) (h : i < es.length) : evsF (es.drop i) = if evF es[i] = 0 then evsF (es.drop (i + 1)) else evF es[i] := by
  rw [List.drop_eq_getElem_cons h, evsF]
theorem evsF_next {es : List Ev} {i : Nat} (h : i < es.length) (h0 : evF es[i] = 0) : evsF (es.drop i) = evsF (es.drop (i + 1)) := by rw [evsF_drop es i h, if_pos h0]
theorem evsF_stop {es : List Ev} {i : Nat} (h : i < es.length) (h0 : ¬ evF es[i] = 0) : evsF (es.drop i) = evF es[i] := by rw [evsF_drop es i h, if_neg h0]
theorem evsF_end {es : List Ev} {i : Nat} (h : ¬ i < es.length) : evsF (es.drop i) = 0 := by rw [List.drop_eq_nil_of_le (by omega)]; rfl
theorem stsF_drop (t : List (List Ev)) (i : Nat) (h : i < t.length) : stsF (t.drop i) = if stF t[i] = 0 then stsF (t.drop (i + 1)) else stF t[i] := by
  rw [List.drop_eq_getElem_cons h, stsF]
theorem stsF_next {t : List (List Ev)} {i : Nat} (h : i < t.length) (h0 : stF t[i] = 0) : stsF (t.drop i) = stsF (t.drop (i + 1)) := by rw [stsF_drop t i h, if_pos h0]
theorem stsF_stop {t : List (List Ev)} {i : Nat} (h : i < t.length) (h0 : ¬ stF t[i] = 0) : stsF (t.drop i) = stF t[i] := by rw [stsF_drop t i h, if_neg h0]
theorem stsF_end {t : List (List Ev)} {i : Nat} (h : ¬ i < t.length) : stsF (t.drop i) = 0 := by rw [List.drop_eq_nil_of_le (by omega)]; rfl
theorem stF_many {es : List Ev} (h : ¬ es.length ≤ 8) : stF es = 2 := if_neg h
theorem stF_few {es : List Ev} (h : es.length ≤ 8) : stF es = evsF es := if_pos h
theorem evsF_cases : ∀ es : List Ev, evsF es = 0 ∨ evsF es = 1 ∨ evsF es = 3
  | [] => .inl rfl
  | e :: r => by
    rw [evsF]
    split
    · exact evsF_cases r
    · exact evF_cases e
theorem stF_cases (es : List Ev) : stF es = 0 ∨ stF es = 1 ∨ stF es = 2 ∨ stF es = 3 := by
  unfold stF
  split
  · rcases evsF_cases es with h | h | h
    · exact .inl h
    · exact .inr (.inl h)
    · exact .inr (.inr (.inr h))
  · exact .inr (.inr (.inl rfl))
theorem evsF_all {es : List Ev} (h : evsF es = 0) : ∀ e ∈ es, evF e = 0 := by
  induction es with
  | nil => intro e he; simp at he
  | cons x r ih =>
    rw [evsF] at h
    by_cases hx : evF x = 0
    · rw [if_pos hx] at h
      intro e he
      rcases List.mem_cons.1 he with rfl | he
      · exact hx
      · exact ih h e he
    · rw [if_neg hx] at h
      exact absurd h hx
theorem stF_zero {es : List Ev} (h : stF es = 0) : es.length ≤ 8 ∧ evsF es = 0 := by
  by_cases h8 : es.length ≤ 8
  · exact ⟨h8, by rw [← stF_few h8]; exact h⟩
  · rw [stF_many h8] at h; omega

/-- The bytes of steps; p: the address ahead. -/
def evB (p : Int) (e : Ev) : List Int := putL (2 * zigI (e.a - p) + e.k) ++ putL e.v
def packL : Int → List Ev → List Int
  | _, [] => []
  | p, e :: r => evB p e ++ packL e.a r
def lastA : Int → List Ev → Int
  | p, [] => p
  | _, e :: r => lastA e.a r
theorem packL_snoc : ∀ (p : Int) (l : List Ev) (e : Ev), packL p (l ++ [e]) = packL p l ++ evB (lastA p l) e
  | p, [], e => by simp [packL, lastA]
  | p, x :: r, e => by simp [packL, lastA, packL_snoc x.a r e]
theorem lastA_snoc : ∀ (p : Int) (l : List Ev) (e : Ev), lastA p (l ++ [e]) = e.a
  | p, [], e => rfl
  | p, x :: r, e => by simp [lastA, lastA_snoc x.a r e]
theorem lastA_in : ∀ (p : Int) (l : List Ev), (∀ e ∈ l, evF e = 0) → 0 ≤ p ∧ p ≤ 999999 → 0 ≤ lastA p l ∧ lastA p l ≤ 999999
  | p, [], _, h => h
  | p, x :: r, hl, h => by
    have := evF_zero (hl x (by simp))
    exact lastA_in x.a r (fun e he => hl e (by simp [he])) (by omega)
theorem take_snoc {α : Type} (l : List α) (i : Nat) (h : i < l.length) : l.take (i + 1) = l.take i ++ [l[i]] := List.take_succ_eq_append_getElem h
/-- What is put for one event stays within its bounds. -/
theorem zigI_in {n : Int} (h : -999999 ≤ n ∧ n ≤ 999999) : 0 ≤ zigI n ∧ zigI n ≤ 1999998 := by
  by_cases h0 : 0 ≤ n
  · rw [zigI_pos h0]; omega
  · rw [zigI_neg h0]; omega
theorem evB_in {p : Int} {e : Ev} (h : evF e = 0) (hp : 0 ≤ p ∧ p ≤ 999999) : 0 ≤ 2 * zigI (e.a - p) + e.k ∧ 2 * zigI (e.a - p) + e.k ≤ 3999997 ∧ 0 ≤ e.v ∧ e.v ≤ 999999 := by
  have h1 := evF_zero h
  have h2 := zigI_in (n := e.a - p) (by omega)
  omega
theorem evB_len {p : Int} {e : Ev} (h : evF e = 0) (hp : 0 ≤ p ∧ p ≤ 999999) : 2 ≤ (evB p e).length ∧ (evB p e).length ≤ 18 := by
  have h1 := evB_in h hp
  have a := putL_len h1.1 (by omega)
  have b := putL_len h1.2.2.1 (by omega)
  have c := putL_pos (2 * zigI (e.a - p) + e.k)
  have d := putL_pos e.v
  unfold evB
  rw [List.length_append]
  omega
theorem evB_B8 {p : Int} {e : Ev} (h : evF e = 0) (hp : 0 ≤ p ∧ p ≤ 999999) : B8 (evB p e) := by
  have h1 := evB_in h hp
  exact (putL_B8 _ _ h1.1 (Nat.le_refl _)).append (putL_B8 _ _ h1.2.2.1 (Nat.le_refl _))
theorem packL_len : ∀ (es : List Ev) (p : Int), evsF es = 0 → 0 ≤ p ∧ p ≤ 999999 → (packL p es).length ≤ 18 * es.length
  | [], p, _, _ => by simp [packL]
  | e :: r, p, h, hp => by
    have h0 := evsF_all h
    have he := h0 e (by simp)
    rw [evsF, if_pos he] at h
    have h1 := packL_len r e.a h (by have := evF_zero he; omega)
    have h2 := evB_len he hp
    simp only [packL, List.length_append, List.length_cons]
    omega
theorem packL_B8 : ∀ (es : List Ev) (p : Int), evsF es = 0 → 0 ≤ p ∧ p ≤ 999999 → B8 (packL p es)
  | [], p, _, _ => by intro x hx; simp [packL] at hx
  | e :: r, p, h, hp => by
    have he := evsF_all h e (by simp)
    rw [evsF, if_pos he] at h
    exact (evB_B8 he hp).append (packL_B8 r e.a h (by have := evF_zero he; omega))
def pkC (es : List Ev) : Int := stF es
def pkB (es : List Ev) : List Int := if stF es = 0 then packL 0 es else []
theorem pk_bad {es : List Ev} (h : ¬ stF es = 0) : pkB es = [] := if_neg h
theorem pk_ok {es : List Ev} (h : stF es = 0) : pkB es = packL 0 es := if_pos h
theorem pkB_len (es : List Ev) : (pkB es).length ≤ 144 := by
  by_cases h : stF es = 0
  · rw [pk_ok h]
    have h1 := stF_zero h
    have := packL_len es 0 h1.2 (by omega)
    omega
  · rw [pk_bad h]; simp
theorem pkB_B8 (es : List Ev) : B8 (pkB es) := by
  by_cases h : stF es = 0
  · rw [pk_ok h]; exact packL_B8 es 0 (stF_zero h).2 (by omega)
  · rw [pk_bad h]; intro x hx; simp at hx

/-- The event that bytes begin with, and how many bytes it has. -/
noncomputable def nextV (d : List Int) : List Int := d.drop (rdZ d).toNat
noncomputable def evAt (d : List Int) (p : Int) : Ev := ⟨rdV d % 2, p + zagI (rdV d / 2), rdV (nextV d)⟩
def evGood (d : List Int) (p : Int) : Prop := rdC d = 0 ∧ rdC (nextV d) = 0 ∧ zagC (rdV d / 2) = 0 ∧ evF (evAt d p) = 0
noncomputable instance (d : List Int) (p : Int) : Decidable (evGood d p) := by unfold evGood; infer_instance
noncomputable def evZ (d : List Int) : Nat := (rdZ d + rdZ (nextV d)).toNat
/-- The events of bytes, k at most. -/
noncomputable def unpN : Nat → List Int → Int → Option (List Ev)
  | 0, d, _ => if d = [] then some [] else none
  | k + 1, d, p => if d = [] then some [] else if evGood d p then (unpN k (d.drop (evZ d)) (evAt d p).a).map (evAt d p :: ·) else none
noncomputable def unC (d : List Int) : Int := if d.length ≤ 4000 then (if (unpN 8 d 0).isSome = true then 0 else 5) else 2
noncomputable def unE (d : List Int) : List Ev := if d.length ≤ 4000 then (unpN 8 d 0).getD [] else []
theorem un_long {d : List Int} (h : ¬ d.length ≤ 4000) : unC d = 2 ∧ unE d = [] := ⟨if_neg h, if_neg h⟩
theorem un_none {d : List Int} (h : d.length ≤ 4000) (h0 : unpN 8 d 0 = none) : unC d = 5 ∧ unE d = [] := by unfold unC unE; rw [if_pos h, if_pos h, h0]; exact ⟨rfl, rfl⟩
theorem un_some {d : List Int} {es : List Ev} (h : d.length ≤ 4000) (h0 : unpN 8 d 0 = some es) : unC d = 0 ∧ unE d = es := by unfold unC unE; rw [if_pos h, if_pos h, h0]; exact ⟨rfl, rfl⟩
theorem nextV_len {d : List Int} (b : B8 d) (h : rdC d = 0) : (nextV d).length = d.length - (rdZ d).toNat ∧ 1 ≤ rdZ d ∧ rdZ d ≤ d.length := by
  have := rd_back b h
  unfold nextV
  rw [List.length_drop]
  omega
theorem evZ_le {d : List Int} {p : Int} (b : B8 d) (h : evGood d p) : 2 ≤ evZ d ∧ evZ d ≤ d.length ∧ (evZ d : Int) = rdZ d + rdZ (nextV d) ∧ 1 ≤ rdZ d ∧ rdZ d ≤ d.length ∧ 1 ≤ rdZ (nextV d) := by
  obtain ⟨h1, h2, _⟩ := h
  have a := nextV_len b h1
  have c := nextV_len (d := nextV d) (b.drop _) h2
  unfold evZ
  omega
/-- What is read as events was put just so. -/
theorem evB_of {d : List Int} {p : Int} (b : B8 d) (h : evGood d p) : evB p (evAt d p) = d.take (evZ d) := by
  have hz := evZ_le b h
  obtain ⟨h1, h2, h3, h4⟩ := h
  have r1 := rd_back b h1
  have r2 := rd_back (l := nextV d) (b.drop _) h2
  have hn : 0 ≤ rdV d / 2 ∧ rdV d / 2 ≤ 2000000000000 := by
    by_cases hh : 0 ≤ rdV d / 2 ∧ rdV d / 2 ≤ 2000000000000
    · exact hh
    · rw [(zag_out hh).1] at h3; omega
  have hzz := zig_zag h3
  have hin : -1000000000000 ≤ zagI (rdV d / 2) ∧ zagI (rdV d / 2) ≤ 1000000000000 := by
    by_cases h0 : rdV d / 2 % 2 = 0
    · rw [zagI_even h0]; omega
    · rw [zagI_odd h0]; omega
  rw [(zag_in hn).2, (zig_in hin).2] at hzz
  unfold evB evAt
  simp only
  rw [show p + zagI (rdV d / 2) - p = zagI (rdV d / 2) by omega, hzz.2, show 2 * (rdV d / 2) + rdV d % 2 = rdV d by omega, r1.2.2.2.2, r2.2.2.2.2]
  unfold nextV at *
  have e1 : evZ d = (rdZ d).toNat + (rdZ (d.drop (rdZ d).toNat)).toNat := by omega
  rw [e1, List.take_add]
theorem pack_unp : ∀ (k : Nat) (d : List Int) (p : Int) (es : List Ev), B8 d → unpN k d p = some es → packL p es = d ∧ evsF es = 0 ∧ es.length ≤ k
  | 0, d, p, es, b, h => by
    unfold unpN at h
    by_cases hd : d = []
    · rw [if_pos hd] at h
      obtain rfl := Option.some.inj h
      exact ⟨by rw [hd]; rfl, rfl, by simp⟩
    · rw [if_neg hd] at h
      exact absurd h (by simp)
  | k + 1, d, p, es, b, h => by
    unfold unpN at h
    by_cases hd : d = []
    · rw [if_pos hd] at h
      obtain rfl := Option.some.inj h
      exact ⟨by rw [hd]; rfl, rfl, by simp⟩
    · rw [if_neg hd] at h
      by_cases hg : evGood d p
      · rw [if_pos hg, Option.map_eq_some_iff] at h
        obtain ⟨r, h1, rfl⟩ := h
        obtain ⟨i1, i2, i3⟩ := pack_unp k _ _ r (b.drop _) h1
        refine ⟨?_, ?_, by simp; omega⟩
        · rw [packL, evB_of b hg, i1, List.take_append_drop]
        · rw [evsF, if_pos hg.2.2.2, i2]
      · rw [if_neg hg] at h
        exact absurd h (by simp)
/-- What is put is read as it was. -/
theorem ev_app (e : Ev) (p : Int) (r : List Int) (h : evF e = 0) (hp : 0 ≤ p ∧ p ≤ 999999) : evGood (evB p e ++ r) p ∧ evAt (evB p e ++ r) p = e ∧ evZ (evB p e ++ r) = (evB p e).length := by
  have hb := evB_in h hp
  have he := evF_zero h
  have a := rd_app (2 * zigI (e.a - p) + e.k) (putL e.v ++ r) hb.1 (by omega)
  have c := rd_app e.v r hb.2.2.1 (by omega)
  have e0 : evB p e ++ r = putL (2 * zigI (e.a - p) + e.k) ++ (putL e.v ++ r) := by unfold evB; rw [List.append_assoc]
  rw [← e0] at a
  have hn : nextV (evB p e ++ r) = putL e.v ++ r := by
    unfold nextV
    rw [a.2.2, Int.toNat_natCast, e0, List.drop_left]
  have hzi := zigI_in (n := e.a - p) (by omega)
  have hzz := zag_zig (n := e.a - p) (by rw [(zig_in (n := e.a - p) (by omega)).1])
  rw [(zig_in (n := e.a - p) (by omega)).2, (zag_in (n := zigI (e.a - p)) (by omega)).2] at hzz
  have hd : rdV (evB p e ++ r) / 2 = zigI (e.a - p) := by rw [a.2.1]; omega
  have hm : rdV (evB p e ++ r) % 2 = e.k := by rw [a.2.1]; omega
  have hat : evAt (evB p e ++ r) p = e := by
    unfold evAt
    rw [hd, hm, hn, hzz.2, c.2.1, show p + (e.a - p) = e.a by omega]
  refine ⟨⟨a.1, by rw [hn]; exact c.1, by rw [hd]; exact hzz.1, by rw [hat]; exact h⟩, hat, ?_⟩
  unfold evZ
  rw [hn, a.2.2, c.2.2]
  unfold evB
  rw [List.length_append]
  omega
theorem unp_pack : ∀ (k : Nat) (es : List Ev) (p : Int), evsF es = 0 → es.length ≤ k → 0 ≤ p ∧ p ≤ 999999 → unpN k (packL p es) p = some es
  | 0, es, p, _, hl, _ => by
    have h0 : es = [] := List.eq_nil_of_length_eq_zero (by omega)
    subst h0
    rfl
  | k + 1, [], p, _, _, _ => rfl
  | k + 1, e :: r, p, h, hl, hp => by
    have he := evsF_all h e (by simp)
    rw [evsF, if_pos he] at h
    obtain ⟨h1, h2, h3⟩ := ev_app e p (packL e.a r) he hp
    have hne : ¬ (evB p e ++ packL e.a r = []) := by
      have := evB_len he hp
      intro hh
      have := congrArg List.length hh
      simp only [List.length_append, List.length_nil] at this
      omega
    unfold unpN
    rw [packL, if_neg hne, if_pos h1, h2, h3, List.drop_left, unp_pack k r e.a h (by simpa using hl) (by have := evF_zero he; omega)]
    rfl
theorem un_pack {es : List Ev} (h : stF es = 0) : unC (pkB es) = 0 ∧ unE (pkB es) = es := by
  have h1 := stF_zero h
  rw [pk_ok h]
  have := packL_len es 0 h1.2 (by omega)
  exact un_some (by omega) (unp_pack 8 es 0 h1.2 h1.1 (by omega))
theorem pack_un {d : List Int} (b : B8 d) (h : unC d = 0) : pkB (unE d) = d ∧ stF (unE d) = 0 ∧ d.length ≤ 4000 := by
  by_cases hl : d.length ≤ 4000
  · match h0 : unpN 8 d 0 with
    | none => rw [(un_none hl h0).1] at h; omega
    | some es =>
      obtain ⟨h1, h2, h3⟩ := pack_unp 8 d 0 es b h0
      rw [(un_some hl h0).2]
      have hs : stF es = 0 := by rw [stF_few h3, h2]
      exact ⟨by rw [pk_ok hs, h1], hs, hl⟩
  · rw [(un_long hl).1] at h; omega
theorem unE_len {d : List Int} (b : B8 d) : (unE d).length ≤ 8 := by
  by_cases hl : d.length ≤ 4000
  · match h0 : unpN 8 d 0 with
    | none => rw [(un_none hl h0).2]; simp
    | some es => rw [(un_some hl h0).2]; exact (pack_unp 8 d 0 es b h0).2.2
  · rw [(un_long hl).2]; simp
/-- The rounds of a reading. -/
theorem unp_nil (k : Nat) (p : Int) : unpN k [] p = some [] := by
  cases k <;> simp [unpN]
theorem unp_full {d : List Int} (p : Int) (h : d ≠ []) : unpN 0 d p = none := by simp [unpN, h]
theorem unp_bad {d : List Int} {p : Int} (k : Nat) (h : d ≠ []) (hg : ¬ evGood d p) : unpN k d p = none := by
  cases k
  · exact unp_full p h
  · rw [unpN, if_neg h, if_neg hg]
theorem unp_good {d : List Int} {p : Int} (k : Nat) (h : d ≠ []) (hg : evGood d p) : unpN (k + 1) d p = (unpN k (d.drop (evZ d)) (evAt d p).a).map (evAt d p :: ·) := by
  rw [unpN, if_neg h, if_pos hg]
/-- Where a reading stands: acc is read, d is left, p is the address ahead. -/
def UnAt (d0 : List Int) (acc : List Ev) (d : List Int) (p : Int) : Prop := unpN 8 d0 0 = (unpN (8 - acc.length) d p).map (acc ++ ·)
theorem UnAt.start (d : List Int) : UnAt d [] d 0 := by simp [UnAt]
theorem UnAt.step {d0 d : List Int} {acc : List Ev} {p : Int} (h : UnAt d0 acc d p) (hd : d ≠ []) (hg : evGood d p) (h8 : acc.length < 8) : UnAt d0 (acc ++ [evAt d p]) (d.drop (evZ d)) (evAt d p).a := by
  unfold UnAt at h ⊢
  rw [h, List.length_append, List.length_singleton, show 8 - acc.length = (8 - (acc.length + 1)) + 1 by omega, unp_good _ hd hg, Option.map_map]
  congr 1
  funext l
  simp
theorem UnAt.bad {d0 d : List Int} {acc : List Ev} {p : Int} (h : UnAt d0 acc d p) (hd : d ≠ []) (hg : ¬ evGood d p) : unpN 8 d0 0 = none := by
  unfold UnAt at h
  rw [h, unp_bad _ hd hg]
  rfl
theorem UnAt.full {d0 d : List Int} {acc : List Ev} {p : Int} (h : UnAt d0 acc d p) (hd : d ≠ []) (h8 : ¬ acc.length < 8) : unpN 8 d0 0 = none := by
  unfold UnAt at h
  rw [h, show 8 - acc.length = 0 by omega, unp_full _ hd]
  rfl
theorem UnAt.done {d0 : List Int} {acc : List Ev} {p : Int} (h : UnAt d0 acc [] p) : unpN 8 d0 0 = some acc := by
  unfold UnAt at h
  rw [h, unp_nil]
  simp
theorem zagI_in {n : Int} (h : 0 ≤ n ∧ n ≤ 2000000000000) : -1000000000000 ≤ zagI n ∧ zagI n ≤ 1000000000000 := by
  by_cases h0 : n % 2 = 0
  · rw [zagI_even h0]; omega
  · rw [zagI_odd h0]; omega
theorem rd_code (d : List Int) : rdC d = 0 ∧ rdGood d ∨ rdC d = 5 ∧ rdV d = 0 ∧ rdZ d = 0 := by
  by_cases h : rdGood d
  · exact .inl ⟨(rd_good h).1, h⟩
  · exact .inr (rd_bad h)
/-- A number past the bounds of an address begins no event. -/
theorem evGood_far {d : List Int} {p : Int} (hp : 0 ≤ p ∧ p ≤ 999999) (h : 4000000000000 < rdV d) : ¬ evGood d p := by
  rintro ⟨h1, h2, h3, h4⟩
  by_cases hn : 0 ≤ rdV d / 2 ∧ rdV d / 2 ≤ 2000000000000
  · have h5 := (evF_zero h4).2
    unfold evAt at h5
    simp only at h5
    have h6 : rdV d / 2 = 2000000000000 := by omega
    rw [h6, zagI_even (by omega)] at h5
    omega
  · rw [(zag_out hn).1] at h3
    omega
theorem evGood_of {d : List Int} {p : Int} (h1 : rdC d = 0) (h2 : rdC (nextV d) = 0) (h3 : 0 ≤ rdV d / 2 ∧ rdV d / 2 ≤ 2000000000000) (h4 : evF (evAt d p) = 0) : evGood d p :=
  ⟨h1, h2, (zag_in h3).1, h4⟩
end Go.Proofs.YtmdaianbhpppfaaDoor
