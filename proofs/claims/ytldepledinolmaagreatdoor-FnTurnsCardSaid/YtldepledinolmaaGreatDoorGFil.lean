/- Plain mathematics of files. No function of the program is named here. Plain mathematics of the reading of files. No function of the program is named here. -/
import Derived.Test.YtldepledinolmaaGreatDoorFrMath
import Derived.Test.YtldepledinolmaaGreatDoorGBase
namespace Go.Proofs.YtldepledinolmaaGreatDoor
open Go.RowKit

/-- A row cut into pieces of b; at most f of them. -/
def chop (b : Nat) : Nat → List Ev → List (List Ev)
  | 0, _ => []
  | _ + 1, [] => []
  | f + 1, e :: r => (e :: r).take b :: chop b f ((e :: r).drop b)
def chopA (b : Nat) (es : List Ev) : List (List Ev) := chop b es.length es
theorem chop_nil (b f : Nat) : chop b f [] = [] := by cases f <;> rfl
theorem chop_fuel {b : Nat} (hb : 1 ≤ b) : ∀ (f g : Nat) (es : List Ev), es.length ≤ f → es.length ≤ g → chop b f es = chop b g es
  | f, g, [], _, _ => by rw [chop_nil, chop_nil]
  | 0, g, e :: r, h, _ => by simp at h
  | f + 1, 0, e :: r, _, h => by simp at h
  | f + 1, g + 1, e :: r, h, h' => by
    have hl : ((e :: r).drop b).length ≤ f := by rw [List.length_drop]; omega
    have hl' : ((e :: r).drop b).length ≤ g := by rw [List.length_drop]; omega
    unfold chop
    rw [chop_fuel hb f g _ hl hl']
theorem chopA_nil (b : Nat) : chopA b [] = [] := rfl
theorem chopA_more {b : Nat} (hb : 1 ≤ b) {es : List Ev} (h : 0 < es.length) : chopA b es = es.take b :: chopA b (es.drop b) := by
  rcases es with _ | ⟨e, r⟩
  · simp at h
  · unfold chopA
    have hl : ((e :: r).drop b).length ≤ r.length := by rw [List.length_drop, List.length_cons]; omega
    rw [List.length_cons]
    show (e :: r).take b :: chop b r.length ((e :: r).drop b) = _
    rw [chop_fuel hb r.length _ _ hl (Nat.le_refl _)]
/-- From place p on. -/
theorem chopA_at {b : Nat} (hb : 1 ≤ b) {es : List Ev} {p : Nat} (h : p < es.length) : chopA b (es.drop p) = (es.drop p).take b :: chopA b (es.drop (p + b)) := by
  rw [chopA_more hb (by rw [List.length_drop]; omega), List.drop_drop]
theorem chopA_end {b p : Nat} {es : List Ev} (h : ¬ p < es.length) : chopA b (es.drop p) = [] := by
  rw [List.drop_eq_nil_of_le (by omega)]; rfl
theorem chop_few {b : Nat} (hb : 1 ≤ b) : ∀ (f : Nat) (es : List Ev), (chop b f es).length ≤ es.length
  | 0, es => by simp [chop]
  | f + 1, [] => by simp [chop]
  | f + 1, e :: r => by
    have := chop_few hb f ((e :: r).drop b)
    rw [List.length_drop] at this
    simp only [chop, List.length_cons] at this ⊢
    omega
theorem chop_flat {b : Nat} (hb : 1 ≤ b) : ∀ (f : Nat) (es : List Ev), es.length ≤ f → (chop b f es).flatten = es
  | 0, es, h => by
    have : es = [] := List.eq_nil_of_length_eq_zero (by omega)
    subst this; rfl
  | f + 1, [], _ => rfl
  | f + 1, e :: r, h => by
    have hl : ((e :: r).drop b).length ≤ f := by rw [List.length_drop]; simp only [List.length_cons] at h ⊢; omega
    unfold chop
    rw [List.flatten_cons, chop_flat hb f _ hl, List.take_append_drop]
theorem chop_mem {b : Nat} (hb : 1 ≤ b) : ∀ (f : Nat) (es p : List Ev), p ∈ chop b f es → 0 < p.length ∧ p.length ≤ b ∧ p.length ≤ es.length ∧ ∀ x ∈ p, x ∈ es
  | 0, es, p, h => by simp [chop] at h
  | f + 1, [], p, h => by simp [chop] at h
  | f + 1, e :: r, p, h => by
    rcases List.mem_cons.1 h with rfl | h
    · exact ⟨by rw [List.length_take, List.length_cons]; omega, by rw [List.length_take]; omega, by rw [List.length_take]; omega, fun x hx => List.mem_of_mem_take hx⟩
    · obtain ⟨h1, h2, h3, h4⟩ := chop_mem hb f _ p h
      rw [List.length_drop] at h3
      exact ⟨h1, h2, by omega, fun x hx => List.mem_of_mem_drop (h4 x hx)⟩
/-- A part of a right row is right. -/
theorem stF_part {es p : List Ev} (h : stF es = 0) (hl : p.length ≤ es.length) (hm : ∀ x ∈ p, x ∈ es) : stF p = 0 := by
  obtain ⟨h1, h2⟩ := stF_zero h
  rw [stF_few (by omega)]
  exact evsF_of p fun x hx => evsF_all h2 x (hm x hx)

/-- The frames of pieces, of one core. -/
def pcsB (i : Int) : List (List Ev) → List Int
  | [] => []
  | p :: r => frL i (packL 0 p) ++ pcsB i r
theorem pcsB_len (i : Int) : ∀ ps : List (List Ev), (∀ p ∈ ps, stF p = 0) → (pcsB i ps).length ≤ 8 * ps.length + 18 * ps.flatten.length
  | [], _ => by simp [pcsB]
  | p :: r, h => by
    have h1 := pcsB_len i r fun x hx => h x (List.mem_cons_of_mem _ hx)
    have hp := h p (List.mem_cons_self ..)
    obtain ⟨p8, pe⟩ := stF_zero hp
    have h2 := packL_len p 0 pe (by omega)
    have h3 := packL_len8 hp
    have h4 := putL_short (q := ((packL 0 p).length : Int)) (by omega) (by omega)
    unfold pcsB frL hdL
    simp only [List.length_append, List.length_cons, List.length_nil, fourL_length, List.flatten_cons]
    omega
theorem pcsB_B8 (i : Int) (h0 : 0 ≤ i) (h1 : i ≤ 3) : ∀ ps : List (List Ev), (∀ p ∈ ps, stF p = 0) → B8 (pcsB i ps)
  | [], _ => fun x hx => by simp [pcsB] at hx
  | p :: r, h => by
    unfold pcsB
    exact (frL_B8 h0 h1 (packL_B8 p 0 (stF_zero (h p (List.mem_cons_self ..))).2 (by omega))).append (pcsB_B8 i h0 h1 r fun x hx => h x (List.mem_cons_of_mem _ hx))

/-- The frames of a trace from core i on; how many there are. -/
def filF (b : Nat) : Nat → List (List Ev) → List Int
  | _, [] => []
  | i, l :: r => pcsB i (chopA b l) ++ filF b (i + 1) r
def filN (b : Nat) : List (List Ev) → Nat
  | [] => 0
  | l :: r => (chopA b l).length + filN b r
theorem filF_at (b j : Nat) (t : List (List Ev)) (h : j < t.length) : filF b j (t.drop j) = pcsB j (chopA b t[j]) ++ filF b (j + 1) (t.drop (j + 1)) := by
  rw [List.drop_eq_getElem_cons h, filF]
theorem filF_end (b j : Nat) (t : List (List Ev)) (h : ¬ j < t.length) : filF b j (t.drop j) = [] := by
  rw [List.drop_eq_nil_of_le (by omega)]; rfl
theorem filN_at (b j : Nat) (t : List (List Ev)) (h : j < t.length) : filN b (t.drop j) = (chopA b t[j]).length + filN b (t.drop (j + 1)) := by
  rw [List.drop_eq_getElem_cons h, filN]
theorem filN_end (b j : Nat) (t : List (List Ev)) (h : ¬ j < t.length) : filN b (t.drop j) = 0 := by
  rw [List.drop_eq_nil_of_le (by omega)]; rfl
theorem chopA_right {b : Nat} (hb : 1 ≤ b) {es : List Ev} (h : stF es = 0) : ∀ p ∈ chopA b es, stF p = 0 := fun p hp => by
  obtain ⟨_, _, h3, h4⟩ := chop_mem hb _ _ p hp
  exact stF_part h h3 h4
theorem filF_len {b : Nat} (hb : 1 ≤ b) : ∀ (i : Nat) (t : List (List Ev)), (∀ l ∈ t, stF l = 0) → (filF b i t).length ≤ 26 * sumT t ∧ filN b t ≤ sumT t
  | _, [], _ => by simp [filF, filN, sumT]
  | i, l :: r, h => by
    have h1 := filF_len hb (i + 1) r fun x hx => h x (List.mem_cons_of_mem _ hx)
    have hl := h l (List.mem_cons_self ..)
    have h2 := pcsB_len (i : Int) (chopA b l) (chopA_right hb hl)
    have h3 : (chopA b l).flatten = l := chop_flat hb _ _ (Nat.le_refl _)
    have h4 : (chopA b l).length ≤ l.length := chop_few hb _ _
    rw [h3] at h2
    simp only [filF, filN, sumT, List.length_append]
    omega
theorem filF_B8 {b : Nat} (hb : 1 ≤ b) : ∀ (i : Nat) (t : List (List Ev)), (∀ l ∈ t, stF l = 0) → i + t.length ≤ 4 → B8 (filF b i t)
  | _, [], _, _ => fun x hx => by simp [filF] at hx
  | i, l :: r, h, hi => by
    simp only [List.length_cons] at hi
    unfold filF
    exact (pcsB_B8 i (by omega) (by omega) _ (chopA_right hb (h l (List.mem_cons_self ..)))).append (filF_B8 hb (i + 1) r (fun x hx => h x (List.mem_cons_of_mem _ hx)) (by omega))

/-- A right trace: its cores are right, and few. -/
theorem stsF_all : ∀ {t : List (List Ev)}, stsF t = 0 → ∀ l ∈ t, stF l = 0
  | [], _, l, h => by simp at h
  | x :: r, h, l, hl => by
    unfold stsF at h
    by_cases h0 : stF x = 0
    · rw [if_pos h0] at h
      rcases List.mem_cons.1 hl with rfl | hl
      · exact h0
      · exact stsF_all h l hl
    · rw [if_neg h0] at h; exact absurd h h0
theorem trF_zero {t : List (List Ev)} (h : trF t = 0) : 1 ≤ t.length ∧ t.length ≤ 4 ∧ ∀ l ∈ t, stF l = 0 := by
  unfold trF at h
  by_cases h1 : 1 ≤ t.length ∧ t.length ≤ 4
  · rw [if_pos h1] at h; exact ⟨h1.1, h1.2, stsF_all h⟩
  · rw [if_neg h1] at h; omega
theorem sumT_few : ∀ {t : List (List Ev)}, (∀ l ∈ t, stF l = 0) → sumT t ≤ 8 * t.length
  | [], _ => by simp [sumT]
  | l :: r, h => by
    have h1 := sumT_few fun x hx => h x (List.mem_cons_of_mem l hx)
    have := (stF_zero (h l (List.mem_cons_self ..))).1
    simp only [sumT, List.length_cons]
    omega

/-- What stands ahead of a file's sum; a file. -/
def hdF (b : Nat) (t : List (List Ev)) : List Int := ([67, (t.length : Int)] ++ filF b 0 t) ++ [69, (filN b t : Int), (sumT t : Int)]
def filL (b : Nat) (t : List (List Ev)) : List Int := hdF b t ++ fourL (crcV (hdF b t))
/-- The code of a writing; its bytes; how many frames. -/
def fcC (t : List (List Ev)) (b : Int) : Int := if trF t = 0 then (if 1 ≤ b ∧ b ≤ 8 then 0 else 3) else trF t
def fcB (t : List (List Ev)) (b : Int) : List Int := if fcC t b = 0 then filL b.toNat t else []
def fcN (t : List (List Ev)) (b : Int) : Int := if fcC t b = 0 then filN b.toNat t else 0
theorem fcC_zero {t : List (List Ev)} {b : Int} (h : fcC t b = 0) : trF t = 0 ∧ 1 ≤ b ∧ b ≤ 8 := by
  unfold fcC at h
  by_cases h0 : trF t = 0
  · rw [if_pos h0] at h
    by_cases h1 : 1 ≤ b ∧ b ≤ 8
    · exact ⟨h0, h1.1, h1.2⟩
    · rw [if_neg h1] at h; omega
  · rw [if_neg h0] at h; exact absurd h h0
theorem hdF_len {b : Nat} (hb : 1 ≤ b) {t : List (List Ev)} (h : trF t = 0) : (hdF b t).length ≤ 837 := by
  obtain ⟨h1, h2, h3⟩ := trF_zero h
  have h4 := filF_len hb 0 t h3
  have h5 := sumT_few h3
  unfold hdF
  simp only [List.length_append, List.length_cons, List.length_nil]
  omega
theorem hdF_B8 {b : Nat} (hb : 1 ≤ b) {t : List (List Ev)} (h : trF t = 0) : B8 (hdF b t) := by
  obtain ⟨h1, h2, h3⟩ := trF_zero h
  have h4 := filF_len hb 0 t h3
  have h5 := sumT_few h3
  unfold hdF
  refine (B8.append (fun x hx => ?_) (filF_B8 hb 0 t h3 (by omega))).append (fun x hx => ?_)
  · simp at hx; omega
  · simp at hx; omega
end Go.Proofs.YtldepledinolmaaGreatDoor
namespace Go.Proofs.YtldepledinolmaaGreatDoor
open Go.RowKit

/-- The code of a file's next frame, by what was read. -/
noncomputable def dcFrame (d : List Int) (cs : List (List Ev)) (last : Int) : Int :=
  if frC d = 0 then (if frK d < cs.length ∧ last ≤ frK d ∧ (cs.getD (frK d).toNat []).length + (frE d).length ≤ 8 then 0 else 1) else frC d
/-- The cores behind it. -/
noncomputable def dcNext (d : List Int) (cs : List (List Ev)) : List (List Ev) := cs.set (frK d).toNat (cs.getD (frK d).toNat [] ++ frE d)
open Classical in
/-- The code of a file's end. -/
noncomputable def dcEnd (file : List Int) (at_ : Nat) (cs : List (List Ev)) (n : Nat) : Int :=
  if (file.drop at_).length = 7 ∧ (file.drop at_).getD 0 0 = 69 then
    (if (file.drop at_).getD 1 0 = n ∧ (file.drop at_).getD 2 0 = sumT cs then
      (if fourL (crcV (file.take (at_ + 3))) = (file.drop at_).drop 3 then 0 else 6) else 1) else 5
/-- A file's reading from a place on. -/
noncomputable def dcS : Nat → List Int → Nat → List (List Ev) → Int → Nat → Int × List (List Ev)
  | 0, _, _, _, _, _ => (0, [])
  | f + 1, file, at_, cs, last, n =>
    if at_ < file.length ∧ (file.drop at_).getD 0 0 = 66 then
      (if dcFrame (file.drop at_) cs last = 0 then dcS f file (at_ + (frZ (file.drop at_)).toNat) (dcNext (file.drop at_) cs) (frK (file.drop at_)) (n + 1) else (dcFrame (file.drop at_) cs last, []))
    else (if dcEnd file at_ cs n = 0 then (0, cs) else (dcEnd file at_ cs n, []))
/-- A file begins as files do. -/
def dcHd (file : List Int) : Prop := 2 ≤ file.length ∧ file.getD 0 0 = 67 ∧ 1 ≤ file.getD 1 0 ∧ file.getD 1 0 ≤ 4
open Classical in
noncomputable def dc (file : List Int) : Int × List (List Ev) :=
  if file.length ≤ 2000 then (if dcHd file then dcS (file.length + 1) file 2 (List.replicate (file.getD 1 0).toNat []) 0 0 else (5, [])) else (2, [])

theorem frE_right {d : List Int} (b : B8 d) (h : frC d = 0) : stF (frE d) = 0 ∧ 0 < (frE d).length ∧ 0 ≤ frK d ∧ frK d ≤ 3 ∧ 1 ≤ frZ d ∧ frZ d ≤ d.length := by
  obtain ⟨hH, hQ, hU⟩ := frC_zero h
  obtain ⟨y1, y2, y3⟩ := frC_yes h
  obtain ⟨u1, u2, u3⟩ : pkB (unE (frPay d)) = frPay d ∧ stF (unE (frPay d)) = 0 ∧ (frPay d).length ≤ 4000 := pack_un ((b.take _).drop _) hU
  have hpl := frPay_len d hH
  obtain ⟨h0, h1, h2, h3, h4, h5, h6⟩ := hH
  have hk : d.getD 1 0 = d[1] := by simp [show 1 < d.length by omega]
  have bk := b.get 1 (by omega)
  rw [← hk] at bk
  have hne : 0 < (unE (frPay d)).length := by
    rcases he : unE (frPay d) with _ | ⟨x, es⟩
    · rw [he] at u1
      have := congrArg List.length u1
      rw [hpl] at this
      simp [pkB, packL] at this
      omega
    · simp
  rw [y1, y2, y3]
  exact ⟨u2, hne, bk.1, by omega, by omega, by omega⟩
theorem dcFrame_zero {d : List Int} {cs : List (List Ev)} {last : Int} (h : dcFrame d cs last = 0) : frC d = 0 ∧ frK d < cs.length ∧ last ≤ frK d ∧ (cs.getD (frK d).toNat []).length + (frE d).length ≤ 8 := by
  unfold dcFrame at h
  by_cases h0 : frC d = 0
  · rw [if_pos h0] at h
    by_cases h1 : frK d < cs.length ∧ last ≤ frK d ∧ (cs.getD (frK d).toNat []).length + (frE d).length ≤ 8
    · exact ⟨h0, h1⟩
    · rw [if_neg h1] at h; omega
  · rw [if_neg h0] at h; exact absurd h h0
theorem dcFrame_no {d : List Int} {cs : List (List Ev)} {last : Int} (h : ¬ frC d = 0) : dcFrame d cs last = frC d := if_neg h
theorem dcFrame_form {d : List Int} {cs : List (List Ev)} {last : Int} (h : frC d = 0) (h1 : ¬ (frK d < cs.length ∧ last ≤ frK d ∧ (cs.getD (frK d).toNat []).length + (frE d).length ≤ 8)) : dcFrame d cs last = 1 := by
  unfold dcFrame; rw [if_pos h, if_neg h1]
theorem dcFrame_ok {d : List Int} {cs : List (List Ev)} {last : Int} (h : frC d = 0) (h1 : frK d < cs.length ∧ last ≤ frK d ∧ (cs.getD (frK d).toNat []).length + (frE d).length ≤ 8) : dcFrame d cs last = 0 := by
  unfold dcFrame; rw [if_pos h, if_pos h1]
theorem dcNext_length (d : List Int) (cs : List (List Ev)) : (dcNext d cs).length = cs.length := by unfold dcNext; rw [List.length_set]
/-- Each core keeps its bound. -/
theorem dcNext_few {d : List Int} {cs : List (List Ev)} {last : Int} (h : dcFrame d cs last = 0) (hc : ∀ l ∈ cs, l.length ≤ 8) : ∀ l ∈ dcNext d cs, l.length ≤ 8 := by
  obtain ⟨h0, h1, h2, h3⟩ := dcFrame_zero h
  intro l hl
  unfold dcNext at hl
  rcases List.mem_or_eq_of_mem_set hl with a | a
  · exact hc l a
  · rw [a, List.length_append]; exact h3
theorem dcS_frame {f : Nat} {file : List Int} {at_ : Nat} {cs : List (List Ev)} {last : Int} {n : Nat} (h : at_ < file.length ∧ (file.drop at_).getD 0 0 = 66) (h0 : dcFrame (file.drop at_) cs last = 0) :
    dcS (f + 1) file at_ cs last n = dcS f file (at_ + (frZ (file.drop at_)).toNat) (dcNext (file.drop at_) cs) (frK (file.drop at_)) (n + 1) := by
  conv => lhs; unfold dcS
  rw [if_pos h, if_pos h0]
theorem dcS_stop {f : Nat} {file : List Int} {at_ : Nat} {cs : List (List Ev)} {last : Int} {n : Nat} (h : at_ < file.length ∧ (file.drop at_).getD 0 0 = 66) (h0 : ¬ dcFrame (file.drop at_) cs last = 0) :
    dcS (f + 1) file at_ cs last n = (dcFrame (file.drop at_) cs last, []) := by
  conv => lhs; unfold dcS
  rw [if_pos h, if_neg h0]
theorem dcS_end {f : Nat} {file : List Int} {at_ : Nat} {cs : List (List Ev)} {last : Int} {n : Nat} (h : ¬ (at_ < file.length ∧ (file.drop at_).getD 0 0 = 66)) :
    dcS (f + 1) file at_ cs last n = if dcEnd file at_ cs n = 0 then (0, cs) else (dcEnd file at_ cs n, []) := by
  conv => lhs; unfold dcS
  rw [if_neg h]
theorem dc_many {file : List Int} (h : ¬ file.length ≤ 2000) : dc file = (2, []) := if_neg h
theorem dc_text {file : List Int} (h : file.length ≤ 2000) (h1 : ¬ dcHd file) : dc file = (5, []) := by unfold dc; rw [if_pos h, if_neg h1]
theorem dc_go {file : List Int} (h : file.length ≤ 2000) (h1 : dcHd file) : dc file = dcS (file.length + 1) file 2 (List.replicate (file.getD 1 0).toNat []) 0 0 := by unfold dc; rw [if_pos h, if_pos h1]
theorem dcS_few : ∀ (f : Nat) (file : List Int) (at_ : Nat) (cs : List (List Ev)) (last : Int) (n : Nat), (∀ l ∈ cs, l.length ≤ 8) → (dcS f file at_ cs last n).2.length ≤ cs.length ∧ ∀ l ∈ (dcS f file at_ cs last n).2, l.length ≤ 8
  | 0, file, at_, cs, last, n, _ => by simp [dcS]
  | f + 1, file, at_, cs, last, n, h => by
    by_cases h1 : at_ < file.length ∧ (file.drop at_).getD 0 0 = 66
    · by_cases h2 : dcFrame (file.drop at_) cs last = 0
      · rw [dcS_frame h1 h2]
        have := dcS_few f file (at_ + (frZ (file.drop at_)).toNat) (dcNext (file.drop at_) cs) (frK (file.drop at_)) (n + 1) (dcNext_few h2 h)
        rw [dcNext_length] at this
        exact this
      · rw [dcS_stop h1 h2]; simp
    · rw [dcS_end h1]
      by_cases h3 : dcEnd file at_ cs n = 0
      · rw [if_pos h3]; exact ⟨Nat.le_refl _, h⟩
      · rw [if_neg h3]; simp
theorem dc_few (file : List Int) : (dc file).2.length ≤ 4 ∧ ∀ l ∈ (dc file).2, l.length ≤ 8 := by
  by_cases h : file.length ≤ 2000
  · by_cases h1 : dcHd file
    · rw [dc_go h h1]
      have := dcS_few (file.length + 1) file 2 (List.replicate (file.getD 1 0).toNat []) 0 0 (fun l hl => by rw [List.eq_of_mem_replicate hl]; simp)
      rw [List.length_replicate] at this
      obtain ⟨_, _, _, h4⟩ := h1
      exact ⟨by omega, this.2⟩
    · rw [dc_text h h1]; simp
  · rw [dc_many h]; simp
theorem sumT_bound : ∀ {t : List (List Ev)}, (∀ l ∈ t, l.length ≤ 8) → sumT t ≤ 8 * t.length
  | [], _ => by simp [sumT]
  | l :: r, h => by
    have h1 := sumT_bound fun x hx => h x (List.mem_cons_of_mem l hx)
    have := h l (List.mem_cons_self ..)
    simp only [sumT, List.length_cons]
    omega
end Go.Proofs.YtldepledinolmaaGreatDoor
