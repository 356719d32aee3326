/- Plain mathematics of write orders: faults, the write order of a log. -/
import Derived.Test.YtdmdljimbmhecaaOdm
import Derived.Test.YtdmdljimbmhecaaGMsi
namespace Go.Proofs.Ytdmdljimbmhecaa

def idW (t : List (List Ev)) (a : Int) (x : Wid) : Prop := (0 ≤ x.c ∧ x.c < (t.length : Int)) ∧ (0 ≤ x.i ∧ x.i < ((t.getD x.c.toNat []).length : Int)) ∧ (evN t x.c.toNat x.i.toNat).k = 1 ∧ (evN t x.c.toNat x.i.toNat).a = a
def cntS (a : Int) : List Ev → Nat
  | [] => 0
  | e :: r => (if e.k = 1 ∧ e.a = a then 1 else 0) + cntS a r
def cntY : List Ev → Nat
  | [] => 0
  | e :: r => (if e.k = 1 then 1 else 0) + cntY r
def storesW (a : Int) : List (List Ev) → Nat
  | [] => 0
  | l :: r => cntS a l + storesW a r
def allW : List (List Ev) → Nat
  | [] => 0
  | l :: r => cntY l + allW r
def listW (t : List (List Ev)) (w : Wls) : Prop := w.ids.length ≠ 0 ∧ w.ids.length = storesW w.a t ∧ (∀ x ∈ w.ids, idW t w.a x) ∧ w.ids.Nodup
def risO (os : List Wls) : Prop := os.Pairwise fun v w => v.a < w.a
def sumO : List Wls → Nat
  | [] => 0
  | w :: r => w.ids.length + sumO r
def rightO (t : List (List Ev)) (os : List Wls) : Prop := (∀ w ∈ os, listW t w) ∧ risO os ∧ sumO os = allW t
open Classical in
noncomputable def odF (t : List (List Ev)) (os : List Wls) : Int := if trF t = 0 then (if rightO t os then 0 else 7) else trF t

/-- An id is put behind those of its address: as the model goes. -/
def putW (a : Int) (x : Wid) : Bool → List Wls → List Wls
  | d, [] => if d = true then [] else [⟨a, [x]⟩]
  | d, w :: r => (if d = false ∧ a < w.a then [⟨a, [x]⟩] else []) ++ ((if w.a = a then ⟨w.a, w.ids ++ [x]⟩ else w) :: putW a x (d || decide (a < w.a) || decide (w.a = a)) r)
def insW (a : Int) (x : Wid) : List Wls → List Wls
  | [] => [⟨a, [x]⟩]
  | w :: r => if a < w.a then ⟨a, [x]⟩ :: w :: r else if w.a = a then ⟨a, w.ids ++ [x]⟩ :: r else w :: insW a x r
theorem putW_done {a : Int} {x : Wid} : ∀ {os : List Wls}, (∀ w ∈ os, w.a ≠ a) → putW a x true os = os
  | [], _ => rfl
  | w :: r, h => by
    have hw := h w (by simp)
    rw [putW, if_neg (by simp), if_neg hw]
    simp only [Bool.true_or, List.nil_append]
    rw [putW_done fun v hv => h v (by simp [hv])]
theorem putW_ins {a : Int} {x : Wid} : ∀ {os : List Wls}, risO os → putW a x false os = insW a x os
  | [], _ => rfl
  | w :: r, h => by
    obtain ⟨h1, h2⟩ := List.pairwise_cons.1 h
    rw [putW, insW]
    by_cases hlt : a < w.a
    · have hne : ¬ w.a = a := by omega
      rw [if_pos ⟨rfl, hlt⟩, if_pos hlt, if_neg hne]
      simp only [decide_eq_true hlt, Bool.false_or, Bool.true_or]
      rw [putW_done fun v hv => by have := h1 v hv; omega]
      rfl
    · rw [if_neg (fun hh => hlt hh.2), if_neg hlt]
      by_cases he : w.a = a
      · rw [if_pos he, if_pos he]
        simp only [decide_eq_true he, Bool.or_true]
        rw [putW_done fun v hv => by have := h1 v hv; omega, he]
        rfl
      · rw [if_neg he, if_neg he]
        simp only [decide_eq_false hlt, decide_eq_false he, Bool.or_self]
        rw [putW_ins h2]
        rfl
theorem mem_ins {a : Int} {x : Wid} : ∀ {os : List Wls} {w : Wls}, risO os → w ∈ insW a x os → (w.a = a ∧ w.ids = findW os a ++ [x]) ∨ (w ∈ os ∧ w.a ≠ a)
  | [], w, _, h => by
    rw [insW, List.mem_singleton] at h
    subst h
    exact .inl ⟨rfl, rfl⟩
  | v :: r, w, hr, h => by
    obtain ⟨h1, h2⟩ := List.pairwise_cons.1 hr
    have hno : ∀ {l : List Wls}, (∀ u ∈ l, u.a ≠ a) → findW l a = [] := by
      intro l
      induction l with
      | nil => intro _; rfl
      | cons u r ih => intro hh; rw [findW, if_neg (hh u (by simp))]; exact ih fun z hz => hh z (by simp [hz])
    rw [insW] at h
    by_cases hlt : a < v.a
    · rw [if_pos hlt] at h
      rcases List.mem_cons.1 h with rfl | h
      · exact .inl ⟨rfl, by rw [hno fun u hu => by rcases List.mem_cons.1 hu with rfl | hu; omega; have := h1 u hu; omega]; rfl⟩
      · refine .inr ⟨h, ?_⟩
        rcases List.mem_cons.1 h with rfl | h
        · omega
        · have := h1 w h; omega
    · rw [if_neg hlt] at h
      by_cases he : v.a = a
      · rw [if_pos he] at h
        rcases List.mem_cons.1 h with rfl | h
        · exact .inl ⟨rfl, by rw [findW, if_pos he]⟩
        · exact .inr ⟨by simp [h], by have := h1 w h; omega⟩
      · rw [if_neg he] at h
        rcases List.mem_cons.1 h with rfl | h
        · exact .inr ⟨by simp, he⟩
        · rcases mem_ins h2 h with ⟨e1, e2⟩ | ⟨e1, e2⟩
          · exact .inl ⟨e1, by rw [findW, if_neg he]; exact e2⟩
          · exact .inr ⟨by simp [e1], e2⟩
theorem ris_ins {a : Int} {x : Wid} : ∀ {os : List Wls}, risO os → risO (insW a x os)
  | [], _ => List.pairwise_singleton _ _
  | v :: r, h => by
    obtain ⟨h1, h2⟩ := List.pairwise_cons.1 h
    rw [insW]
    by_cases hlt : a < v.a
    · rw [if_pos hlt]
      refine List.pairwise_cons.2 ⟨fun w hw => ?_, h⟩
      rcases List.mem_cons.1 hw with rfl | hw
      · exact hlt
      · have := h1 w hw; simp only; omega
    · rw [if_neg hlt]
      by_cases he : v.a = a
      · rw [if_pos he]
        exact List.pairwise_cons.2 ⟨fun w hw => by have := h1 w hw; simp only; omega, h2⟩
      · rw [if_neg he]
        refine List.pairwise_cons.2 ⟨fun w hw => ?_, ris_ins h2⟩
        rcases mem_ins h2 hw with ⟨e, _⟩ | ⟨e, _⟩
        · omega
        · exact h1 w e
theorem find_ins {a : Int} {x : Wid} (b : Int) : ∀ {os : List Wls}, risO os → findW (insW a x os) b = if b = a then findW os a ++ [x] else findW os b
  | [], _ => by
    show (if a = b then [x] else []) = if b = a then [] ++ [x] else []
    by_cases hb : b = a
    · rw [if_pos hb.symm, if_pos hb]; rfl
    · rw [if_neg (fun e => hb e.symm), if_neg hb]
  | v :: r, h => by
    obtain ⟨h1, h2⟩ := List.pairwise_cons.1 h
    have hno : ∀ {l : List Wls}, (∀ u ∈ l, u.a ≠ a) → findW l a = [] := by
      intro l
      induction l with
      | nil => intro _; rfl
      | cons u r ih => intro hh; rw [findW, if_neg (hh u (by simp))]; exact ih fun z hz => hh z (by simp [hz])
    rw [insW]
    by_cases hlt : a < v.a
    · rw [if_pos hlt, findW]
      by_cases hb : b = a
      · rw [if_pos hb.symm, if_pos hb, hno fun u hu => by rcases List.mem_cons.1 hu with rfl | hu; omega; have := h1 u hu; omega]; rfl
      · rw [if_neg (fun e => hb e.symm), if_neg hb]
    · rw [if_neg hlt]
      by_cases he : v.a = a
      · rw [if_pos he, findW, findW, if_pos he]
        by_cases hb : b = a
        · rw [if_pos hb.symm, if_pos hb]
        · rw [if_neg (fun e => hb e.symm), if_neg hb, findW, if_neg (fun e => hb (by omega))]
      · rw [if_neg he, findW, find_ins b h2, findW, if_neg he]
        by_cases hb : b = a
        · rw [if_neg (show ¬ v.a = b by omega), if_pos hb, if_pos hb]
        · rw [if_neg hb, if_neg hb, findW]
theorem sum_ins {a : Int} {x : Wid} : ∀ {os : List Wls}, sumO (insW a x os) = sumO os + 1
  | [] => rfl
  | v :: r => by
    rw [insW]
    by_cases hlt : a < v.a
    · rw [if_pos hlt]; simp only [sumO, List.length_singleton]; omega
    · rw [if_neg hlt]
      by_cases he : v.a = a
      · rw [if_pos he]; simp only [sumO, List.length_append, List.length_singleton]; omega
      · rw [if_neg he]; simp only [sumO, sum_ins (os := r)]; omega

/-- The write order of a log. -/
def ordR : List Stp → List Wls
  | [] => []
  | s :: r => if s.e.k = 1 then putW s.e.a ⟨s.c, (cntL r s.c : Nat)⟩ false (ordR r) else ordR r
def ordW (ss : List Stp) : List Wls := ordR ss.reverse
theorem cntL_reverse (j : Int) : ∀ ss : List Stp, cntL ss.reverse j = cntL ss j
  | [] => rfl
  | s :: r => by
    rw [List.reverse_cons, cntL_append, cntL_reverse j r]
    simp only [cntL]
    omega
theorem ordW_snoc (ss : List Stp) (s : Stp) : ordW (ss ++ [s]) = if s.e.k = 1 then putW s.e.a ⟨s.c, (cntL ss s.c : Nat)⟩ false (ordW ss) else ordW ss := by
  unfold ordW
  rw [List.reverse_append]
  show ordR (s :: ss.reverse) = _
  rw [ordR, cntL_reverse]
def idsR (a : Int) : List Stp → List Wid
  | [] => []
  | s :: r => if s.e.k = 1 ∧ s.e.a = a then idsR a r ++ [⟨s.c, (cntL r s.c : Nat)⟩] else idsR a r
/-- The order of a log, address by address. -/
theorem ordR_all : ∀ ss : List Stp, risO (ordR ss) ∧ (∀ a, findW (ordR ss) a = idsR a ss) ∧ (∀ w ∈ ordR ss, w.ids = idsR w.a ss ∧ w.ids ≠ [])
  | [] => ⟨List.Pairwise.nil, fun _ => rfl, fun w hw => by simp [ordR] at hw⟩
  | s :: r => by
    obtain ⟨h1, h2, h3⟩ := ordR_all r
    rw [ordR]
    by_cases hk : s.e.k = 1
    · rw [if_pos hk, putW_ins h1]
      refine ⟨ris_ins h1, fun a => ?_, fun w hw => ?_⟩
      · rw [find_ins a h1, idsR]
        by_cases ha : a = s.e.a
        · rw [if_pos ha, if_pos ⟨hk, ha.symm⟩, ← ha, h2]
        · rw [if_neg ha, if_neg (fun hh => ha hh.2.symm), h2]
      · rcases mem_ins h1 hw with ⟨e1, e2⟩ | ⟨e1, e2⟩
        · refine ⟨by rw [e2, h2, idsR, e1, if_pos ⟨hk, rfl⟩], by rw [e2]; simp⟩
        · refine ⟨by rw [idsR, if_neg (fun hh => e2 hh.2.symm)]; exact (h3 w e1).1, (h3 w e1).2⟩
    · rw [if_neg hk]
      exact ⟨h1, fun a => by rw [idsR, if_neg (fun hh => hk hh.1)]; exact h2 a, fun w hw => by rw [idsR, if_neg (fun hh => hk hh.1)]; exact h3 w hw⟩
end Go.Proofs.Ytdmdljimbmhecaa
