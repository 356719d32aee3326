/- Plain mathematics of write orders: what is told of a trace, as the laws ask it. -/
import Derived.Test.YtdmdljimbmhecaaOdm4
namespace Go.Proofs.Ytdmdljimbmhecaa

/-- Rising, asked of neighbours. -/
theorem risO_adj : ∀ {os : List Wls}, (∀ i (h : i + 1 < os.length), os[i].a < os[i + 1].a) → risO os
  | [], _ => List.Pairwise.nil
  | [w], _ => List.pairwise_singleton _ _
  | w :: v :: r, h => by
    have ih : risO (v :: r) := risO_adj fun i hi => by
      have := h (i + 1) (by simp at hi ⊢; omega)
      simpa using this
    have h0 : w.a < v.a := by have := h 0 (by simp); simpa using this
    obtain ⟨h1, _⟩ := List.pairwise_cons.1 ih
    refine List.pairwise_cons.2 ⟨fun u hu => ?_, ih⟩
    rcases List.mem_cons.1 hu with rfl | hu
    · exact h0
    · have := h1 u hu; omega
theorem risO_next {os : List Wls} (h : risO os) (i : Nat) (hi : i + 1 < os.length) : os[i].a < os[i + 1].a := List.pairwise_iff_getElem.1 h i (i + 1) (by omega) hi (Nat.lt_succ_self i)
/-- A list that falls somewhere does not rise. -/
theorem risO_not {os : List Wls} {i : Nat} (hi : i + 1 < os.length) (h : os[i + 1].a ≤ os[i].a) : ¬ risO os := fun hr => by have := risO_next hr i hi; omega

theorem odF_t {t : List (List Ev)} {os : List Wls} (h : ¬ trF t = 0) : odF t os = trF t := by unfold odF; rw [if_neg h]
theorem odF_ok {t : List (List Ev)} {os : List Wls} (h : trF t = 0) (h2 : rightO t os) : odF t os = 0 := by unfold odF; rw [if_pos h, if_pos h2]
theorem odF_no {t : List (List Ev)} {os : List Wls} (h : trF t = 0) (h2 : ¬ rightO t os) : odF t os = 7 := by unfold odF; rw [if_pos h, if_neg h2]
theorem odF_zero {t : List (List Ev)} {os : List Wls} (h : odF t os = 0) : trF t = 0 ∧ rightO t os := by
  by_cases h1 : trF t = 0
  · by_cases h2 : rightO t os
    · exact ⟨h1, h2⟩
    · rw [odF_no h1 h2] at h; omega
  · rw [odF_t h1] at h; exact absurd h h1

def zeroQ (t : List (List Ev)) : List Nat := List.replicate t.length 0
def evsT (t : List (List Ev)) : Nat := (t.map List.length).sum
theorem evsT_sum : ∀ t : List (List Ev), evsT t = sumT t
  | [] => rfl
  | l :: r => by have := evsT_sum r; simp only [evsT] at this; simp only [evsT, List.map_cons, List.sum_cons, sumT]; omega
/-- The row that is told. -/
def rowW (t : List (List Ev)) (os : List Wls) : Option (List Nat) := firstW t os (evsT t) (zeroQ t)
def intR (r : List Nat) : List Int := r.map fun c : Nat => (c : Int)
/-- CheckTrace: its Code, Accept, Witness. -/
noncomputable def chkR (t : List (List Ev)) (os : List Wls) : Int × Bool × List Int :=
  if odF t os = 0 then (match rowW t os with | some r => (0, true, intR r) | none => (0, false, [])) else (odF t os, false, [])
/-- IsWitness. -/
def witP (t : List (List Ev)) (os : List Wls) (row : List Int) : Prop := odF t os = 0 ∧ row.length = evsT t ∧ (∀ c ∈ row, 0 ≤ c ∧ c < (t.length : Int)) ∧ walkW t os (zeroQ t) (row.map Int.toNat) = true
def lexI : List Int → List Int → Prop
  | [], _ => True
  | _ :: _, [] => False
  | a :: r, b :: s => a < b ∨ a = b ∧ lexI r s
theorem intR_back (r : List Nat) : (intR r).map Int.toNat = r := by
  unfold intR
  rw [List.map_map]
  exact (List.map_congr_left fun c _ => by simp).trans (List.map_id r)
theorem back_intR {r : List Int} (h : ∀ c ∈ r, 0 ≤ c) : intR (r.map Int.toNat) = r := by
  unfold intR
  rw [List.map_map]
  exact (List.map_congr_left fun c hc => by have := h c hc; simp; omega).trans (List.map_id r)
theorem lexI_of : ∀ {r s : List Nat}, lexL r s → lexI (intR r) (intR s)
  | [], _, _ => trivial
  | _ :: _, [], h => h.elim
  | a :: r, b :: s, h => by
    rcases h with h | ⟨rfl, h⟩
    · exact .inl (by show (a : Int) < (b : Int); omega)
    · exact .inr ⟨rfl, lexI_of h⟩
theorem walkW_in {t : List (List Ev)} {os : List Wls} : ∀ {r q : List Nat}, walkW t os q r = true → ∀ c ∈ r, c < t.length
  | [], _, _, c, hc => by simp at hc
  | d :: r, q, h, c, hc => by
    rw [walkW, Bool.and_eq_true, Bool.and_eq_true] at h
    rcases List.mem_cons.1 hc with rfl | hc
    · exact of_decide_eq_true h.1.1
    · exact walkW_in h.2 c hc
theorem chk_wit {t : List (List Ev)} {os : List Wls} {W : List Int} {C : Int} (h : chkR t os = (C, true, W)) : C = 0 ∧ witP t os W := by
  unfold chkR at h
  by_cases h0 : odF t os = 0
  · rw [if_pos h0] at h
    cases hr : rowW t os with
    | none => rw [hr] at h; simp at h
    | some r =>
      rw [hr] at h
      simp only [Prod.mk.injEq] at h
      obtain ⟨rfl, _, rfl⟩ := h
      obtain ⟨h1, h2⟩ := firstW_sound t os _ _ _ hr
      refine ⟨rfl, h0, by simp [intR, h2], fun c hc => ?_, by rw [intR_back]; exact h1⟩
      obtain ⟨d, hd, rfl⟩ := List.mem_map.1 hc
      have := walkW_in h1 d hd
      omega
  · rw [if_neg h0] at h; simp at h
theorem wit_chk {t : List (List Ev)} {os : List Wls} {row : List Int} (h : witP t os row) : ∃ W, chkR t os = (0, true, W) ∧ lexI W row := by
  obtain ⟨h0, h1, h2, h3⟩ := h
  obtain ⟨s, hs, hle⟩ := firstW_least t os (evsT t) (zeroQ t) (row.map Int.toNat) h3 (by rw [List.length_map]; exact h1)
  refine ⟨intR s, ?_, ?_⟩
  · unfold chkR rowW
    rw [if_pos h0, hs]
  · have := lexI_of hle
    rw [back_intR fun c hc => (h2 c hc).1] at this
    exact this
theorem chk_code (t : List (List Ev)) (os : List Wls) : (chkR t os).1 = odF t os ∧ ((chkR t os).2.1 = false → (chkR t os).2.2 = []) ∧ ((chkR t os).1 ≠ 0 → (chkR t os).2.1 = false) := by
  unfold chkR
  by_cases h0 : odF t os = 0
  · rw [if_pos h0, h0]
    cases rowW t os with
    | none => exact ⟨rfl, fun _ => rfl, fun _ => rfl⟩
    | some r => exact ⟨rfl, fun h => by simp at h, fun h => absurd rfl h⟩
  · rw [if_neg h0]
    exact ⟨rfl, fun _ => rfl, fun _ => rfl⟩
/-- A flat log: its picks are a witness, and it is accepted. -/
theorem flat_wit {ss : List Stp} {N : Nat} (h : logF ss (N : Int) = 0) (hf : flatR ss.reverse) : witP (spT N ss) (ordW ss) (ss.map (·.c)) := by
  obtain ⟨hn, _, hG, _⟩ := logF_zero h
  have hall := logG_all hG
  have h0 := odF_log h
  rw [sl_ok h, Int.toNat_natCast] at h0
  have hc : ∀ s ∈ ss, 0 ≤ s.c ∧ s.c < (N : Int) := fun s hs => by have := (hall s hs).1; omega
  refine ⟨h0, ?_, fun c hcm => ?_, ?_⟩
  · rw [List.length_map]
    have key : ∀ r : List Stp, okR N r → evsT (spT N r.reverse) = r.length := by
      intro r
      induction r with
      | nil =>
        intro _
        rw [List.reverse_nil, spT_nil]
        unfold evsT
        rw [List.map_replicate]
        simp
      | cons s r ih =>
        intro hr
        obtain ⟨i, hi, hl, _, hs⟩ := spT_step (r := r) (hr s (by simp))
        have hih := ih fun x hx => hr x (by simp [hx])
        rw [hs, List.length_cons, ← hih]
        generalize spT N r.reverse = t at hl
        have key2 : ∀ (t : List (List Ev)) (i : Nat), i < t.length → evsT (t.set i (t.getD i [] ++ [s.e])) = evsT t + 1 := by
          intro t
          induction t with
          | nil => intro i hi; simp at hi
          | cons l u ihu =>
            intro i hi
            rcases i with _ | i
            · simp only [List.set_cons_zero, evsT, List.map_cons, List.sum_cons, List.getD_cons_zero, List.length_append, List.length_singleton]
              omega
            · have := ihu i (by simpa using hi)
              simp only [evsT] at this
              simp only [List.set_cons_succ, evsT, List.map_cons, List.sum_cons, List.getD_cons_succ]
              omega
        exact key2 t i hl
    have := key ss.reverse (fun s hs => hc s (List.mem_reverse.1 hs))
    rw [List.reverse_reverse, List.length_reverse] at this
    exact this.symm
  · obtain ⟨s, hs, rfl⟩ := List.mem_map.1 hcm
    rw [spT_length]
    exact hc s hs
  · have hw := flat_walk (N := N) ss [] hc (fun s hs => (evF_zero (hall s hs).2).1) hf
    have hz : zeroQ (spT N ss) = qOf N [] := by
      unfold zeroQ qOf
      rw [spT_length]
      apply List.ext_getElem
      · simp
      · intro j h1 h2
        simp [cntL]
    rw [List.nil_append] at hw
    rw [hz, List.map_map]
    exact hw
end Go.Proofs.Ytdmdljimbmhecaa
