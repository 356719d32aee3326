/- What the laws' walks rest upon, part 21. -/
import Derived.Test.YtnnfkmjhaljplaaGreatDoorM19
import Derived.Test.YtnnfkmjhaljplaaGreatDoorM03
import Derived.Test.YtnnfkmjhaljplaaGreatDoorM20
namespace Go.Proofs.YtnnfkmjhaljplaaGreatDoor
open Go.RowKit
theorem wlR_set_a : ∀ {os : List Wls} {us : List Value}, us.length = os.length → ∀ (i : Nat) (_ : i < os.length) (a : Int) (l : List Wid), wlR (os.set i ⟨a, l⟩) us = (wlR os us).set (i * 2) (.int .i64 a)
  | [], _, _, i, h, _, _ => by simp at h
  | _ :: _, [], h, _, _, _, _ => by simp at h
  | x :: r, u :: us, h, 0, _, a, l => rfl
  | x :: r, u :: us, h, i + 1, hi, a, l => by
    have := wlR_set_a (os := r) (us := us) (by simpa using h) i (by simpa using hi) a l
    rw [show (i + 1) * 2 = i * 2 + 1 + 1 by omega]
    simp only [List.set_cons_succ, wlR, this]
theorem wlR_set_u : ∀ {os : List Wls} {us : List Value}, us.length = os.length → ∀ (i : Nat) (h : i < os.length) (l : List Wid) (u : Value), wlR (os.set i ⟨os[i].a, l⟩) (us.set i u) = (wlR os us).set (i * 2 + 1) u
  | [], _, _, i, h, _, _ => by simp at h
  | _ :: _, [], h, _, _, _, _ => by simp at h
  | x :: r, v :: us, h, 0, _, l, u => rfl
  | x :: r, v :: us, h, i + 1, hi, l, u => by
    have := wlR_set_u (os := r) (us := us) (by simpa using h) i (by simpa using hi) l u
    rw [show (i + 1) * 2 + 1 = i * 2 + 1 + 1 + 1 by omega]
    simp only [List.set_cons_succ, wlR, List.getElem_cons_succ, this]
theorem wlR_ids : ∀ {os : List Wls} {us : List Value}, us.length = os.length → ∀ (i : Nat) (h : i < os.length) (l : List Wid), wlR (os.set i ⟨os[i].a, l⟩) us = wlR os us
  | [], _, _, i, h, _ => by simp at h
  | _ :: _, [], h, _, _, _ => by simp at h
  | x :: r, v :: us, h, 0, _, l => rfl
  | x :: r, v :: us, h, i + 1, hi, l => by
    have := wlR_ids (os := r) (us := us) (by simpa using h) i (by simpa using hi) l
    simp only [List.set_cons_succ, wlR, List.getElem_cons_succ, this]
theorem wlR_one : ∀ {os : List Wls} {us : List Value}, (∀ u ∈ us, u.oneCell' = true) → ∀ x ∈ wlR os us, x.oneCell' = true
  | [], _, _, x, h => by simp [wlR] at h
  | _ :: _, [], _, x, h => by simp [wlR] at h
  | y :: r, u :: us, hu, x, h => by
    simp only [wlR, List.mem_cons] at h
    rcases h with rfl | rfl | h
    · rfl
    · exact hu _ (by simp)
    · exact wlR_one (fun v hv => hu v (by simp [hv])) x h
section
variable {w w1 w' : World} {base : Nat} {v v' : Value} {os : List Wls} {us : List Value}
theorem OwnW.at_ (h : OwnW w base v os us) {i : Nat} {u : Value} (hu : us[i]? = some u) : ∃ (hi : i < os.length), w.ownsRow base 191 2 u os[i].ids.length (cels (wids os[i].ids)) := by
  have hi : i < os.length := by
    rcases Nat.lt_or_ge i us.length with a | a
    · rw [← h.len]; exact a
    · rw [List.getElem?_eq_none a] at hu; exact absurd hu (by simp)
  obtain ⟨u', h1, h2⟩ := h.rows i hi
  rw [hu] at h1
  cases h1
  exact ⟨hi, h2⟩
theorem OwnW.far (h : OwnW w base v os us) {i : Nat} {u : Value} (hu : us[i]? = some u) : ∀ b, u.ownBlock = some b → v.ownBlock ≠ some b := by
  obtain ⟨_, h2⟩ := h.at_ hu
  exact own_types h2 h.row (by decide)
/-- Whatever turns no row of it leaves it as it is. -/
theorem OwnW.keptB {row : Option Nat} (h : OwnW w base v os us) (hg : w.grownBy w' row) (hv : ∀ b, v.ownBlock = some b → row ≠ some b) (hu : ∀ u ∈ us, ∀ b, u.ownBlock = some b → row ≠ some b) : OwnW w' base v os us :=
  ⟨h.row.kept hg (own_sep hv), h.len, fun i hi => by
    obtain ⟨u, h1, h2⟩ := h.rows i hi
    exact ⟨u, h1, h2.kept hg (own_sep (hu u (List.mem_of_getElem? h1)))⟩, h.apart⟩
theorem OwnW.n_eq {A : Option Addr} {n c : Nat} (h : OwnW w base (.slice A n c) os us) : n = os.length := by
  rcases h.row.2 with ⟨h', h''⟩ | ⟨g, cap, cur, h', _⟩
  · simp only [Value.slice.injEq] at h'; omega
  · simp only [Value.slice.injEq] at h'; omega
theorem OwnW.fresh (h : OwnW w base v os us) {b : Nat} (hb : w.heap.size ≤ b) {j : Nat} {x : Value} (hx : us[j]? = some x) : x.ownBlock ≠ some b := fun e => by
  obtain ⟨_, h2⟩ := h.at_ hx
  have := h2.lt b e
  omega
theorem OwnW.setA {gv n c : Nat} (h : OwnW w base (.slice (some ⟨gv, 0, none⟩) n c) os us) {i : Nat} (hi : i < os.length) (a : Int) : OwnW (w.setCell ⟨gv, i * 2, none⟩ (.int .i64 a)) base (.slice (some ⟨gv, 0, none⟩) n c) (os.set i ⟨a, os[i].ids⟩) us := by
  obtain rfl := h.n_eq
  refine ⟨by rw [List.length_set, wlR_set_a h.len i hi]; exact (h.row.stored _ _).1, by rw [List.length_set]; exact h.len, fun j hj => ?_, h.apart⟩
  have hj' : j < os.length := by rw [List.length_set] at hj; exact hj
  obtain ⟨u, h1, h2⟩ := h.rows j hj'
  have hk := h2.kept (grown_set w gv (i * 2) (.int .i64 a)) (own_sep fun b hb e => h.far h1 b hb (by simpa [Value.ownBlock] using e))
  refine ⟨u, h1, ?_⟩
  by_cases hji : i = j
  · subst hji
    rw [List.getElem_set_self]
    exact hk
  · rw [List.getElem_set_ne hji]
    exact hk
/-- Ids turned in their own memory. -/
theorem OwnW.turn (h : OwnW w base v os us) {i : Nat} {u : Value} {l : List Wid} (hui : us[i]? = some u) (hi : i < os.length) (hg : w.grownBy w1 u.ownBlock) (hu' : w1.ownsRow base 191 2 u l.length (cels (wids l))) :
    OwnW w1 base v (os.set i ⟨os[i].a, l⟩) us := by
  refine ⟨?_, by rw [List.length_set]; exact h.len, fun j hj => ?_, h.apart⟩
  · rw [List.length_set, wlR_ids h.len i hi]
    exact h.row.kept hg (own_sep fun b hb e => h.far hui b e hb)
  · have hj' : j < os.length := by rw [List.length_set] at hj; exact hj
    obtain ⟨x, h1, h2⟩ := h.rows j hj'
    refine ⟨x, h1, ?_⟩
    by_cases hji : i = j
    · subst hji
      rw [hui] at h1
      cases h1
      rw [List.getElem_set_self]
      exact hu'
    · rw [List.getElem_set_ne hji]
      exact h2.kept hg (own_sep fun b hb e => h.apart i j u x hji hui h1 b e hb)
/-- Another row of ids in the place of one. -/
theorem OwnW.swap {gv n c i : Nat} {u u' : Value} {row : Option Nat} {l : List Wid} (h : OwnW w base (.slice (some ⟨gv, 0, none⟩) n c) os us) (hui : us[i]? = some u) (hi : i < os.length) (hg : w.grownBy w1 row) (hrow : ∀ b, row = some b → u.ownBlock = some b ∨ b < base)
    (hu' : w1.ownsRow base 191 2 u' l.length (cels (wids l))) (hat : ∀ b, u'.ownBlock = some b → u.ownBlock = some b ∨ ∀ (j : Nat) (x : Value), i ≠ j → us[j]? = some x → x.ownBlock ≠ some b) :
    OwnW (w1.setCell ⟨gv, i * 2 + 1, none⟩ u') base (.slice (some ⟨gv, 0, none⟩) n c) (os.set i ⟨os[i].a, l⟩) (us.set i u') := by
  obtain rfl := h.n_eq
  have hgv := h.row.lt gv rfl
  have hr1 := h.row.kept hg (own_sep fun b hb e => by
    simp only [Value.ownBlock, Option.some.injEq] at hb
    subst hb
    rcases hrow _ e with a | a
    · exact h.far hui _ a rfl
    · omega)
  have hne : ∀ b, u'.ownBlock = some b → b ≠ gv := fun b hb e => own_types hu' hr1 (by decide) b hb (by rw [e]; rfl)
  have hrk : ∀ (x : Value) (n : Nat) (xs : List Value) (j : Nat), i ≠ j → us[j]? = some x → w.ownsRow base 191 2 x n xs → ∀ b, x.ownBlock = some b → row ≠ some b := by
    intro x n xs j hji hj hx b hb e
    rcases hrow b e with a | a
    · exact h.apart i j u x hji hui hj b a hb
    · have := hx.lt b hb; omega
  refine ⟨?_, by rw [List.length_set, List.length_set]; exact h.len, fun j hj => ?_, ?_⟩
  · rw [List.length_set, wlR_set_u h.len i hi]
    exact (hr1.stored _ u').1
  · have hj' : j < os.length := by rw [List.length_set] at hj; exact hj
    by_cases hji : i = j
    · subst hji
      refine ⟨u', by rw [List.getElem?_set_self (by rw [h.len]; exact hj')], ?_⟩
      rw [List.getElem_set_self]
      exact hu'.kept (grown_set w1 gv _ u') (own_sep fun b hb e => hne b hb (by simpa using e.symm))
    · obtain ⟨x, h1, h2⟩ := h.rows j hj'
      refine ⟨x, by rw [List.getElem?_set_ne hji]; exact h1, ?_⟩
      rw [List.getElem_set_ne hji]
      exact (h2.kept hg (own_sep (hrk x _ _ j hji h1 h2))).kept (grown_set w1 gv _ u') (own_sep fun b hb e => h.far h1 b hb (by simpa [Value.ownBlock] using e))
  · have key : ∀ (j : Nat) (x : Value), (us.set i u')[j]? = some x → (j = i ∧ x = u') ∨ (i ≠ j ∧ us[j]? = some x) := by
      intro j x hx
      by_cases hji : i = j
      · subst hji
        rw [List.getElem?_set_self (by rw [h.len]; exact hi)] at hx
        exact .inl ⟨rfl, (Option.some.inj hx).symm⟩
      · rw [List.getElem?_set_ne hji] at hx
        exact .inr ⟨hji, hx⟩
    intro p q x y hpq hx hy b hb
    rcases key p x hx with ⟨p1, rfl⟩ | ⟨p1, p2⟩
    · rcases key q y hy with ⟨q1, rfl⟩ | ⟨q1, q2⟩
      · omega
      · rcases hat b hb with a | a
        · exact h.apart i q u y q1 hui q2 b a
        · exact a q y q1 q2
    · rcases key q y hy with ⟨q1, rfl⟩ | ⟨q1, q2⟩
      · intro e
        rcases hat b e with a | a
        · exact h.apart i p u x p1 hui p2 b a hb
        · exact a p x p1 p2 hb
      · exact h.apart p q x y hpq p2 q2 b hb
/-- A new list behind the others. -/
theorem OwnW.push {u : Value} {x : Wls} (h : OwnW w base v os us) (hu : w.ownsRow base 191 2 u x.ids.length (cels (wids x.ids))) (hf : ∀ b, u.ownBlock = some b → ∀ (i : Nat) (u' : Value), us[i]? = some u' → u'.ownBlock ≠ some b)
    (ho : w'.ownsRow base 159 2 v' (os.length + 1) (wlR os us ++ [.int .i64 x.a, u])) (hg : w.grownBy w' v.ownBlock) : OwnW w' base v' (os ++ [x]) (us ++ [u]) := by
  have hkeep : ∀ (y : Value) (n : Nat) (xs : List Value), w.ownsRow base 191 2 y n xs → w'.ownsRow base 191 2 y n xs := fun y n xs hy => hy.kept hg (own_sep fun b hb e => own_types hy h.row (by decide) b hb e)
  refine ⟨by rw [List.length_append, List.length_singleton, wlR_append h.len]; exact ho, by simp [h.len], fun i hi => ?_, ?_⟩
  · rw [List.length_append, List.length_singleton] at hi
    by_cases hlt : i < os.length
    · obtain ⟨y, h1, h2⟩ := h.rows i hlt
      refine ⟨y, by rw [List.getElem?_append_left (by rw [h.len]; exact hlt)]; exact h1, ?_⟩
      rw [List.getElem_append_left hlt]
      exact hkeep _ _ _ h2
    · obtain rfl : i = os.length := by omega
      refine ⟨u, by rw [List.getElem?_append_right (by rw [h.len]; exact Nat.le_refl _), h.len, Nat.sub_self]; rfl, ?_⟩
      rw [List.getElem_append_right (Nat.le_refl _)]
      simp only [Nat.sub_self, List.getElem_cons_zero]
      exact hkeep _ _ _ hu
  · have key : ∀ (i : Nat) (y : Value), (us ++ [u])[i]? = some y → (i < us.length ∧ us[i]? = some y) ∨ (i = us.length ∧ y = u) := by
      intro i y hy
      by_cases hlt : i < us.length
      · rw [List.getElem?_append_left hlt] at hy
        exact .inl ⟨hlt, hy⟩
      · rw [List.getElem?_append_right (by omega)] at hy
        have hi : i - us.length = 0 := by
          rcases Nat.eq_zero_or_pos (i - us.length) with a | a
          · exact a
          · rw [List.getElem?_eq_none (by simp; omega)] at hy; exact absurd hy (by simp)
        rw [hi] at hy
        simp only [List.getElem?_cons_zero, Option.some.injEq] at hy
        exact .inr ⟨by omega, hy.symm⟩
    intro i j y z hij hy hz b hb
    rcases key i y hy with ⟨i1, i2⟩ | ⟨i1, rfl⟩
    · rcases key j z hz with ⟨j1, j2⟩ | ⟨j1, rfl⟩
      · exact h.apart i j y z hij i2 j2 b hb
      · intro e
        exact hf b e i y i2 hb
    · rcases key j z hz with ⟨j1, j2⟩ | ⟨j1, rfl⟩
      · exact hf b hb j z j2
      · omega
theorem OwnW.bound (h : OwnW w base v os us) : ∀ u ∈ us, ∀ b, u.ownBlock = some b → base ≤ b ∧ b < w.heap.size := fun u hu b hb => by
  obtain ⟨i, hi⟩ := List.getElem?_of_mem hu
  obtain ⟨_, h1⟩ := h.at_ hi
  exact h1.lt b hb
theorem OwnW.only {vs : List Value} (h : OwnW w base v os us) (ho : Only vs w w') (hf : ∀ x ∈ vs, ∀ b, x.ownBlock = some b → v.ownBlock ≠ some b ∧ ∀ u ∈ us, u.ownBlock ≠ some b) : OwnW w' base v os us :=
  ⟨ho.own _ _ _ _ _ _ h.row fun b hb x hx e => (hf x hx b e).1 hb, h.len, fun i hi => by
    obtain ⟨u, h1, h2⟩ := h.rows i hi
    exact ⟨u, h1, ho.own _ _ _ _ _ _ h2 fun b hb x hx e => (hf x hx b e).2 u (List.mem_of_getElem? h1) hb⟩, h.apart⟩
end
/-- Write lists of nothing, as they are made. -/
def noW : Wls := ⟨0, []⟩
theorem wlR_made (n : Nat) : wlR (List.replicate n noW) (List.replicate n (.slice none 0 0)) = (madeCells (Value.agg #[.int .i64 0, .slice none 0 0]).cells (n * 2)).toList := by
  apply List.ext_getElem?
  intro i
  obtain ⟨j, r, rfl, hr⟩ : ∃ j r, i = j * 2 + r ∧ r < 2 := ⟨i / 2, i % 2, by omega, by omega⟩
  have hl := wlR_length (os := List.replicate n noW) (us := List.replicate n (.slice none 0 0)) (by simp)
  rw [List.length_replicate] at hl
  by_cases hj : j < n
  · obtain ⟨g0, g1⟩ := wlR_get (os := List.replicate n noW) (us := List.replicate n (.slice none 0 0)) (by simp) j (by simpa using hj)
    have e : ∀ k, k < n * 2 → (madeCells (Value.agg #[.int .i64 0, .slice none 0 0]).cells (n * 2)).toList[k]? = some (if k % 2 = 0 then .int .i64 0 else .slice none 0 0) := by
      intro k hk
      rw [List.getElem?_eq_getElem (by simpa [madeCells] using hk)]
      simp only [madeCells, Value.cells, Array.getElem_toList]
      rcases (show k % 2 = 0 ∨ k % 2 = 1 by omega) with h | h <;> simp [h]
    rcases (show r = 0 ∨ r = 1 by omega) with rfl | rfl
    · rw [Nat.add_zero, g0, e _ (by omega), if_pos (by omega)]
      simp [noW]
    · rw [g1, e _ (by omega), if_neg (by omega), List.getElem?_replicate, if_pos hj]
  · rw [List.getElem?_eq_none (by omega), List.getElem?_eq_none (by simp [madeCells]; omega)]
theorem ownW_made {w : World} {base n : Nat} {v : Value} (h : w.ownsRow base 159 2 v n (madeCells (Value.agg #[.int .i64 0, .slice none 0 0]).cells (n * 2)).toList) : OwnW w base v (List.replicate n noW) (List.replicate n (.slice none 0 0)) := by
  refine ⟨by rw [List.length_replicate, wlR_made]; exact h, by simp, fun i hi => ?_, fun i j u u' _ hu _ b hb => ?_⟩
  · rw [List.length_replicate] at hi
    refine ⟨.slice none 0 0, by rw [List.getElem?_replicate, if_pos hi], ?_⟩
    simp only [List.getElem_replicate]
    exact World.ownsRow_nil _ _ _ _
  · have := List.eq_of_mem_replicate (List.mem_of_getElem? hu)
    rw [this] at hb
    cases hb
/-- After k rounds of a copy. -/
def halfW (os : List Wls) (k : Nat) : List Wls := os.take k ++ List.replicate (os.length - k) noW
theorem halfW_zero (os : List Wls) : halfW os 0 = List.replicate os.length noW := by simp [halfW]
theorem halfW_all (os : List Wls) : halfW os os.length = os := by simp [halfW]
theorem halfW_length (os : List Wls) (k : Nat) (h : k ≤ os.length) : (halfW os k).length = os.length := by
  unfold halfW
  rw [List.length_append, List.length_take, List.length_replicate]; omega
theorem halfW_set (os : List Wls) (k : Nat) (h : k < os.length) (a : Int) (l : List Wid) : ((halfW os k).set k ⟨a, l⟩).set k os[k] = halfW os (k + 1) := by
  rw [List.set_set]
  unfold halfW
  rw [show os.length - k = (os.length - (k + 1)) + 1 by omega, List.replicate_succ, List.take_succ_eq_append_getElem h]
  have hl : (os.take k).length = k := by rw [List.length_take]; omega
  rw [List.set_append_right _ _ (by omega), hl, Nat.sub_self, List.set_cons_zero, List.append_assoc]
  rfl
set_option maxRecDepth 100000 in
set_option maxHeartbeats 1600000 in
theorem toWriteListS_own (os : List Wls) (A : Option Addr) (c : Nat) (w : World) (hm : os.length + sumO os ≤ 1048576) (h : RdW w w.heap.size A os) :
    Calls Tryz.prog 35 #[.slice A os.length c] w fun e w' => ∃ g us, e = .returned (.slice (some ⟨g, 0, none⟩) os.length os.length) ∧ OwnW w' w.heap.size (.slice (some ⟨g, 0, none⟩) os.length os.length) os us ∧ Below w.heap.size w w' := by
  have HM : ∀ x ∈ os, x.ids.length ≤ 1048576 := by
    have key : ∀ {l : List Wls} {x : Wls}, x ∈ l → x.ids.length ≤ sumO l := by
      intro l
      induction l with
      | nil => intro x h; simp at h
      | cons y r ih =>
        intro x h
        rcases List.mem_cons.1 h with rfl | h
        · simp [sumO]
        · have := ih h; simp only [sumO]; omega
    intro x hx
    have := key hx
    omega
  have hm1 : os.length ≤ 1048576 := by omega
  clear hm
  obtain ⟨i0, hi, hz0, hz1, hz2⟩ := info_parts info_wls
  go_enter Tryz.func35, Tryz.ntmps35
  go_wp2_with (at_make; refine wpList_make_full _ rfl _ _ 29 rfl w.heap.size 159 i0 (.agg #[.int .i64 0, .slice none 0 0]) 2 Tryz.underlying29 hi hz0 hz1 .i64 .i64 _ _ os.length rfl rfl rfl rfl (by rw [hz2]; omega) (by unfold maxLen; omega) (Nat.le_refl _) ?_; intro w1 hown hg)
  have oW := ownW_made hown
  rw [← halfW_zero] at oW
  have hb1 : Below w.heap.size w w1 := (Below.refl _ _).grown hg (Nat.le_refl _) (by simp)
  clear hg hown
  go_loopw [4] (fun i wr => ∃ (k : Nat) (us : List Value), k ≤ os.length ∧ i = .int .i64 k ∧ OwnW wr w.heap.size (.slice (some ⟨w.heap.size, 0, none⟩) os.length os.length) (halfW os k) us ∧ Below w.heap.size w wr) (fun i _ => os.length - (intOf i).toNat)
  case atStart => exact ⟨0, _, Nat.zero_le _, rfl, oW, hb1⟩
  case round =>
    obtain ⟨k, us, hk, rfl, ho, hb⟩ := hrel
    clear oW hb1
    have hlen := halfW_length os k hk
    by_cases hlt : k < os.length
    · obtain ⟨b, off, a, d, rfl, hbb, hc0, hc1, hle, hcm, hr⟩ := (h.below hb).get hlt
      have hz : w.heap.size < wr.heap.size := (ho.row.lt w.heap.size rfl).2
      have HS := hide (halfW_set os k hlt)
      have hkh : k < (halfW os k).length := by omega
      obtain ⟨x, hx⟩ : ∃ x, x = os[k] := ⟨_, rfl⟩
      have hxm : x.ids.length ≤ 1048576 := by rw [hx]; exact HM _ (List.getElem_mem hlt)
      rw [← hx] at hc0 hc1 hle hr HS
      obtain ⟨H, hH⟩ : ∃ H, H = halfW os k := ⟨_, rfl⟩
      rw [← hH] at ho hkh hlen HS
      have HH := hide hH
      clear hx hH
      go_wp2_with fail
      refine (toWriteList_any x a d _ hxm hr.lt).mono ?_
      rintro e w2 ⟨g2, rfl, o2, hb2⟩
      have hb3 := hb.trans (hb2.mono hb.size)
      have ho2 := ho.below hb2
      have hrow := ho2.row
      rw [hlen] at hrow
      have hf0 := hrow.frozenAt (k * 2)
      have hf1 := hrow.frozenAt (k * 2 + 1)
      have hwl := wlR_length ho2.len
      obtain ⟨v0, hx0⟩ : ∃ v, w2.cell? ⟨w.heap.size, k * 2, none⟩ = some v := by
        rw [hrow.cellAt (k * 2) (by omega)]
        exact ⟨_, List.getElem?_eq_getElem (by omega)⟩
      obtain ⟨v1, hx1⟩ : ∃ v, w2.cell? ⟨w.heap.size, k * 2 + 1, none⟩ = some v := by
        rw [hrow.cellAt (k * 2 + 1) (by omega)]
        exact ⟨_, List.getElem?_eq_getElem (by omega)⟩
      obtain ⟨u, hu, _⟩ := ho2.rows k hkh
      have hg2 := o2.lt g2 rfl
      have hA := ho2.setA hkh x.a
      have hkh2 : k < (H.set k ⟨x.a, H[k].ids⟩).length := by rw [List.length_set]; exact hkh
      have o3 := (own_mono o2 (Nat.le_of_lt hz)).kept (grown_set w2 w.heap.size (k * 2) (.int .i64 x.a)) (own_sep fun b hb e => by simp only [Value.ownBlock, Option.some.injEq] at hb e; omega)
      have hS := hA.swap (l := x.ids) hu hkh2 (World.grownBy.refl _ none) (fun b e => by cases e) o3 (fun b hb => .inr fun j y _ hy => ho.fresh (by simp only [Value.ownBlock, Option.some.injEq] at hb; omega) hy)
      rw [List.getElem_set_self] at hS
      have e : (H.set k ⟨x.a, H[k].ids⟩).set k ⟨x.a, x.ids⟩ = halfW os (k + 1) := by have := HH.out; subst this; exact HS.out _ _
      rw [e] at hS
      have HO := hide hS
      clear hS hA o3 ho2 hrow o2 hb2 ho e hu HS
      go_wp2
      go_roundw
      case rel => exact ⟨k + 1, _, by omega, by go_num, HO.out, (hb3.setCell (Nat.le_refl _) _).setCell (Nat.le_refl _) _⟩
      case measure => simp [intOf]; omega
    · obtain rfl : k = os.length := by omega
      rw [halfW_all] at ho
      go_wp2
      go_ret
      exact ⟨_, us, rfl, ho, hb⟩
/-- The marks of ids, and of write lists, laid from k on. -/
def mkD (k n : Nat) : List Wid := (List.range n).map fun i => ⟨((k + i * 2 : Nat) : Int), ((k + i * 2 + 1 : Nat) : Int)⟩
theorem mkD_wids (k n : Nat) : wids (mkD k n) = mkC k n := by
  unfold wids mkD mkC
  rw [List.map_map]
  rfl
theorem mkD_length (k n : Nat) : (mkD k n).length = n := by simp [mkD]
def mkW : Nat → List Wls → List Wls
  | _, [] => []
  | k, x :: r => ⟨(k : Int), mkD (k + 1) x.ids.length⟩ :: mkW (k + 1 + x.ids.length * 2) r
theorem mkW_length : ∀ (k : Nat) (os : List Wls), (mkW k os).length = os.length
  | _, [] => rfl
  | k, l :: r => by simp [mkW, mkW_length]
def endW (k : Nat) (os : List Wls) : Nat := k + os.length + sumO os * 2
theorem mkW_get : ∀ (k : Nat) (os : List Wls) (i : Nat) (h : i < os.length) (h' : i < (mkW k os).length), (mkW k os)[i] = ⟨(endW k (os.take i) : Nat), mkD (endW k (os.take i) + 1) os[i].ids.length⟩
  | k, l :: r, 0, _, _ => by simp [mkW, endW, sumO]
  | k, l :: r, i + 1, h, h' => by
    simp only [mkW, List.getElem_cons_succ]
    rw [mkW_get (k + 1 + l.ids.length * 2) r i (by simpa using h) (by rw [mkW_length]; simpa using h)]
    simp only [endW, List.take_succ_cons, sumO, List.length_cons]
    rw [show k + 1 + l.ids.length * 2 + (r.take i).length + sumO (r.take i) * 2 = k + ((r.take i).length + 1) + (l.ids.length + sumO (r.take i)) * 2 by omega]
theorem sumO_append : ∀ (a b : List Wls), sumO (a ++ b) = sumO a + sumO b
  | [], b => by simp [sumO]
  | x :: a, b => by simp only [List.cons_append, sumO, sumO_append a b]; omega
theorem endW_snoc (k : Nat) (os : List Wls) (i : Nat) (h : i < os.length) : endW k (os.take (i + 1)) = endW k (os.take i) + 1 + os[i].ids.length * 2 := by
  unfold endW
  rw [List.take_succ_eq_append_getElem h, sumO_append, List.length_append, List.length_singleton]
  simp only [sumO]
  omega
theorem endW_le (k : Nat) (os : List Wls) (i : Nat) : endW k (os.take i) ≤ endW k os := by
  have h := sumO_append (os.take i) (os.drop i)
  rw [List.take_append_drop] at h
  unfold endW
  have : (os.take i).length ≤ os.length := by rw [List.length_take]; omega
  omega
/-- After i rounds of marking. -/
def halfV (k : Nat) (os : List Wls) (i : Nat) : List Wls := (mkW k os).take i ++ os.drop i
theorem halfV_zero (k : Nat) (os : List Wls) : halfV k os 0 = os := by simp [halfV]
theorem halfV_all (k : Nat) (os : List Wls) : halfV k os os.length = mkW k os := by
  unfold halfV
  rw [List.drop_length, List.append_nil, List.take_of_length_le (by rw [mkW_length]; exact Nat.le_refl _)]
theorem halfV_length (k : Nat) (os : List Wls) (i : Nat) (h : i ≤ os.length) : (halfV k os i).length = os.length := by
  unfold halfV
  rw [List.length_append, List.length_take, List.length_drop, mkW_length]; omega
theorem halfV_get (k : Nat) (os : List Wls) (i : Nat) (h : i < os.length) (h' : i < (halfV k os i).length) : (halfV k os i)[i] = os[i] := by
  have e : (halfV k os i)[i]? = os[i]? := by
    unfold halfV
    rw [List.getElem?_append_right (by rw [List.length_take, mkW_length]; omega), List.length_take, mkW_length, List.getElem?_drop]
    congr 1
    omega
  rw [List.getElem?_eq_getElem h', List.getElem?_eq_getElem h] at e
  exact Option.some.inj e
theorem halfV_set (k : Nat) (os : List Wls) (i : Nat) (h : i < os.length) : (halfV k os i).set i ⟨(endW k (os.take i) : Nat), mkD (endW k (os.take i) + 1) os[i].ids.length⟩ = halfV k os (i + 1) := by
  have hm : i < (mkW k os).length := by rw [mkW_length]; exact h
  unfold halfV
  rw [List.drop_eq_getElem_cons h, List.take_succ_eq_append_getElem hm, mkW_get k os i h hm]
  have hl : ((mkW k os).take i).length = i := by rw [List.length_take]; omega
  rw [List.set_append_right _ _ (by omega), hl, Nat.sub_self, List.set_cons_zero, List.append_assoc]
  rfl
set_option maxRecDepth 100000 in
set_option maxHeartbeats 1600000 in
theorem markWriteListS_any (base k : Nat) (os : List Wls) (us : List Value) (A : Option Addr) (c : Nat) (w : World) (hk : endW k os ≤ 1073741824) (ht : os.length ≤ 1048576) (h : OwnW w base (.slice A os.length c) os us) :
    Calls Tryz.prog 40 #[.slice A os.length c, .int .i64 k] w fun e w' => e = .returned (.int .i64 (endW k os : Nat)) ∧ OwnW w' base (.slice A os.length c) (mkW k os) us ∧ Only (.slice A os.length c :: us) w w' := by
  go_enter Tryz.func40, Tryz.ntmps40
  go_wp2
  go_loopw [1, 5] (fun q i wr => ∃ j : Nat, j ≤ os.length ∧ i = .int .i64 j ∧ (∃ K, Hid (K = endW k (os.take j)) ∧ q = .int .i64 (K : Nat)) ∧ OwnW wr base (.slice A os.length c) (halfV k os j) us ∧ Only (.slice A os.length c :: us) w wr) (fun _ i _ => os.length - (intOf i).toNat)
  case atStart => exact ⟨0, Nat.zero_le _, rfl, ⟨k, hide (by simp [endW, sumO]), rfl⟩, by rw [halfV_zero]; exact h, Only.refl _ _⟩
  case round =>
    obtain ⟨j, hj, rfl, ⟨K, HK, rfl⟩, ho, hs⟩ := hrel
    have hlen := halfV_length k os j hj
    by_cases hlt : j < os.length
    · obtain ⟨g, rfl⟩ : ∃ g, A = some ⟨g, 0, none⟩ := by
        rcases ho.row.2 with ⟨h', h''⟩ | ⟨g, cap, cur, h', _⟩
        · rw [hlen] at h''; omega
        · simp only [Value.slice.injEq] at h'
          exact ⟨g, h'.1⟩
      have hj1 : j < (halfV k os j).length := by omega
      have hA := ho.setA hj1 (K : Int)
      have hrow := ho.row
      have hwl := wlR_length ho.len
      rw [hlen] at hrow
      have hf0 := hrow.frozenAt (j * 2)
      obtain ⟨v0, hx0⟩ : ∃ v, wr.cell? ⟨g, j * 2, none⟩ = some v := by
        rw [hrow.cellAt (j * 2) (by omega)]
        exact ⟨_, List.getElem?_eq_getElem (by omega)⟩
      have hj2 : j < ((halfV k os j).set j ⟨(K : Int), (halfV k os j)[j].ids⟩).length := by rw [List.length_set]; exact hj1
      obtain ⟨u, hui, hru⟩ := hA.rows j hj2
      have hrowA := hA.row
      obtain ⟨_, hgu⟩ := wlR_get hA.len j hj2
      have hwl2 := wlR_length hA.len
      rw [List.length_set, hlen] at hrowA hwl2
      have hget := halfV_get k os j hlt hj1
      have HST := hide (halfV_set k os j hlt)
      rw [← HK.out] at HST
      obtain ⟨n, hn⟩ : ∃ n, n = os[j].ids.length := ⟨_, rfl⟩
      rw [← hn] at HST
      have hnl : (((halfV k os j).set j ⟨(K : Int), (halfV k os j)[j].ids⟩)[j]'hj2).ids.length = n := by rw [List.getElem_set_self, hget, hn]
      rw [hnl] at hru
      obtain ⟨a, d, hud⟩ := own_shape hru
      subst hud
      obtain ⟨W1, hW1⟩ : ∃ W1, W1 = wr.setCell ⟨g, j * 2, none⟩ (.int .i64 (K : Int)) := ⟨_, rfl⟩
      rw [← hW1] at hA hrowA hru
      have hx1 : W1.cell? ⟨g, j * 2 + 1, none⟩ = some (.slice a n d) := by
        rw [hrowA.cellAt (j * 2 + 1) (by omega), hgu]
        exact hui
      have hend := endW_snoc k os j hlt
      rw [← hn, ← HK.out] at hend
      have hle : endW k (os.take (j + 1)) ≤ endW k os := endW_le k os (j + 1)
      have HE := hide hend
      have hk2 : (K + 1) + n * 2 ≤ 1073741824 := by omega
      have MK := hide (markWriteIdS_any base a n d (K + 1) _ W1 hk2 hru)
      have GR := hide (show wr.grownBy W1 (some g) by rw [hW1]; exact grown_set wr g _ _)
      have HW1 := hide hW1
      have HA := hide hA
      have HGET := hide hget
      clear hend hle hrow hwl hru hrowA hgu hwl2 hnl hget hn hW1 hA ho
      have HLEN := hide hlen
      clear hlen
      rw [show ((K + 1 : Nat) : Int) = (K : Int) + 1 by omega, show ((K + 1 + n * 2 : Nat) : Int) = (K : Int) + 1 + (n : Int) * 2 by omega] at MK
      go_upto_region 6 with fail
      rw [← HW1.out]
      go_wp2_with fail
      refine MK.out.mono ?_
      rintro e w2 ⟨rfl, o2, g2⟩
      rw [← mkD_wids] at o2
      have hT := HA.out.turn (l := mkD (K + 1) n) hui hj2 g2 (by rw [mkD_length]; exact o2)
      rw [List.set_set, List.getElem_set_self, HST.out] at hT
      have hS := (hs.trans (Only.of_grown (u := .slice (some ⟨g, 0, none⟩) os.length c) GR.out (by simp))).trans (Only.of_grown g2 (List.mem_cons_of_mem _ (List.mem_of_getElem? hui)))
      clear g2 o2 HA hs hx1 MK
      go_wp2
      go_roundw
      case rel => exact ⟨j + 1, by omega, by go_num, ⟨K + 1 + n * 2, hide HE.out.symm, by go_num⟩, hT, hS⟩
      case measure => simp [intOf]; omega
    · obtain rfl : j = os.length := by omega
      rw [halfV_all] at ho
      go_wp2
      go_ret
      exact ⟨by rw [HK.out, List.take_length]; rfl, ho, hs⟩
end Go.Proofs.YtnnfkmjhaljplaaGreatDoor
