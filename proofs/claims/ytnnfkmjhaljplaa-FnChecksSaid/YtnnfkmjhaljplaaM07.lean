/- What the laws' walks rest upon, part 7. -/
import Derived.Test.YtnnfkmjhaljplaaM06
import Derived.Test.YtnnfkmjhaljplaaM01
import Derived.OwnWalkIn
import Derived.TacticsInMore
import Derived.Maps.AppendAt
import Derived.Maps.Range
import Derived.OwnWalk
import Derived.RegionTactic
import Derived.Test.YtnnfkmjhaljplaaProg
import Derived.OrdersHeld
import Derived.StillTail
import Derived.Deep.RegionHeld3
namespace Go.Proofs.Ytnnfkmjhaljplaa
open Go.RowKit
theorem wlR_set_a : ∀ {os : List Wls} {us : List Value}, us.length = os.length → ∀ (i : Nat) (_ : i < os.length) (a : Int) (l : List Wid), wlR (os.set i ⟨a, l⟩) us = (wlR os us).set (i * 2) (.int .i64 a)
 | [], _, _, i, h, _, _ => by simp at h
 | _ :: _, [], h, _, _, _, _ => by simp at h
 | x :: r, u :: us, h, 0, _, a, l => rfl
 | x :: r, u :: us, h, i + 1, hi, a, l => by
  have := wlR_set_a (os := r) (us := us) (by simpa using h) i (by simpa using hi) a l
  rw [show (i + 1) * 2 = i * 2 + 1 + 1 by omega]
  simp only [List.set_cons_succ, wlR, this]
theorem wlR_set_u : ∀ {os : List Wls} {us : List Value}, us.length = os.length → ∀ (i : Nat) (h : i < os.length) (l : List Wid) (u : Value), wlR (os.set i ⟨os[i].a, l⟩) (us.set i u) = (wlR os us).set (i * 2 + 1) u
 | [], _, _, i, h, _, _ => by simp at h
 | _ :: _, [], h, _, _, _, _ => by simp at h
 | x :: r, v :: us, h, 0, _, l, u => rfl
 | x :: r, v :: us, h, i + 1, hi, l, u => by
  have := wlR_set_u (os := r) (us := us) (by simpa using h) i (by simpa using hi) l u
  rw [show (i + 1) * 2 + 1 = i * 2 + 1 + 1 + 1 by omega]
  simp only [List.set_cons_succ, wlR, List.getElem_cons_succ, this]
theorem wlR_ids : ∀ {os : List Wls} {us : List Value}, us.length = os.length → ∀ (i : Nat) (h : i < os.length) (l : List Wid), wlR (os.set i ⟨os[i].a, l⟩) us = wlR os us
 | [], _, _, i, h, _ => by simp at h
 | _ :: _, [], h, _, _, _ => by simp at h
 | x :: r, v :: us, h, 0, _, l => rfl
 | x :: r, v :: us, h, i + 1, hi, l => by
  have := wlR_ids (os := r) (us := us) (by simpa using h) i (by simpa using hi) l
  simp only [List.set_cons_succ, wlR, List.getElem_cons_succ, this]
theorem wlR_one : ∀ {os : List Wls} {us : List Value}, (∀ u ∈ us, u.oneCell' = true) → ∀ x ∈ wlR os us, x.oneCell' = true
 | [], _, _, x, h => by simp [wlR] at h
 | _ :: _, [], _, x, h => by simp [wlR] at h
 | y :: r, u :: us, hu, x, h => by
  simp only [wlR, List.mem_cons] at h
  rcases h with rfl | rfl | h
  ·rfl
  ·exact hu _ (by simp)
  ·exact wlR_one (fun v hv => hu v (by simp [hv])) x h
section
variable {w w1 w' : World} {base : Nat} {v v' : Value} {os : List Wls} {us : List Value}
theorem OwnW.at_ (h : OwnW w base v os us) {i : Nat} {u : Value} (hu : us[i]? = some u) : ∃ (hi : i < os.length), w.ownsRow base 83 2 u os[i].ids.length (cels (wids os[i].ids)) := by
 have hi : i < os.length := by
  rcases Nat.lt_or_ge i us.length with a | a
  ·rw [← h.len]; exact a
  ·rw [List.getElem?_eq_none a] at hu; exact absurd hu (by simp)
 obtain ⟨u', h1, h2⟩ := h.rows i hi
 rw [hu] at h1
 cases h1
 exact ⟨hi, h2⟩
theorem OwnW.far (h : OwnW w base v os us) {i : Nat} {u : Value} (hu : us[i]? = some u) : ∀ b, u.ownBlock = some b → v.ownBlock ≠ some b := by
 obtain ⟨_, h2⟩ := h.at_ hu
 exact own_types h2 h.row (by decide)
/-- Whatever turns no row of it leaves it as it is. -/
theorem OwnW.keptB {row : Option Nat} (h : OwnW w base v os us) (hg : w.grownBy w' row) (hv : ∀ b, v.ownBlock = some b → row ≠ some b) (hu : ∀ u ∈ us, ∀ b, u.ownBlock = some b → row ≠ some b) : OwnW w' base v os us :=
 ⟨h.row.kept hg (own_sep hv), h.len, fun i hi => by
  obtain ⟨u, h1, h2⟩ := h.rows i hi
  exact ⟨u, h1, h2.kept hg (own_sep (hu u (List.mem_of_getElem? h1)))⟩, h.apart⟩
theorem OwnW.n_eq {A : Option Addr} {n c : Nat} (h : OwnW w base (.slice A n c) os us) : n = os.length := by
 rcases h.row.2 with ⟨h', h''⟩ | ⟨g, cap, cur, h', _⟩
 ·simp only [Value.slice.injEq] at h'; omega
 ·simp only [Value.slice.injEq] at h'; omega
theorem OwnW.fresh (h : OwnW w base v os us) {b : Nat} (hb : w.heap.size ≤ b) {j : Nat} {x : Value} (hx : us[j]? = some x) : x.ownBlock ≠ some b := fun e => by
 obtain ⟨_, h2⟩ := h.at_ hx
 have := h2.lt b e
 omega
theorem OwnW.setA {gv n c : Nat} (h : OwnW w base (.slice (some ⟨gv, 0, none⟩) n c) os us) {i : Nat} (hi : i < os.length) (a : Int) : OwnW (w.setCell ⟨gv, i * 2, none⟩ (.int .i64 a)) base (.slice (some ⟨gv, 0, none⟩) n c) (os.set i ⟨a, os[i].ids⟩) us := by
 obtain rfl := h.n_eq
 refine ⟨by rw [List.length_set, wlR_set_a h.len i hi]; exact (h.row.stored _ _).1, by rw [List.length_set]; exact h.len, fun j hj => ?_, h.apart⟩
 have hj' : j < os.length := by rw [List.length_set] at hj; exact hj
 obtain ⟨u, h1, h2⟩ := h.rows j hj'
 have hk := h2.kept (grown_set w gv (i * 2) (.int .i64 a)) (own_sep fun b hb e => h.far h1 b hb (by simpa [Value.ownBlock] using e))
 refine ⟨u, h1, ?_⟩
 by_cases hji : i = j
 ·subst hji
  rw [List.getElem_set_self]
  exact hk
 ·rw [List.getElem_set_ne hji]
  exact hk
/-- Ids turned in their own memory. -/
theorem OwnW.turn (h : OwnW w base v os us) {i : Nat} {u : Value} {l : List Wid} (hui : us[i]? = some u) (hi : i < os.length) (hg : w.grownBy w1 u.ownBlock) (hu' : w1.ownsRow base 83 2 u l.length (cels (wids l))) :
  OwnW w1 base v (os.set i ⟨os[i].a, l⟩) us := by
 refine ⟨?_, by rw [List.length_set]; exact h.len, fun j hj => ?_, h.apart⟩
 ·rw [List.length_set, wlR_ids h.len i hi]
  exact h.row.kept hg (own_sep fun b hb e => h.far hui b e hb)
 ·have hj' : j < os.length := by rw [List.length_set] at hj; exact hj
  obtain ⟨x, h1, h2⟩ := h.rows j hj'
  refine ⟨x, h1, ?_⟩
  by_cases hji : i = j
  ·subst hji
   rw [hui] at h1
   cases h1
   rw [List.getElem_set_self]
   exact hu'
  ·rw [List.getElem_set_ne hji]
   exact h2.kept hg (own_sep fun b hb e => h.apart i j u x hji hui h1 b e hb)
/-- Another row of ids in the place of one. -/
theorem OwnW.swap {gv n c i : Nat} {u u' : Value} {row : Option Nat} {l : List Wid} (h : OwnW w base (.slice (some ⟨gv, 0, none⟩) n c) os us) (hui : us[i]? = some u) (hi : i < os.length) (hg : w.grownBy w1 row) (hrow : ∀ b, row = some b → u.ownBlock = some b ∨ b < base)
  (hu' : w1.ownsRow base 83 2 u' l.length (cels (wids l))) (hat : ∀ b, u'.ownBlock = some b → u.ownBlock = some b ∨ ∀ (j : Nat) (x : Value), i ≠ j → us[j]? = some x → x.ownBlock ≠ some b) :
  OwnW (w1.setCell ⟨gv, i * 2 + 1, none⟩ u') base (.slice (some ⟨gv, 0, none⟩) n c) (os.set i ⟨os[i].a, l⟩) (us.set i u') := by
 obtain rfl := h.n_eq
 have hgv := h.row.lt gv rfl
 have hr1 := h.row.kept hg (own_sep fun b hb e => by
  simp only [Value.ownBlock, Option.some.injEq] at hb
  subst hb
  rcases hrow _ e with a | a
  ·exact h.far hui _ a rfl
  ·omega)
 have hne : ∀ b, u'.ownBlock = some b → b ≠ gv := fun b hb e => own_types hu' hr1 (by decide) b hb (by rw [e]; rfl)
 have hrk : ∀ (x : Value) (n : Nat) (xs : List Value) (j : Nat), i ≠ j → us[j]? = some x → w.ownsRow base 83 2 x n xs → ∀ b, x.ownBlock = some b → row ≠ some b := by
  intro x n xs j hji hj hx b hb e
  rcases hrow b e with a | a
  ·exact h.apart i j u x hji hui hj b a hb
  ·have := hx.lt b hb; omega
 refine ⟨?_, by rw [List.length_set, List.length_set]; exact h.len, fun j hj => ?_, ?_⟩
 ·rw [List.length_set, wlR_set_u h.len i hi]
  exact (hr1.stored _ u').1
 ·have hj' : j < os.length := by rw [List.length_set] at hj; exact hj
  by_cases hji : i = j
  ·subst hji
   refine ⟨u', by rw [List.getElem?_set_self (by rw [h.len]; exact hj')], ?_⟩
   rw [List.getElem_set_self]
   exact hu'.kept (grown_set w1 gv _ u') (own_sep fun b hb e => hne b hb (by simpa using e.symm))
  ·obtain ⟨x, h1, h2⟩ := h.rows j hj'
   refine ⟨x, by rw [List.getElem?_set_ne hji]; exact h1, ?_⟩
   rw [List.getElem_set_ne hji]
   exact (h2.kept hg (own_sep (hrk x _ _ j hji h1 h2))).kept (grown_set w1 gv _ u') (own_sep fun b hb e => h.far h1 b hb (by simpa [Value.ownBlock] using e))
 ·have key : ∀ (j : Nat) (x : Value), (us.set i u')[j]? = some x → (j = i ∧ x = u') ∨ (i ≠ j ∧ us[j]? = some x) := by
   intro j x hx
   by_cases hji : i = j
   ·subst hji
    rw [List.getElem?_set_self (by rw [h.len]; exact hi)] at hx
    exact .inl ⟨rfl, (Option.some.inj hx).symm⟩
   ·rw [List.getElem?_set_ne hji] at hx
    exact .inr ⟨hji, hx⟩
  intro p q x y hpq hx hy b hb
  rcases key p x hx with ⟨p1, rfl⟩ | ⟨p1, p2⟩
  ·rcases key q y hy with ⟨q1, rfl⟩ | ⟨q1, q2⟩
   ·omega
   ·rcases hat b hb with a | a
    ·exact h.apart i q u y q1 hui q2 b a
    ·exact a q y q1 q2
  ·rcases key q y hy with ⟨q1, rfl⟩ | ⟨q1, q2⟩
   ·intro e
    rcases hat b e with a | a
    ·exact h.apart i p u x p1 hui p2 b a hb
    ·exact a p x p1 p2 hb
   ·exact h.apart p q x y hpq p2 q2 b hb
/-- A new list behind the others. -/
theorem OwnW.push {u : Value} {x : Wls} (h : OwnW w base v os us) (hu : w.ownsRow base 83 2 u x.ids.length (cels (wids x.ids))) (hf : ∀ b, u.ownBlock = some b → ∀ (i : Nat) (u' : Value), us[i]? = some u' → u'.ownBlock ≠ some b)
  (ho : w'.ownsRow base 69 2 v' (os.length + 1) (wlR os us ++ [.int .i64 x.a, u])) (hg : w.grownBy w' v.ownBlock) : OwnW w' base v' (os ++ [x]) (us ++ [u]) := by
 have hkeep : ∀ (y : Value) (n : Nat) (xs : List Value), w.ownsRow base 83 2 y n xs → w'.ownsRow base 83 2 y n xs := fun y n xs hy => hy.kept hg (own_sep fun b hb e => own_types hy h.row (by decide) b hb e)
 refine ⟨by rw [List.length_append, List.length_singleton, wlR_append h.len]; exact ho, by simp [h.len], fun i hi => ?_, ?_⟩
 ·rw [List.length_append, List.length_singleton] at hi
  by_cases hlt : i < os.length
  ·obtain ⟨y, h1, h2⟩ := h.rows i hlt
   refine ⟨y, by rw [List.getElem?_append_left (by rw [h.len]; exact hlt)]; exact h1, ?_⟩
   rw [List.getElem_append_left hlt]
   exact hkeep _ _ _ h2
  ·obtain rfl : i = os.length := by omega
   refine ⟨u, by rw [List.getElem?_append_right (by rw [h.len]; exact Nat.le_refl _), h.len, Nat.sub_self]; rfl, ?_⟩
   rw [List.getElem_append_right (Nat.le_refl _)]
   simp only [Nat.sub_self, List.getElem_cons_zero]
   exact hkeep _ _ _ hu
 ·have key : ∀ (i : Nat) (y : Value), (us ++ [u])[i]? = some y → (i < us.length ∧ us[i]? = some y) ∨ (i = us.length ∧ y = u) := by
   intro i y hy
   by_cases hlt : i < us.length
   ·rw [List.getElem?_append_left hlt] at hy
    exact .inl ⟨hlt, hy⟩
   ·rw [List.getElem?_append_right (by omega)] at hy
    have hi : i - us.length = 0 := by
     rcases Nat.eq_zero_or_pos (i - us.length) with a | a
     ·exact a
     ·rw [List.getElem?_eq_none (by simp; omega)] at hy; exact absurd hy (by simp)
    rw [hi] at hy
    simp only [List.getElem?_cons_zero, Option.some.injEq] at hy
    exact .inr ⟨by omega, hy.symm⟩
  intro i j y z hij hy hz b hb
  rcases key i y hy with ⟨i1, i2⟩ | ⟨i1, rfl⟩
  ·rcases key j z hz with ⟨j1, j2⟩ | ⟨j1, rfl⟩
   ·exact h.apart i j y z hij i2 j2 b hb
   ·intro e
    exact hf b e i y i2 hb
  ·rcases key j z hz with ⟨j1, j2⟩ | ⟨j1, rfl⟩
   ·exact hf b hb j z j2
   ·omega
theorem OwnW.bound (h : OwnW w base v os us) : ∀ u ∈ us, ∀ b, u.ownBlock = some b → base ≤ b ∧ b < w.heap.size := fun u hu b hb => by
 obtain ⟨i, hi⟩ := List.getElem?_of_mem hu
 obtain ⟨_, h1⟩ := h.at_ hi
 exact h1.lt b hb
theorem OwnW.only {vs : List Value} (h : OwnW w base v os us) (ho : Only vs w w') (hf : ∀ x ∈ vs, ∀ b, x.ownBlock = some b → v.ownBlock ≠ some b ∧ ∀ u ∈ us, u.ownBlock ≠ some b) : OwnW w' base v os us :=
 ⟨ho.own _ _ _ _ _ _ h.row fun b hb x hx e => (hf x hx b e).1 hb, h.len, fun i hi => by
  obtain ⟨u, h1, h2⟩ := h.rows i hi
  exact ⟨u, h1, ho.own _ _ _ _ _ _ h2 fun b hb x hx e => (hf x hx b e).2 u (List.mem_of_getElem? h1) hb⟩, h.apart⟩
end
theorem sumO_append : ∀ (a b : List Wls), sumO (a ++ b) = sumO a + sumO b
 | [], b => by simp [sumO]
 | x :: a, b => by simp only [List.cons_append, sumO, sumO_append a b]; omega
end Go.Proofs.Ytnnfkmjhaljplaa
namespace Go.Proofs.Ytnnfkmjhaljplaa
open Go.RowKit
theorem cells_of_rv {w : World} {B : Nat} {ad : Addr} {vs : List Value} (h : RdV w B (some ad) vs) : ∀ j u, vs[j]? = some u → w.cell? (ad.add j) = some u := by
 intro j u hj
 have hjl : j < vs.length := by
  rcases Nat.lt_or_ge j vs.length with a | a
  ·exact a
  ·rw [List.getElem?_eq_none a] at hj; exact absurd hj (by simp)
 obtain ⟨b, off, e, _, hc⟩ := h (by omega)
 cases e
 rw [Go.WideShapes.add_plain, hc j hjl]
 rw [List.getElem?_eq_getElem hjl] at hj
 exact hj
section
variable {P : Program} (w : World)
theorem run_append_rv (base sz : Nat) (hs0 : 0 < sz) (t ty e : TypeId) (i : TypeInfo) (z : Value) (bytes : Nat) (ht : P.underlying t = some (.slice e)) (hi : P.info? e = some i) (hz : i.zero = some z)
  (hsize : i.size = sz) (hby : i.bytes = bytes) (hzs : z.cells.size = sz)
  (v : Value) (n : Nat) (xs : List Value) (hown : w.ownsRow base e sz v n xs) (A : Option Addr) (vs : List Value) (m c B : Nat) (hm : vs.length = m * sz) (h1c : ∀ u ∈ vs, u.oneCell' = true) (hR : RdV w B A vs)
  (h63 : n + m ≤ maxLen) (hbytes : (n + m) * bytes ≤ 140737488355328) (hbase : base ≤ w.heap.size) :
  ∃ v' w', (Builtin.append_ #[t, t] ty #[v, .slice A m c]).run P w = .ok v' w' ∧ w'.ownsRow base e sz v' (n + m) (xs ++ vs) ∧ w.grownBy w' v.ownBlock ∧ (v'.ownBlock = v.ownBlock ∨ v'.ownBlock = some w.heap.size) := by
 rcases A with _ | ad
 ·have hl : vs = [] := by
   rcases vs with _ | ⟨x, vs⟩
   ·rfl
   ·obtain ⟨b, off, e, _⟩ := hR (by simp)
    cases e
  subst hl
  obtain rfl : m = 0 := by
   simp only [List.length_nil] at hm
   rcases Nat.eq_zero_or_pos m with h | h
   ·exact h
   ·have := Nat.mul_pos h hs0; omega
  refine ⟨v, w, ?_, by simpa using hown, World.grownBy.refl w _, .inl rfl⟩
  rcases hown.2 with ⟨rfl, rfl⟩ | ⟨g, cap, cur, rfl, _, _, hnc, _⟩
  ·simp [Builtin.append_, run_underlying ht, sizeOf, typeInfo, hi, Builtin.lenOf, Builtin.firstCells]
  ·simp [Builtin.append_, run_underlying ht, sizeOf, typeInfo, hi, Builtin.lenOf, Builtin.firstCells, hnc, storeCells]
 ·obtain ⟨v', w', hr, h2, h3, _, h5⟩ := run_append_own_at (P := P) w base t ty e i z sz bytes ht hi hz hsize hby hzs hs0 v n xs hown ad m c vs hm (cells_of_rv hR) h1c h63 hbytes hbase
  exact ⟨v', w', hr, h2, h3, h5⟩
theorem wp_append_rv {o : Oper} {a : Act} {K : Act → World → Prop} {Q : Exit → Act → World → Prop} (s x : Operand) (t : TypeId)
  (ho : o.op = .call { callee := .builtin .append, args := #[s, x], argTypes := #[t, t] })
  (base sz : Nat) (hs0 : 0 < sz) (e : TypeId) (i : TypeInfo) (z : Value) (bytes : Nat) (ht : P.underlying t = some (.slice e)) (hi : P.info? e = some i) (hz : i.zero = some z)
  (hsize : i.size = sz) (hby : i.bytes = bytes) (hzs : z.cells.size = sz)
  (v : Value) (n : Nat) (xs : List Value) (hs : a.eval s = v) (hown : w.ownsRow base e sz v n xs) (A : Option Addr) (vs : List Value) (m c B : Nat) (hx : a.eval x = .slice A m c) (hm : vs.length = m * sz) (h1c : ∀ u ∈ vs, u.oneCell' = true) (hR : RdV w B A vs)
  (h63 : n + m ≤ maxLen) (hbytes : (n + m) * bytes ≤ 140737488355328) (hbase : base ≤ w.heap.size)
  (h : ∀ v' w', w'.ownsRow base e sz v' (n + m) (xs ++ vs) → w.grownBy w' v.ownBlock → (v'.ownBlock = v.ownBlock ∨ v'.ownBlock = some w.heap.size) → K (a.put o.dst v') w') : o.wp P a w K Q := by
 obtain ⟨v', w', hr, h2, h3, h5⟩ := run_append_rv (P := P) w base sz hs0 t o.type e i z bytes ht hi hz hsize hby hzs v n xs hown A vs m c B hm h1c hR h63 hbytes hbase
 unfold Oper.wp execOp
 simp only [ho, resolve, invoke, builtin, Sem.run_bind, Sem.run_pure, Result.andThen_ok, List.map_toArray, List.map_cons, List.map_nil, hs, hx, hr]
 exact h v' w' h2 h3 h5
/-- The same at a guarded operation of a region that draws its order. -/
theorem step_append_rv {ops : Array Oper} {o : Oper} {a : Act} {K : Act → World → Prop} {Q : Exit → Act → World → Prop} {E : Prop} (hw : Region.wanted o (yielded ops a.tmps) = true) (s x : Operand) (t : TypeId)
  (ho : o.op = .call { callee := .builtin .append, args := #[s, x], argTypes := #[t, t] })
  (base sz : Nat) (hs0 : 0 < sz) (e : TypeId) (i : TypeInfo) (z : Value) (bytes : Nat) (ht : P.underlying t = some (.slice e)) (hi : P.info? e = some i) (hz : i.zero = some z)
  (hsize : i.size = sz) (hby : i.bytes = bytes) (hzs : z.cells.size = sz)
  (v : Value) (n : Nat) (xs : List Value) (hs : a.eval s = v) (hown : w.ownsRow base e sz v n xs) (A : Option Addr) (vs : List Value) (m c B : Nat) (hx : a.eval x = .slice A m c) (hm : vs.length = m * sz) (h1c : ∀ u ∈ vs, u.oneCell' = true) (hR : RdV w B A vs)
  (h63 : n + m ≤ maxLen) (hbytes : (n + m) * bytes ≤ 140737488355328) (hbase : base ≤ w.heap.size)
  (h : ∀ v' w', w'.ownsRow base e sz v' (n + m) (xs ++ vs) → w.grownBy w' v.ownBlock → (v'.ownBlock = v.ownBlock ∨ v'.ownBlock = some w.heap.size) → K (a.put o.dst v') w') :
  if Region.wanted o (yielded ops a.tmps) = true then Oper.wp P o a w K Q else E := by
 rw [if_pos hw]
 exact wp_append_rv w s x t ho base sz hs0 e i z bytes ht hi hz hsize hby hzs v n xs hs hown A vs m c B hx hm h1c hR h63 hbytes hbase h
theorem wpList_append_rv {ops : Array Oper} {rest : List Oper} {o : Oper} {a : Act} {Q : Exit → Act → World → Prop} (hgd : o.guard = none) (s x : Operand) (t : TypeId)
  (ho : o.op = .call { callee := .builtin .append, args := #[s, x], argTypes := #[t, t] })
  (base sz : Nat) (hs0 : 0 < sz) (e : TypeId) (i : TypeInfo) (z : Value) (bytes : Nat) (ht : P.underlying t = some (.slice e)) (hi : P.info? e = some i) (hz : i.zero = some z)
  (hsize : i.size = sz) (hby : i.bytes = bytes) (hzs : z.cells.size = sz)
  (v : Value) (n : Nat) (xs : List Value) (hs : a.eval s = v) (hown : w.ownsRow base e sz v n xs) (A : Option Addr) (vs : List Value) (m c B : Nat) (hx : a.eval x = .slice A m c) (hm : vs.length = m * sz) (h1c : ∀ u ∈ vs, u.oneCell' = true) (hR : RdV w B A vs)
  (h63 : n + m ≤ maxLen) (hbytes : (n + m) * bytes ≤ 140737488355328) (hbase : base ≤ w.heap.size)
  (h : ∀ v' w', w'.ownsRow base e sz v' (n + m) (xs ++ vs) → w.grownBy w' v.ownBlock → (v'.ownBlock = v.ownBlock ∨ v'.ownBlock = some w.heap.size) → wpList P ops Q rest (a.put o.dst v') w') : wpList P ops Q (o :: rest) a w := by
 refine wpList_plain hgd fun K hK => ?_
 obtain ⟨v', w', hr, h2, h3, h5⟩ := run_append_rv (P := P) w base sz hs0 t o.type e i z bytes ht hi hz hsize hby hzs v n xs hown A vs m c B hm h1c hR h63 hbytes hbase
 unfold Oper.wp execOp
 simp only [ho, resolve, invoke, builtin, Sem.run_bind, Sem.run_pure, Result.andThen_ok, List.map_toArray, List.map_cons, List.map_nil, hs, hx, hr]
 exact hK _ _ (h v' w' h2 h3 h5)
end
end Go.Proofs.Ytnnfkmjhaljplaa
namespace Go.Proofs.Ytnnfkmjhaljplaa
open Go.RowKit
def cmpI (x y : Int) : Int := if x < y then -1 else if y < x then 1 else 0
theorem cmpI_lt {x y : Int} : cmpI x y < 0 ↔ x < y := by unfold cmpI; split <;> (try split) <;> omega
theorem cmpI_eq {x y : Int} : cmpI x y = 0 ↔ x = y := by unfold cmpI; split <;> (try split) <;> omega
theorem isNaN_any (x : Int) (w : World) :
  Calls Try.prog 134 #[.int .i64 x] w fun e w' => e = .returned (.bool false) ∧ w = w' := by
 go_enter Try.func134, Try.ntmps134
 go_wp2
 go_ret
 exact ⟨by simp, rfl⟩
theorem compare_any (x y : Int) (w : World) :
  Calls Try.prog 126 #[.int .i64 x, .int .i64 y] w fun e w' => e = .returned (.int .i64 (cmpI x y)) ∧ w = w' := by
 by_cases h1 : x < y
 ·rw [show cmpI x y = -1 by unfold cmpI; rw [if_pos h1]]
  go_enter Try.func126, Try.ntmps126
  go_wp2_with fail
  refine (isNaN_any x w).mono ?_
  rintro e w1 ⟨rfl, rfl⟩
  go_wp2_with fail
  refine (isNaN_any y w).mono ?_
  rintro e w1 ⟨rfl, rfl⟩
  go_wp2
  go_ret
  exact ⟨rfl, rfl⟩
 ·by_cases h2 : y < x
  ·rw [show cmpI x y = 1 by unfold cmpI; rw [if_neg h1, if_pos h2]]
   go_enter Try.func126, Try.ntmps126
   go_wp2_with fail
   refine (isNaN_any x w).mono ?_
   rintro e w1 ⟨rfl, rfl⟩
   go_wp2_with fail
   refine (isNaN_any y w).mono ?_
   rintro e w1 ⟨rfl, rfl⟩
   go_wp2
   go_ret
   exact ⟨rfl, rfl⟩
  ·rw [show cmpI x y = 0 by unfold cmpI; rw [if_neg h1, if_neg h2]]
   go_enter Try.func126, Try.ntmps126
   go_wp2_with fail
   refine (isNaN_any x w).mono ?_
   rintro e w1 ⟨rfl, rfl⟩
   go_wp2_with fail
   refine (isNaN_any y w).mono ?_
   rintro e w1 ⟨rfl, rfl⟩
   go_wp2
   go_ret
   exact ⟨rfl, rfl⟩
end Go.Proofs.Ytnnfkmjhaljplaa
namespace Go.Proofs.Ytnnfkmjhaljplaa
open Go
section
variable {P : Program} {ops : Array Oper} {Q : Exit → Act → World → Prop} {md : Region.Mode} {A S T : World → Prop} {m : Nat}
/-- Whatever order is picked from here on; S holds behind every operation that is carried out before number m. -/
def wpAnyF (P : Program) (md : Region.Mode) (ops : Array Oper) (Q : Exit → Act → World → Prop) (A S : World → Prop) (m : Nat) : Nat → Array Bool → Act → World → Prop
 | 0, listed, a, w => Region.ready md ops listed = [] ∧ Q .normal a w
 | fuel + 1, listed, a, w =>
  (Region.ready md ops listed = [] → Q .normal a w) ∧
  ∀ i ∈ Region.ready md ops listed, wpOp P ops Q i (fun a' w' => (A w' ∧ ((listed.setIfInBounds i true).getD m false = true ∨ S w')) ∧ wpAnyF P md ops Q A S m fuel (listed.setIfInBounds i true) a' w') a w
theorem wpAny_of_F : ∀ (fuel : Nat) (listed : Array Bool) (a : Act) (w : World), wpAnyF P md ops Q A S m fuel listed a w → wpAny P md ops Q fuel listed a w
 | 0, _, _, _, h => h
 | fuel + 1, _, _, _, h => ⟨h.1, fun i hi => wpOp_mono (fun a' w' h' => wpAny_of_F fuel _ a' w' h'.2) (h.2 i hi)⟩
/-- What is taken first yields in every world that meets T: in whatever world; or T is S, and number m waits for it. -/
theorem wpAnyF_first {i : Nat} {oi : Oper} {v : Value} (hi : ops[i]? = some oi) (hsel : ∀ (j : Nat) (o : Oper) cs b, ops[j]? = some o → o.op ≠ .select cs b)
  (hQ : ∀ c a w, Q (.panic c) (a.put oi.dst v) w → Q (.panic c) a w) (him : i ≠ m) (hT : (∀ w, A w → T w) ∨ ((∀ w, S w → T w) ∧ Region.waitsFor md ops m i = true)) :
  ∀ (fuel : Nat) (listed : Array Bool) (a : Act) (w : World), ((∀ w, A w → T w) ∨ listed.getD m false = false) →
   (∀ j oj, ops[j]? = some oj → j ≠ i → listed.getD j true = false → (∀ e ∈ oj.after, Region.binds md e = true → e.on ≠ i) → oi.apart ops oj = true) →
   i ∈ Region.ready md ops listed → YieldsIf P ops T oi v a → T w → (A w ∧ (listed.getD m false = true ∨ S w)) →
   wpAnyF P md ops Q A S m fuel (listed.setIfInBounds i true) (a.put oi.dst v) w → wpAnyF P md ops Q A S m (fuel + 1) listed a w := by
 intro fuel
 induction fuel with
 | zero =>
  intro listed a w hm hfree hr hy hS hC H
  refine ⟨fun h => (by rw [h] at hr; cases hr), fun j hj => ?_⟩
  by_cases hji : j = i
  ·subst hji; exact hy.wpOp hi hS ⟨by rw [getD_set_ne false him]; exact hC, H⟩
  ·have := ready_mono hj hji
   rw [H.1] at this
   cases this
 | succ fuel ih =>
  intro listed a w hm hfree hr hy hS hC H
  refine ⟨fun h => (by rw [h] at hr; cases hr), fun j hj => ?_⟩
  by_cases hji : j = i
  ·subst hji; exact hy.wpOp hi hS ⟨by rw [getD_set_ne false him]; exact hC, H⟩
  ·have h1 := H.2 j (ready_mono hj hji)
   obtain ⟨hjun, oj, hoj, hall⟩ := mem_ready.1 hj
   have hnot : ∀ e ∈ oj.after, Region.binds md e = true → e.on ≠ i := fun e he hb heq => by
    have h1 := hall e he hb
    rw [heq, getD_both (mem_ready.1 hr).1] at h1
    cases h1
   have h2 := wpOp_putIf hoj (hfree j oj hoj hji hjun hnot) (fun cs b => hsel i oi cs b hi) (fun cs b => hsel j oj cs b hoj) hQ hy h1
   have hfree' : ∀ k ok, ops[k]? = some ok → k ≠ i → (listed.setIfInBounds j true).getD k true = false →
     (∀ e ∈ ok.after, Region.binds md e = true → e.on ≠ i) → oi.apart ops ok = true := fun k ok hk hki hun hno => by
    refine hfree k ok hk hki ?_ hno
    by_cases hjk : j = k
    ·subst hjk; exact hjun
    ·rw [getD_set_ne true hjk] at hun; exact hun
   have hjm : (∀ w, A w → T w) ∨ (listed.setIfInBounds j true).getD m false = false := by
    rcases hT with hT | ⟨_, hw⟩
    ·exact .inl hT
    ·rcases hm with hm | hm
     ·exact .inl hm
     ·refine .inr ?_
      by_cases hjm : j = m
      ·subst hjm
       obtain ⟨o', ho', e, he, hb, hon⟩ := Region.waitsFor_spec hw
       have : o' = oj := Option.some.inj (ho'.symm.trans hoj)
       subst this
       exact absurd hon (hnot e he hb)
      ·rw [getD_set_ne false hjm]; exact hm
   have hback : ∀ w', (A w' ∧ (((listed.setIfInBounds i true).setIfInBounds j true).getD m false = true ∨ S w')) → (A w' ∧ ((listed.setIfInBounds j true).getD m false = true ∨ S w')) := fun w' h => by
    rw [Array.setIfInBounds_comm _ _ (Ne.symm hji), getD_set_ne false him] at h
    exact h
   have hTw : ∀ w', (A w' ∧ ((listed.setIfInBounds j true).getD m false = true ∨ S w')) → T w' := fun w' h => by
    rcases hT with hT | ⟨hST, _⟩
    ·exact hT w' h.1
    ·rcases hjm with hm | hm
     ·exact hm w' h.1
     ·rcases h.2 with h | h
      ·rw [hm] at h; cases h
      ·exact hST w' h
   refine wpOp_mono (fun a' w' h3 => ⟨hback w' h3.2.1, ih (listed.setIfInBounds j true) a' w' hjm hfree' (ready_mono hr (Ne.symm hji)) h3.1 (hTw w' (hback w' h3.2.1)) (hback w' h3.2.1) ?_⟩) h2
   rw [Array.setIfInBounds_comm _ _ hji]
   exact h3.2.2
/-- What yields in whatever world is taken first. -/
theorem wpAnyF_take {i : Nat} {oi : Oper} {v : Value} {fuel : Nat} {listed : Array Bool} {a : Act} {w : World} (hi : ops[i]? = some oi)
  (hs : Region.noSelect ops = true) (hf : Region.free md ops listed i = true) (hr : (Region.ready md ops listed).contains i = true) (him : i ≠ m)
  (hQ : ∀ c a w, Q (.panic c) (a.put oi.dst v) w → Q (.panic c) a w) (hS : A w ∧ (listed.getD m false = true ∨ S w)) (hy : YieldsIf P ops (fun _ => True) oi v a)
  (h : wpAnyF P md ops Q A S m fuel (listed.setIfInBounds i true) (a.put oi.dst v) w) : wpAnyF P md ops Q A S m (fuel + 1) listed a w :=
 wpAnyF_first (T := fun _ => True) hi (Region.noSelect_spec hs) hQ him (.inl fun _ _ => trivial) fuel listed a w (.inl fun _ _ => trivial) (Region.free_spec hi hf) (by simpa using hr) hy trivial hS h
/-- A load that number m waits for is taken first. -/
theorem wpAnyF_load {i : Nat} {oi : Oper} {v : Value} {fuel : Nat} {listed : Array Bool} {a : Act} {w : World} (hi : ops[i]? = some oi)
  (hs : Region.noSelect ops = true) (hf : Region.free md ops listed i = true) (hr : (Region.ready md ops listed).contains i = true) (him : i ≠ m)
  (hQ : ∀ c a w, Q (.panic c) (a.put oi.dst v) w → Q (.panic c) a w) (hS : A w ∧ S w) (hw : Region.waitsFor md ops m i = true) (hm : listed.getD m false = false) (hy : YieldsIf P ops S oi v a)
  (h : wpAnyF P md ops Q A S m fuel (listed.setIfInBounds i true) (a.put oi.dst v) w) : wpAnyF P md ops Q A S m (fuel + 1) listed a w :=
 wpAnyF_first (T := S) hi (Region.noSelect_spec hs) hQ him (.inr ⟨fun _ h => h, hw⟩) fuel listed a w (.inr hm) (Region.free_spec hi hf) (by simpa using hr) hy hS.2 ⟨hS.1, .inr hS.2⟩ h
/-- A load whose cell nothing turns is taken first. -/
theorem wpAnyF_keep {i : Nat} {oi : Oper} {v : Value} {fuel : Nat} {listed : Array Bool} {a : Act} {w : World} (hi : ops[i]? = some oi)
  (hs : Region.noSelect ops = true) (hf : Region.free md ops listed i = true) (hr : (Region.ready md ops listed).contains i = true) (him : i ≠ m)
  (hQ : ∀ c a w, Q (.panic c) (a.put oi.dst v) w → Q (.panic c) a w) (hS : A w ∧ (listed.getD m false = true ∨ S w)) (hy : YieldsIf P ops A oi v a)
  (h : wpAnyF P md ops Q A S m fuel (listed.setIfInBounds i true) (a.put oi.dst v) w) : wpAnyF P md ops Q A S m (fuel + 1) listed a w :=
 wpAnyF_first (T := A) hi (Region.noSelect_spec hs) hQ him (.inl fun _ h => h) fuel listed a w (.inl fun _ h => h) (Region.free_spec hi hf) (by simpa using hr) hy hS.1 hS h
/-- Each of the operations rs comes up next. -/
def AllReadyF (P : Program) (md : Region.Mode) (ops : Array Oper) (Q : Exit → Act → World → Prop) (A S : World → Prop) (m : Nat) (fuel : Nat) (listed : Array Bool) (a : Act) (w : World) (rs : List Nat) : Prop :=
 ∀ i ∈ rs, wpOp P ops Q i (fun a' w' => (A w' ∧ ((listed.setIfInBounds i true).getD m false = true ∨ S w')) ∧ wpAnyF P md ops Q A S m fuel (listed.setIfInBounds i true) a' w') a w
theorem AllReadyF.nil {fuel : Nat} {listed : Array Bool} {a : Act} {w : World} : AllReadyF P md ops Q A S m fuel listed a w [] := fun _ h => by cases h
/-- Before number m. -/
theorem AllReadyF.cons {fuel : Nat} {listed : Array Bool} {a : Act} {w : World} {i : Nat} {o : Oper} {rs : List Nat} (ho : ops[i]? = some o)
  (h : ∀ K' : Act → World → Prop, Shut (∀ a w, A w ∧ S w → (A w ∧ S w → wpAnyF P md ops Q A S m fuel (listed.setIfInBounds i true) a w) → K' a w) → if Region.wanted o (yielded ops a.tmps) = true then Oper.wp P o a w K' Q else K' (a.put o.dst undef) w)
  (hs : AllReadyF P md ops Q A S m fuel listed a w rs) : AllReadyF P md ops Q A S m fuel listed a w (i :: rs) := fun j hj => by
 rcases List.mem_cons.1 hj with rfl | hj
 ·exact wpOp_step ho (fun K' hK => h K' (fun a w hS hW => hK a w ⟨⟨hS.1, .inr hS.2⟩, hW hS⟩))
 ·exact hs j hj
/-- Number m, or one behind it. -/
theorem AllReadyF.last {fuel : Nat} {listed : Array Bool} {a : Act} {w : World} {i : Nat} {o : Oper} {rs : List Nat} (ho : ops[i]? = some o) (hl : (listed.setIfInBounds i true).getD m false = true)
  (h : ∀ K' : Act → World → Prop, Shut (∀ a w, A w → wpAnyF P md ops Q A S m fuel (listed.setIfInBounds i true) a w → K' a w) → if Region.wanted o (yielded ops a.tmps) = true then Oper.wp P o a w K' Q else K' (a.put o.dst undef) w)
  (hs : AllReadyF P md ops Q A S m fuel listed a w rs) : AllReadyF P md ops Q A S m fuel listed a w (i :: rs) := fun j hj => by
 rcases List.mem_cons.1 hj with rfl | hj
 ·exact wpOp_step ho (fun K' hK => h K' (fun a w hA hW => hK a w ⟨⟨hA, .inl hl⟩, hW⟩))
 ·exact hs j hj
theorem wpAnyF_ready {rs : List Nat} {fuel : Nat} {listed : Array Bool} {a : Act} {w : World} (hr : Region.ready md ops listed = rs) (hne : rs ≠ [])
  (h : AllReadyF P md ops Q A S m fuel listed a w rs) : wpAnyF P md ops Q A S m (fuel + 1) listed a w := ⟨fun h0 => absurd (hr ▸ h0) hne, hr ▸ h⟩
theorem wpAnyF_done {listed : Array Bool} {a : Act} {w : World} (hr : Region.ready md ops listed = []) (h : Q .normal a w) : ∀ fuel, wpAnyF P md ops Q A S m fuel listed a w
 | 0 => ⟨hr, h⟩
 | _ + 1 => ⟨fun _ => h, by rw [hr]; simp⟩
theorem wp_region_F {id : Nat} {a : Act} {w : World} (m : Nat) (A S : World → Prop) (hm : P.follows .mixedOrders = true) (hS : A w.drew ∧ S w.drew)
  (h : A w.drew ∧ S w.drew → wpAnyF P .any ops Q A S m ops.size (Array.replicate ops.size false) a w.drew) : (Code.region id ops true).wp P Q a w :=
 wp_region_any hm (wpAny_of_F (m := m) (A := A) (S := S) _ _ _ _ (h hS))
end
end Go.Proofs.Ytnnfkmjhaljplaa
