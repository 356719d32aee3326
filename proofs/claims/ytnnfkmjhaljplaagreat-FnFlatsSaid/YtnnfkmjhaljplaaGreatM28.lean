/- What the laws' walks rest upon, part 28. -/
import Derived.Test.YtnnfkmjhaljplaaGreatM15
import Derived.StillTailTactics
import Derived.Lib.Hide
import Derived.Test.YtnnfkmjhaljplaaGreatM24
import Derived.Test.YtnnfkmjhaljplaaGreatM01
import Derived.Test.YtnnfkmjhaljplaaGreatM05
import Derived.Deep.DeepCutAuto
import Derived.BigQuiet
import Derived.Test.YtnnfkmjhaljplaaGreatM21
import Derived.OwnWalkIn
import Derived.TacticsInMore
import Derived.Maps.AppendAt
import Derived.Maps.Range
import Derived.OwnWalk
import Derived.RegionTactic
namespace Go.Proofs.YtnnfkmjhaljplaaGreat
open Go.RowKit
theorem info_wid : (Tryz.prog.info? 145).map (fun i => (i.zero, i.size, i.bytes)) = some (some (.agg #[.int .i64 0, .int .i64 0]), 2, 16) := by kernel_rfl
end Go.Proofs.YtnnfkmjhaljplaaGreat
namespace Go.Proofs.YtnnfkmjhaljplaaGreat
open Go.RowKit
def wid (x : Wid) : Cel := ⟨x.c, x.i⟩
def wids (l : List Wid) : List Cel := l.map wid
theorem wids_length (l : List Wid) : (wids l).length = l.length := by simp [wids]
/-- The slice address A leads to the write lists os. -/
def RdW (w : World) (B : Nat) (A : Option Addr) (os : List Wls) : Prop :=
  0 < os.length → ∃ b off, A = some ⟨b, off, none⟩ ∧ b < B ∧ ∀ i, (h : i < os.length) → w.cell? ⟨b, off + i * 2, none⟩ = some (.int .i64 os[i].a) ∧ ∃ a c, w.cell? ⟨b, off + i * 2 + 1, none⟩ = some (.slice a os[i].ids.length c) ∧ os[i].ids.length ≤ c ∧ c ≤ maxLen ∧ RdC w B a (wids os[i].ids)
section
variable {w w' : World} {B B' : Nat} {A : Option Addr} {os : List Wls}
theorem RdW.nil_ : RdW w B A [] := fun h => absurd h (by simp)
theorem RdW.keep (h : RdW w B A os) (hk : ∀ p : Addr, p.block < B → w'.cell? p = w.cell? p) : RdW w' B A os := by
  intro h0
  obtain ⟨b, off, e, hb, hc⟩ := h h0
  refine ⟨b, off, e, hb, fun i hi => ?_⟩
  obtain ⟨h0, a, c, h1, h2, h3, h4⟩ := hc i hi
  exact ⟨(hk _ hb).trans h0, a, c, (hk _ hb).trans h1, h2, h3, h4.keep hk⟩
theorem RdW.more (h : RdW w B A os) (hB : B ≤ B') : RdW w B' A os := by
  intro h0
  obtain ⟨b, off, e, hb, hc⟩ := h h0
  refine ⟨b, off, e, by omega, fun i hi => ?_⟩
  obtain ⟨h0, a, c, h1, h2, h3, h4⟩ := hc i hi
  exact ⟨h0, a, c, h1, h2, h3, h4.more hB⟩
theorem RdW.below (h : RdW w B A os) (hb : Below B w w') : RdW w' B A os := h.keep fun _ hp => hb.cell hp
theorem RdW.drew (h : RdW w B A os) : RdW w.drew B A os := h
theorem RdW.alloc (h : RdW w B A os) (hB : B ≤ w.heap.size) (o : Obj) : RdW (w.alloc o) B A os := h.keep fun p hp => World.cell?_alloc_lt w o p (by omega)
theorem RdW.lt (h : RdW w B A os) : RdW w w.heap.size A os := by
  intro h0
  obtain ⟨b, off, e, hb, hc⟩ := h h0
  refine ⟨b, off, e, ?_, fun i hi => ?_⟩
  · obtain ⟨h1, _⟩ := hc 0 h0
    exact block_lt_of_cell h1
  · obtain ⟨h0, a, c, h1, h2, h3, h4⟩ := hc i hi
    exact ⟨h0, a, c, h1, h2, h3, h4.lt⟩
theorem RdW.get (h : RdW w B A os) {i : Nat} (hi : i < os.length) : ∃ b off a c, A = some ⟨b, off, none⟩ ∧ b < B ∧ w.cell? ⟨b, off + i * 2, none⟩ = some (.int .i64 os[i].a) ∧ w.cell? ⟨b, off + i * 2 + 1, none⟩ = some (.slice a os[i].ids.length c) ∧ os[i].ids.length ≤ c ∧ c ≤ maxLen ∧ RdC w B a (wids os[i].ids) := by
  obtain ⟨b, off, e, hb, hc⟩ := h (by omega)
  obtain ⟨h0, a, c, h1, h2, h3, h4⟩ := hc i hi
  exact ⟨b, off, a, c, e, hb, h0, h1, h2, h3, h4⟩
end
/-- The cells of a row of write lists whose ids lie in us. -/
def wlR : List Wls → List Value → List Value
  | x :: r, u :: us => .int .i64 x.a :: u :: wlR r us
  | _, _ => []
theorem wlR_length : ∀ {os : List Wls} {us : List Value}, us.length = os.length → (wlR os us).length = os.length * 2
  | [], [], _ => rfl
  | [], _ :: _, h => by simp at h
  | _ :: _, [], h => by simp at h
  | x :: r, u :: us, h => by
    have := wlR_length (os := r) (us := us) (by simpa using h)
    simp only [wlR, List.length_cons, this]
    omega
theorem wlR_get : ∀ {os : List Wls} {us : List Value}, us.length = os.length → ∀ (i : Nat) (h : i < os.length), (wlR os us)[i * 2]? = some (.int .i64 os[i].a) ∧ (wlR os us)[i * 2 + 1]? = us[i]?
  | [], _, _, i, h => by simp at h
  | _ :: _, [], h, _, _ => by simp at h
  | x :: r, u :: us, h, 0, _ => ⟨rfl, rfl⟩
  | x :: r, u :: us, h, i + 1, hi => by
    have := wlR_get (os := r) (us := us) (by simpa using h) i (by simpa using hi)
    rw [show (i + 1) * 2 = i * 2 + 1 + 1 by omega, wlR]
    simp only [List.getElem?_cons_succ, List.getElem_cons_succ]
    exact this
theorem wlR_append : ∀ {os : List Wls} {us : List Value}, us.length = os.length → ∀ (x : Wls) (u : Value), wlR (os ++ [x]) (us ++ [u]) = wlR os us ++ [.int .i64 x.a, u]
  | [], [], _, _, _ => rfl
  | [], _ :: _, h, _, _ => by simp at h
  | _ :: _, [], h, _, _ => by simp at h
  | y :: r, v :: us, h, x, u => by
    have := wlR_append (os := r) (us := us) (by simpa using h) x u
    simp only [List.cons_append, wlR, this]
/-- Write lists in a row of the call's own, the ids of each in one of their own, apart from the others'. -/
structure OwnW (w : World) (base : Nat) (v : Value) (os : List Wls) (us : List Value) : Prop where
  row : w.ownsRow base 149 2 v os.length (wlR os us)
  len : us.length = os.length
  rows : ∀ i, (hi : i < os.length) → ∃ u, us[i]? = some u ∧ w.ownsRow base 145 2 u os[i].ids.length (cels (wids os[i].ids))
  apart : ∀ (i j : Nat) (u u' : Value), i ≠ j → us[i]? = some u → us[j]? = some u' → ∀ b, u.ownBlock = some b → u'.ownBlock ≠ some b
section
variable {w w' : World} {base : Nat} {v : Value} {os : List Wls} {us : List Value}
theorem OwnW.kept {row : Option Nat} (h : OwnW w base v os us) (hg : w.grownBy w' row) (hr : ∀ b, row = some b → b < base) : OwnW w' base v os us :=
  ⟨h.row.kept hg (own_sep fun b hb e => by have := (h.row.lt b hb).1; have := hr b e; omega), h.len, fun i hi => by
    obtain ⟨u, h1, h2⟩ := h.rows i hi
    exact ⟨u, h1, h2.kept hg (own_sep fun b hb e => by have := (h2.lt b hb).1; have := hr b e; omega)⟩, h.apart⟩
theorem OwnW.below (h : OwnW w base v os us) (hb : Below w.heap.size w w') : OwnW w' base v os us := h.kept (row := none) ⟨hb.os, hb.tape, hb.output, hb.size, fun k hk _ => hb.block k hk⟩ (fun b e => by cases e)
theorem OwnW.alloc (h : OwnW w base v os us) (o : Obj) : OwnW (w.alloc o) base v os us := h.below ((Below.refl _ _).alloc (Nat.le_refl _) _)
theorem OwnW.mono (h : OwnW w base v os us) {b' : Nat} (hb : b' ≤ base) : OwnW w b' v os us :=
  ⟨own_mono h.row hb, h.len, fun i hi => by
    obtain ⟨u, h1, h2⟩ := h.rows i hi
    exact ⟨u, h1, own_mono h2 hb⟩, h.apart⟩
theorem OwnW.nil_ (w : World) (base : Nat) : OwnW w base (.slice none 0 0) [] [] := ⟨World.ownsRow_nil _ _ _ _, rfl, fun i hi => by simp at hi, fun i j u u' _ hu => by simp at hu⟩
theorem OwnW.rd {A : Option Addr} {n c : Nat} (h : OwnW w base (.slice A n c) os us) : RdW w w.heap.size A os := by
  intro h0
  rcases h.row.2 with ⟨h', h''⟩ | ⟨g, cap, cur, h', _⟩
  · omega
  · have hr := h.row
    simp only [Value.slice.injEq] at h'
    obtain ⟨rfl, rfl, rfl⟩ := h'
    refine ⟨g, 0, rfl, (hr.lt g rfl).2, fun i hi => ?_⟩
    obtain ⟨u, h1, h2⟩ := h.rows i hi
    obtain ⟨g1, g2⟩ := wlR_get h.len i hi
    obtain ⟨a, c, rfl⟩ := own_shape h2
    have hcp := own_capE h2
    rw [Nat.zero_add]
    refine ⟨by rw [hr.cellAt _ (by omega)]; exact g1, a, c, by rw [hr.cellAt _ (by omega), g2]; exact h1, hcp.1, hcp.2, ?_⟩
    exact RdC.of_own h2
end
end Go.Proofs.YtnnfkmjhaljplaaGreat
namespace Go.Proofs.YtnnfkmjhaljplaaGreat
open Go.RowKit
theorem info_wls : (Tryz.prog.info? 149).map (fun i => (i.zero, i.size, i.bytes)) = some (some (.agg #[.int .i64 0, .slice none 0 0]), 2, 32) := by kernel_rfl
end Go.Proofs.YtnnfkmjhaljplaaGreat
namespace Go.Proofs.YtnnfkmjhaljplaaGreat
open Go.RowKit
end Go.Proofs.YtnnfkmjhaljplaaGreat
namespace Go.Proofs.YtnnfkmjhaljplaaGreat
open Go.RowKit
open Classical in
noncomputable def relB (f : Wls → Wls → Bool) (os O : List Wls) : Bool := if os.length = O.length ∧ ∀ i (h : i < os.length) (h' : i < O.length), f os[i] O[i] = true then true else false
theorem relB_len {f : Wls → Wls → Bool} {os O : List Wls} (h : ¬ os.length = O.length) : relB f os O = false := if_neg fun e => h e.1
theorem relB_not {f : Wls → Wls → Bool} {os O : List Wls} {k : Nat} (hk : k < os.length) (hk' : k < O.length) (h : f os[k] O[k] = false) : relB f os O = false := if_neg fun e => by have := e.2 k hk hk'; rw [h] at this; cases this
def UpF (f : Wls → Wls → Bool) (os O : List Wls) (k : Nat) : Prop := ∀ i (h : i < os.length) (h' : i < O.length), i < k → f os[i] O[i] = true
theorem UpF.step {f : Wls → Wls → Bool} {os O : List Wls} {k : Nat} (h : UpF f os O k) (he : ∀ (h : k < os.length) (h' : k < O.length), f os[k] O[k] = true) : UpF f os O (k + 1) := fun i h1 h2 hi => by
  by_cases e : i = k
  · subst e; exact he h1 h2
  · exact h i h1 h2 (by omega)
theorem relB_all {f : Wls → Wls → Bool} {os O : List Wls} (hl : os.length = O.length) (h : UpF f os O os.length) : relB f os O = true := if_pos ⟨hl, fun i h1 h2 => h i h1 h2 h1⟩
theorem wid_ne {e f : Wid} (h : ¬ e = f) : ¬ e.c = f.c ∨ (e.c = f.c ∧ ¬ e.i = f.i) := by
  obtain ⟨a, v⟩ := e
  obtain ⟨a', v'⟩ := f
  by_cases h1 : a = a'
  · by_cases h2 : v = v'
    · exact absurd (by rw [h1, h2]) h
    · exact .inr ⟨h1, h2⟩
  · exact .inl h1
theorem ids_get {w : World} {B : Nat} {A : Option Addr} {l : List Wid} (h : RdC w B A (wids l)) {i : Nat} (hi : i < l.length) : ∃ b off, A = some ⟨b, off, none⟩ ∧ b < B ∧ w.cell? ⟨b, off + i * 2, none⟩ = some (.int .i64 l[i].c) ∧ w.cell? ⟨b, off + i * 2 + 1, none⟩ = some (.int .i64 l[i].i) := by
  obtain ⟨b, off, e, hb, h0, h1⟩ := h.get (i := i) (by rw [wids_length]; exact hi)
  exact ⟨b, off, e, hb, by rw [h0]; simp [wids, wid], by rw [h1]; simp [wids, wid]⟩
/-- A function of two write lists that tells f of them. -/
def TellsW (F : Nat) (f : Wls → Wls → Bool) : Prop := ∀ (x y : Wls) (a a' : Option Addr) (d d' : Nat) (V : World), x.ids.length ≤ maxLen → y.ids.length ≤ maxLen → RdC V V.heap.size a (wids x.ids) → RdC V V.heap.size a' (wids y.ids) →
  Calls Tryz.prog F #[.agg #[.int .i64 x.a, .slice a x.ids.length d], .agg #[.int .i64 y.a, .slice a' y.ids.length d']] V fun e w' => e = .returned (.bool (f x y)) ∧ Below V.heap.size V w'
end Go.Proofs.YtnnfkmjhaljplaaGreat
namespace Go.Proofs.YtnnfkmjhaljplaaGreat
open Go.RowKit
theorem wlR_set_u : ∀ {os : List Wls} {us : List Value}, us.length = os.length → ∀ (i : Nat) (h : i < os.length) (l : List Wid) (u : Value), wlR (os.set i ⟨os[i].a, l⟩) (us.set i u) = (wlR os us).set (i * 2 + 1) u
  | [], _, _, i, h, _, _ => by simp at h
  | _ :: _, [], h, _, _, _, _ => by simp at h
  | x :: r, v :: us, h, 0, _, l, u => rfl
  | x :: r, v :: us, h, i + 1, hi, l, u => by
    have := wlR_set_u (os := r) (us := us) (by simpa using h) i (by simpa using hi) l u
    rw [show (i + 1) * 2 + 1 = i * 2 + 1 + 1 + 1 by omega]
    simp only [List.set_cons_succ, wlR, List.getElem_cons_succ, this]
theorem wlR_ids : ∀ {os : List Wls} {us : List Value}, us.length = os.length → ∀ (i : Nat) (h : i < os.length) (l : List Wid), wlR (os.set i ⟨os[i].a, l⟩) us = wlR os us
  | [], _, _, i, h, _ => by simp at h
  | _ :: _, [], h, _, _, _ => by simp at h
  | x :: r, v :: us, h, 0, _, l => rfl
  | x :: r, v :: us, h, i + 1, hi, l => by
    have := wlR_ids (os := r) (us := us) (by simpa using h) i (by simpa using hi) l
    simp only [List.set_cons_succ, wlR, List.getElem_cons_succ, this]
theorem wlR_one : ∀ {os : List Wls} {us : List Value}, (∀ u ∈ us, u.oneCell' = true) → ∀ x ∈ wlR os us, x.oneCell' = true
  | [], _, _, x, h => by simp [wlR] at h
  | _ :: _, [], _, x, h => by simp [wlR] at h
  | y :: r, u :: us, hu, x, h => by
    simp only [wlR, List.mem_cons] at h
    rcases h with rfl | rfl | h
    · rfl
    · exact hu _ (by simp)
    · exact wlR_one (fun v hv => hu v (by simp [hv])) x h
section
variable {w w1 w' : World} {base : Nat} {v v' : Value} {os : List Wls} {us : List Value}
theorem OwnW.at_ (h : OwnW w base v os us) {i : Nat} {u : Value} (hu : us[i]? = some u) : ∃ (hi : i < os.length), w.ownsRow base 145 2 u os[i].ids.length (cels (wids os[i].ids)) := by
  have hi : i < os.length := by
    rcases Nat.lt_or_ge i us.length with a | a
    · rw [← h.len]; exact a
    · rw [List.getElem?_eq_none a] at hu; exact absurd hu (by simp)
  obtain ⟨u', h1, h2⟩ := h.rows i hi
  rw [hu] at h1
  cases h1
  exact ⟨hi, h2⟩
theorem OwnW.far (h : OwnW w base v os us) {i : Nat} {u : Value} (hu : us[i]? = some u) : ∀ b, u.ownBlock = some b → v.ownBlock ≠ some b := by
  obtain ⟨_, h2⟩ := h.at_ hu
  exact own_types h2 h.row (by decide)
/-- Whatever turns no row of it leaves it as it is. -/
theorem OwnW.keptB {row : Option Nat} (h : OwnW w base v os us) (hg : w.grownBy w' row) (hv : ∀ b, v.ownBlock = some b → row ≠ some b) (hu : ∀ u ∈ us, ∀ b, u.ownBlock = some b → row ≠ some b) : OwnW w' base v os us :=
  ⟨h.row.kept hg (own_sep hv), h.len, fun i hi => by
    obtain ⟨u, h1, h2⟩ := h.rows i hi
    exact ⟨u, h1, h2.kept hg (own_sep (hu u (List.mem_of_getElem? h1)))⟩, h.apart⟩
theorem OwnW.n_eq {A : Option Addr} {n c : Nat} (h : OwnW w base (.slice A n c) os us) : n = os.length := by
  rcases h.row.2 with ⟨h', h''⟩ | ⟨g, cap, cur, h', _⟩
  · simp only [Value.slice.injEq] at h'; omega
  · simp only [Value.slice.injEq] at h'; omega
theorem OwnW.fresh (h : OwnW w base v os us) {b : Nat} (hb : w.heap.size ≤ b) {j : Nat} {x : Value} (hx : us[j]? = some x) : x.ownBlock ≠ some b := fun e => by
  obtain ⟨_, h2⟩ := h.at_ hx
  have := h2.lt b e
  omega
/-- Ids turned in their own memory. -/
theorem OwnW.turn (h : OwnW w base v os us) {i : Nat} {u : Value} {l : List Wid} (hui : us[i]? = some u) (hi : i < os.length) (hg : w.grownBy w1 u.ownBlock) (hu' : w1.ownsRow base 145 2 u l.length (cels (wids l))) :
    OwnW w1 base v (os.set i ⟨os[i].a, l⟩) us := by
  refine ⟨?_, by rw [List.length_set]; exact h.len, fun j hj => ?_, h.apart⟩
  · rw [List.length_set, wlR_ids h.len i hi]
    exact h.row.kept hg (own_sep fun b hb e => h.far hui b e hb)
  · have hj' : j < os.length := by rw [List.length_set] at hj; exact hj
    obtain ⟨x, h1, h2⟩ := h.rows j hj'
    refine ⟨x, h1, ?_⟩
    by_cases hji : i = j
    · subst hji
      rw [hui] at h1
      cases h1
      rw [List.getElem_set_self]
      exact hu'
    · rw [List.getElem_set_ne hji]
      exact h2.kept hg (own_sep fun b hb e => h.apart i j u x hji hui h1 b e hb)
/-- Another row of ids in the place of one. -/
theorem OwnW.swap {gv n c i : Nat} {u u' : Value} {row : Option Nat} {l : List Wid} (h : OwnW w base (.slice (some ⟨gv, 0, none⟩) n c) os us) (hui : us[i]? = some u) (hi : i < os.length) (hg : w.grownBy w1 row) (hrow : ∀ b, row = some b → u.ownBlock = some b ∨ b < base)
    (hu' : w1.ownsRow base 145 2 u' l.length (cels (wids l))) (hat : ∀ b, u'.ownBlock = some b → u.ownBlock = some b ∨ ∀ (j : Nat) (x : Value), i ≠ j → us[j]? = some x → x.ownBlock ≠ some b) :
    OwnW (w1.setCell ⟨gv, i * 2 + 1, none⟩ u') base (.slice (some ⟨gv, 0, none⟩) n c) (os.set i ⟨os[i].a, l⟩) (us.set i u') := by
  obtain rfl := h.n_eq
  have hgv := h.row.lt gv rfl
  have hr1 := h.row.kept hg (own_sep fun b hb e => by
    simp only [Value.ownBlock, Option.some.injEq] at hb
    subst hb
    rcases hrow _ e with a | a
    · exact h.far hui _ a rfl
    · omega)
  have hne : ∀ b, u'.ownBlock = some b → b ≠ gv := fun b hb e => own_types hu' hr1 (by decide) b hb (by rw [e]; rfl)
  have hrk : ∀ (x : Value) (n : Nat) (xs : List Value) (j : Nat), i ≠ j → us[j]? = some x → w.ownsRow base 145 2 x n xs → ∀ b, x.ownBlock = some b → row ≠ some b := by
    intro x n xs j hji hj hx b hb e
    rcases hrow b e with a | a
    · exact h.apart i j u x hji hui hj b a hb
    · have := hx.lt b hb; omega
  refine ⟨?_, by rw [List.length_set, List.length_set]; exact h.len, fun j hj => ?_, ?_⟩
  · rw [List.length_set, wlR_set_u h.len i hi]
    exact (hr1.stored _ u').1
  · have hj' : j < os.length := by rw [List.length_set] at hj; exact hj
    by_cases hji : i = j
    · subst hji
      refine ⟨u', by rw [List.getElem?_set_self (by rw [h.len]; exact hj')], ?_⟩
      rw [List.getElem_set_self]
      exact hu'.kept (grown_set w1 gv _ u') (own_sep fun b hb e => hne b hb (by simpa using e.symm))
    · obtain ⟨x, h1, h2⟩ := h.rows j hj'
      refine ⟨x, by rw [List.getElem?_set_ne hji]; exact h1, ?_⟩
      rw [List.getElem_set_ne hji]
      exact (h2.kept hg (own_sep (hrk x _ _ j hji h1 h2))).kept (grown_set w1 gv _ u') (own_sep fun b hb e => h.far h1 b hb (by simpa [Value.ownBlock] using e))
  · have key : ∀ (j : Nat) (x : Value), (us.set i u')[j]? = some x → (j = i ∧ x = u') ∨ (i ≠ j ∧ us[j]? = some x) := by
      intro j x hx
      by_cases hji : i = j
      · subst hji
        rw [List.getElem?_set_self (by rw [h.len]; exact hi)] at hx
        exact .inl ⟨rfl, (Option.some.inj hx).symm⟩
      · rw [List.getElem?_set_ne hji] at hx
        exact .inr ⟨hji, hx⟩
    intro p q x y hpq hx hy b hb
    rcases key p x hx with ⟨p1, rfl⟩ | ⟨p1, p2⟩
    · rcases key q y hy with ⟨q1, rfl⟩ | ⟨q1, q2⟩
      · omega
      · rcases hat b hb with a | a
        · exact h.apart i q u y q1 hui q2 b a
        · exact a q y q1 q2
    · rcases key q y hy with ⟨q1, rfl⟩ | ⟨q1, q2⟩
      · intro e
        rcases hat b e with a | a
        · exact h.apart i p u x p1 hui p2 b a hb
        · exact a p x p1 p2 hb
      · exact h.apart p q x y hpq p2 q2 b hb
/-- A new list behind the others. -/
theorem OwnW.push {u : Value} {x : Wls} (h : OwnW w base v os us) (hu : w.ownsRow base 145 2 u x.ids.length (cels (wids x.ids))) (hf : ∀ b, u.ownBlock = some b → ∀ (i : Nat) (u' : Value), us[i]? = some u' → u'.ownBlock ≠ some b)
    (ho : w'.ownsRow base 149 2 v' (os.length + 1) (wlR os us ++ [.int .i64 x.a, u])) (hg : w.grownBy w' v.ownBlock) : OwnW w' base v' (os ++ [x]) (us ++ [u]) := by
  have hkeep : ∀ (y : Value) (n : Nat) (xs : List Value), w.ownsRow base 145 2 y n xs → w'.ownsRow base 145 2 y n xs := fun y n xs hy => hy.kept hg (own_sep fun b hb e => own_types hy h.row (by decide) b hb e)
  refine ⟨by rw [List.length_append, List.length_singleton, wlR_append h.len]; exact ho, by simp [h.len], fun i hi => ?_, ?_⟩
  · rw [List.length_append, List.length_singleton] at hi
    by_cases hlt : i < os.length
    · obtain ⟨y, h1, h2⟩ := h.rows i hlt
      refine ⟨y, by rw [List.getElem?_append_left (by rw [h.len]; exact hlt)]; exact h1, ?_⟩
      rw [List.getElem_append_left hlt]
      exact hkeep _ _ _ h2
    · obtain rfl : i = os.length := by omega
      refine ⟨u, by rw [List.getElem?_append_right (by rw [h.len]; exact Nat.le_refl _), h.len, Nat.sub_self]; rfl, ?_⟩
      rw [List.getElem_append_right (Nat.le_refl _)]
      simp only [Nat.sub_self, List.getElem_cons_zero]
      exact hkeep _ _ _ hu
  · have key : ∀ (i : Nat) (y : Value), (us ++ [u])[i]? = some y → (i < us.length ∧ us[i]? = some y) ∨ (i = us.length ∧ y = u) := by
      intro i y hy
      by_cases hlt : i < us.length
      · rw [List.getElem?_append_left hlt] at hy
        exact .inl ⟨hlt, hy⟩
      · rw [List.getElem?_append_right (by omega)] at hy
        have hi : i - us.length = 0 := by
          rcases Nat.eq_zero_or_pos (i - us.length) with a | a
          · exact a
          · rw [List.getElem?_eq_none (by simp; omega)] at hy; exact absurd hy (by simp)
        rw [hi] at hy
        simp only [List.getElem?_cons_zero, Option.some.injEq] at hy
        exact .inr ⟨by omega, hy.symm⟩
    intro i j y z hij hy hz b hb
    rcases key i y hy with ⟨i1, i2⟩ | ⟨i1, rfl⟩
    · rcases key j z hz with ⟨j1, j2⟩ | ⟨j1, rfl⟩
      · exact h.apart i j y z hij i2 j2 b hb
      · intro e
        exact hf b e i y i2 hb
    · rcases key j z hz with ⟨j1, j2⟩ | ⟨j1, rfl⟩
      · exact hf b hb j z j2
      · omega
theorem OwnW.bound (h : OwnW w base v os us) : ∀ u ∈ us, ∀ b, u.ownBlock = some b → base ≤ b ∧ b < w.heap.size := fun u hu b hb => by
  obtain ⟨i, hi⟩ := List.getElem?_of_mem hu
  obtain ⟨_, h1⟩ := h.at_ hi
  exact h1.lt b hb
theorem OwnW.only {vs : List Value} (h : OwnW w base v os us) (ho : Only vs w w') (hf : ∀ x ∈ vs, ∀ b, x.ownBlock = some b → v.ownBlock ≠ some b ∧ ∀ u ∈ us, u.ownBlock ≠ some b) : OwnW w' base v os us :=
  ⟨ho.own _ _ _ _ _ _ h.row fun b hb x hx e => (hf x hx b e).1 hb, h.len, fun i hi => by
    obtain ⟨u, h1, h2⟩ := h.rows i hi
    exact ⟨u, h1, ho.own _ _ _ _ _ _ h2 fun b hb x hx e => (hf x hx b e).2 u (List.mem_of_getElem? h1) hb⟩, h.apart⟩
end
end Go.Proofs.YtnnfkmjhaljplaaGreat
namespace Go.Proofs.YtnnfkmjhaljplaaGreat
open Go.RowKit
theorem cells_of_rv {w : World} {B : Nat} {ad : Addr} {vs : List Value} (h : RdV w B (some ad) vs) : ∀ j u, vs[j]? = some u → w.cell? (ad.add j) = some u := by
  intro j u hj
  have hjl : j < vs.length := by
    rcases Nat.lt_or_ge j vs.length with a | a
    · exact a
    · rw [List.getElem?_eq_none a] at hj; exact absurd hj (by simp)
  obtain ⟨b, off, e, _, hc⟩ := h (by omega)
  cases e
  rw [Go.WideShapes.add_plain, hc j hjl]
  rw [List.getElem?_eq_getElem hjl] at hj
  exact hj
section
variable {P : Program} (w : World)
theorem run_append_rv (base sz : Nat) (hs0 : 0 < sz) (t ty e : TypeId) (i : TypeInfo) (z : Value) (bytes : Nat) (ht : P.underlying t = some (.slice e)) (hi : P.info? e = some i) (hz : i.zero = some z)
    (hsize : i.size = sz) (hby : i.bytes = bytes) (hzs : z.cells.size = sz)
    (v : Value) (n : Nat) (xs : List Value) (hown : w.ownsRow base e sz v n xs) (A : Option Addr) (vs : List Value) (m c B : Nat) (hm : vs.length = m * sz) (h1c : ∀ u ∈ vs, u.oneCell' = true) (hR : RdV w B A vs)
    (h63 : n + m ≤ maxLen) (hbytes : (n + m) * bytes ≤ 140737488355328) (hbase : base ≤ w.heap.size) :
    ∃ v' w', (Builtin.append_ #[t, t] ty #[v, .slice A m c]).run P w = .ok v' w' ∧ w'.ownsRow base e sz v' (n + m) (xs ++ vs) ∧ w.grownBy w' v.ownBlock ∧ (v'.ownBlock = v.ownBlock ∨ v'.ownBlock = some w.heap.size) := by
  rcases A with _ | ad
  · have hl : vs = [] := by
      rcases vs with _ | ⟨x, vs⟩
      · rfl
      · obtain ⟨b, off, e, _⟩ := hR (by simp)
        cases e
    subst hl
    obtain rfl : m = 0 := by
      simp only [List.length_nil] at hm
      rcases Nat.eq_zero_or_pos m with h | h
      · exact h
      · have := Nat.mul_pos h hs0; omega
    refine ⟨v, w, ?_, by simpa using hown, World.grownBy.refl w _, .inl rfl⟩
    rcases hown.2 with ⟨rfl, rfl⟩ | ⟨g, cap, cur, rfl, _, _, hnc, _⟩
    · simp [Builtin.append_, run_underlying ht, sizeOf, typeInfo, hi, Builtin.lenOf, Builtin.firstCells]
    · simp [Builtin.append_, run_underlying ht, sizeOf, typeInfo, hi, Builtin.lenOf, Builtin.firstCells, hnc, storeCells]
  · obtain ⟨v', w', hr, h2, h3, _, h5⟩ := run_append_own_at (P := P) w base t ty e i z sz bytes ht hi hz hsize hby hzs hs0 v n xs hown ad m c vs hm (cells_of_rv hR) h1c h63 hbytes hbase
    exact ⟨v', w', hr, h2, h3, h5⟩
end
end Go.Proofs.YtnnfkmjhaljplaaGreat
