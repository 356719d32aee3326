/- What a slice of write lists reads as in memory, and such a one of the call's own; plain lemmas. -/
import Derived.Test.YtdmdljimbmhecaaGMcs
import Derived.Test.YtdmdljimbmhecaaOdm2
import Derived.Test.YtdmdljimbmhecaaGBase
namespace Go.Proofs.Ytdmdljimbmhecaa
open Go.RowKit

def wid (x : Wid) : Cel := ⟨x.c, x.i⟩
def wids (l : List Wid) : List Cel := l.map wid
theorem wids_length (l : List Wid) : (wids l).length = l.length := by simp [wids]
/-- The slice address A leads to the write lists os. -/
def RdW (w : World) (B : Nat) (A : Option Addr) (os : List Wls) : Prop :=
  0 < os.length → ∃ b off, A = some ⟨b, off, none⟩ ∧ b < B ∧ ∀ i, (h : i < os.length) → w.cell? ⟨b, off + i * 2, none⟩ = some (.int .i64 os[i].a) ∧ ∃ a c, w.cell? ⟨b, off + i * 2 + 1, none⟩ = some (.slice a os[i].ids.length c) ∧ os[i].ids.length ≤ c ∧ c ≤ maxLen ∧ RdC w B a (wids os[i].ids)
section
variable {w w' : World} {B B' : Nat} {A : Option Addr} {os : List Wls}
theorem RdW.nil_ : RdW w B A [] := fun h => absurd h (by simp)
theorem RdW.keep (h : RdW w B A os) (hk : ∀ p : Addr, p.block < B → w'.cell? p = w.cell? p) : RdW w' B A os := by
  intro h0
  obtain ⟨b, off, e, hb, hc⟩ := h h0
  refine ⟨b, off, e, hb, fun i hi => ?_⟩
  obtain ⟨h0, a, c, h1, h2, h3, h4⟩ := hc i hi
  exact ⟨(hk _ hb).trans h0, a, c, (hk _ hb).trans h1, h2, h3, h4.keep hk⟩
theorem RdW.more (h : RdW w B A os) (hB : B ≤ B') : RdW w B' A os := by
  intro h0
  obtain ⟨b, off, e, hb, hc⟩ := h h0
  refine ⟨b, off, e, by omega, fun i hi => ?_⟩
  obtain ⟨h0, a, c, h1, h2, h3, h4⟩ := hc i hi
  exact ⟨h0, a, c, h1, h2, h3, h4.more hB⟩
theorem RdW.below (h : RdW w B A os) (hb : Below B w w') : RdW w' B A os := h.keep fun _ hp => hb.cell hp
theorem RdW.drew (h : RdW w B A os) : RdW w.drew B A os := h
theorem RdW.alloc (h : RdW w B A os) (hB : B ≤ w.heap.size) (o : Obj) : RdW (w.alloc o) B A os := h.keep fun p hp => World.cell?_alloc_lt w o p (by omega)
theorem RdW.lt (h : RdW w B A os) : RdW w w.heap.size A os := by
  intro h0
  obtain ⟨b, off, e, hb, hc⟩ := h h0
  refine ⟨b, off, e, ?_, fun i hi => ?_⟩
  · obtain ⟨h1, _⟩ := hc 0 h0
    exact block_lt_of_cell h1
  · obtain ⟨h0, a, c, h1, h2, h3, h4⟩ := hc i hi
    exact ⟨h0, a, c, h1, h2, h3, h4.lt⟩
theorem RdW.get (h : RdW w B A os) {i : Nat} (hi : i < os.length) : ∃ b off a c, A = some ⟨b, off, none⟩ ∧ b < B ∧ w.cell? ⟨b, off + i * 2, none⟩ = some (.int .i64 os[i].a) ∧ w.cell? ⟨b, off + i * 2 + 1, none⟩ = some (.slice a os[i].ids.length c) ∧ os[i].ids.length ≤ c ∧ c ≤ maxLen ∧ RdC w B a (wids os[i].ids) := by
  obtain ⟨b, off, e, hb, hc⟩ := h (by omega)
  obtain ⟨h0, a, c, h1, h2, h3, h4⟩ := hc i hi
  exact ⟨b, off, a, c, e, hb, h0, h1, h2, h3, h4⟩
end
theorem sumO_drop (os : List Wls) (i : Nat) (h : i < os.length) : sumO (os.drop i) = os[i].ids.length + sumO (os.drop (i + 1)) := by
  rw [List.drop_eq_getElem_cons h, sumO]
theorem sumO_end {os : List Wls} {i : Nat} (h : ¬ i < os.length) : sumO (os.drop i) = 0 := by rw [List.drop_eq_nil_of_le (by omega)]; rfl
/-- The cells of a row of write lists whose ids lie in us. -/
def wlR : List Wls → List Value → List Value
  | x :: r, u :: us => .int .i64 x.a :: u :: wlR r us
  | _, _ => []
theorem wlR_length : ∀ {os : List Wls} {us : List Value}, us.length = os.length → (wlR os us).length = os.length * 2
  | [], [], _ => rfl
  | [], _ :: _, h => by simp at h
  | _ :: _, [], h => by simp at h
  | x :: r, u :: us, h => by
    have := wlR_length (os := r) (us := us) (by simpa using h)
    simp only [wlR, List.length_cons, this]
    omega
theorem wlR_get : ∀ {os : List Wls} {us : List Value}, us.length = os.length → ∀ (i : Nat) (h : i < os.length), (wlR os us)[i * 2]? = some (.int .i64 os[i].a) ∧ (wlR os us)[i * 2 + 1]? = us[i]?
  | [], _, _, i, h => by simp at h
  | _ :: _, [], h, _, _ => by simp at h
  | x :: r, u :: us, h, 0, _ => ⟨rfl, rfl⟩
  | x :: r, u :: us, h, i + 1, hi => by
    have := wlR_get (os := r) (us := us) (by simpa using h) i (by simpa using hi)
    rw [show (i + 1) * 2 = i * 2 + 1 + 1 by omega, wlR]
    simp only [List.getElem?_cons_succ, List.getElem_cons_succ]
    exact this
theorem wlR_append : ∀ {os : List Wls} {us : List Value}, us.length = os.length → ∀ (x : Wls) (u : Value), wlR (os ++ [x]) (us ++ [u]) = wlR os us ++ [.int .i64 x.a, u]
  | [], [], _, _, _ => rfl
  | [], _ :: _, h, _, _ => by simp at h
  | _ :: _, [], h, _, _ => by simp at h
  | y :: r, v :: us, h, x, u => by
    have := wlR_append (os := r) (us := us) (by simpa using h) x u
    simp only [List.cons_append, wlR, this]
/-- Write lists in a row of the call's own, the ids of each in one of their own, apart from the others'. -/
structure OwnW (w : World) (base : Nat) (v : Value) (os : List Wls) (us : List Value) : Prop where
  row : w.ownsRow base 82 2 v os.length (wlR os us)
  len : us.length = os.length
  rows : ∀ i, (hi : i < os.length) → ∃ u, us[i]? = some u ∧ w.ownsRow base 96 2 u os[i].ids.length (cels (wids os[i].ids))
  apart : ∀ (i j : Nat) (u u' : Value), i ≠ j → us[i]? = some u → us[j]? = some u' → ∀ b, u.ownBlock = some b → u'.ownBlock ≠ some b
section
variable {w w' : World} {base : Nat} {v : Value} {os : List Wls} {us : List Value}
theorem OwnW.kept {row : Option Nat} (h : OwnW w base v os us) (hg : w.grownBy w' row) (hr : ∀ b, row = some b → b < base) : OwnW w' base v os us :=
  ⟨h.row.kept hg (own_sep fun b hb e => by have := (h.row.lt b hb).1; have := hr b e; omega), h.len, fun i hi => by
    obtain ⟨u, h1, h2⟩ := h.rows i hi
    exact ⟨u, h1, h2.kept hg (own_sep fun b hb e => by have := (h2.lt b hb).1; have := hr b e; omega)⟩, h.apart⟩
theorem OwnW.below (h : OwnW w base v os us) (hb : Below w.heap.size w w') : OwnW w' base v os us := h.kept (row := none) ⟨hb.os, hb.tape, hb.output, hb.size, fun k hk _ => hb.block k hk⟩ (fun b e => by cases e)
theorem OwnW.alloc (h : OwnW w base v os us) (o : Obj) : OwnW (w.alloc o) base v os us := h.below ((Below.refl _ _).alloc (Nat.le_refl _) _)
theorem OwnW.mono (h : OwnW w base v os us) {b' : Nat} (hb : b' ≤ base) : OwnW w b' v os us :=
  ⟨own_mono h.row hb, h.len, fun i hi => by
    obtain ⟨u, h1, h2⟩ := h.rows i hi
    exact ⟨u, h1, own_mono h2 hb⟩, h.apart⟩
theorem OwnW.nil_ (w : World) (base : Nat) : OwnW w base (.slice none 0 0) [] [] := ⟨World.ownsRow_nil _ _ _ _, rfl, fun i hi => by simp at hi, fun i j u u' _ hu => by simp at hu⟩
theorem OwnW.rd {A : Option Addr} {n c : Nat} (h : OwnW w base (.slice A n c) os us) : RdW w w.heap.size A os := by
  intro h0
  rcases h.row.2 with ⟨h', h''⟩ | ⟨g, cap, cur, h', _⟩
  · omega
  · have hr := h.row
    simp only [Value.slice.injEq] at h'
    obtain ⟨rfl, rfl, rfl⟩ := h'
    refine ⟨g, 0, rfl, (hr.lt g rfl).2, fun i hi => ?_⟩
    obtain ⟨u, h1, h2⟩ := h.rows i hi
    obtain ⟨g1, g2⟩ := wlR_get h.len i hi
    obtain ⟨a, c, rfl⟩ := own_shape h2
    have hcp := own_capE h2
    rw [Nat.zero_add]
    refine ⟨by rw [hr.cellAt _ (by omega)]; exact g1, a, c, by rw [hr.cellAt _ (by omega), g2]; exact h1, hcp.1, hcp.2, ?_⟩
    exact RdC.of_own h2
end
end Go.Proofs.Ytdmdljimbmhecaa
