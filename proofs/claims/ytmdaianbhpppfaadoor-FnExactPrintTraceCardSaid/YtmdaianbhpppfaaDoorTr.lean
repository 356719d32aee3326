/- What a slice of slices of events reads as in memory; plain lemmas. No program is named here. -/
import Derived.Test.YtmdaianbhpppfaaDoorEvBase
namespace Go.Proofs.YtmdaianbhpppfaaDoor
open Go.RowKit

/-- The slice address A leads to the traces t: each cell a slice that reads as the events. -/
def RdT (w : World) (B : Nat) (A : Option Addr) (t : List (List Ev)) : Prop :=
  0 < t.length → ∃ b off, A = some ⟨b, off, none⟩ ∧ b < B ∧ ∀ i, (h : i < t.length) → ∃ a c, w.cell? ⟨b, off + i, none⟩ = some (.slice a t[i].length c) ∧ t[i].length ≤ c ∧ c ≤ maxLen ∧ RdE w B a t[i]
section
variable {w w' : World} {B B' : Nat} {A : Option Addr} {t : List (List Ev)}
theorem RdT.nil_ : RdT w B A [] := fun h => absurd h (by simp)
theorem RdT.keep (h : RdT w B A t) (hk : ∀ p : Addr, p.block < B → w'.cell? p = w.cell? p) : RdT w' B A t := by
  intro h0
  obtain ⟨b, off, e, hb, hc⟩ := h h0
  refine ⟨b, off, e, hb, fun i hi => ?_⟩
  obtain ⟨a, c, h1, h2, h3, h4⟩ := hc i hi
  exact ⟨a, c, (hk _ hb).trans h1, h2, h3, h4.keep hk⟩
theorem RdT.more (h : RdT w B A t) (hB : B ≤ B') : RdT w B' A t := by
  intro h0
  obtain ⟨b, off, e, hb, hc⟩ := h h0
  refine ⟨b, off, e, by omega, fun i hi => ?_⟩
  obtain ⟨a, c, h1, h2, h3, h4⟩ := hc i hi
  exact ⟨a, c, h1, h2, h3, h4.more hB⟩
theorem RdT.below (h : RdT w B A t) (hb : Below B w w') : RdT w' B A t := h.keep fun _ hp => hb.cell hp
theorem RdT.drew (h : RdT w B A t) : RdT w.drew B A t := h
theorem RdT.drewN (h : RdT w B A t) (n : Nat) : RdT (w.drewN n) B A t := h
theorem RdT.alloc (h : RdT w B A t) (hB : B ≤ w.heap.size) (o : Obj) : RdT (w.alloc o) B A t := h.keep fun p hp => World.cell?_alloc_lt w o p (by omega)
theorem RdT.lt (h : RdT w B A t) : RdT w w.heap.size A t := by
  intro h0
  obtain ⟨b, off, e, hb, hc⟩ := h h0
  refine ⟨b, off, e, ?_, fun i hi => ?_⟩
  · obtain ⟨a, c, h1, _⟩ := hc 0 h0
    exact block_lt_of_cell h1
  · obtain ⟨a, c, h1, h2, h3, h4⟩ := hc i hi
    exact ⟨a, c, h1, h2, h3, h4.lt⟩
theorem RdT.get (h : RdT w B A t) {i : Nat} (hi : i < t.length) : ∃ b off a c, A = some ⟨b, off, none⟩ ∧ b < B ∧ w.cell? ⟨b, off + i, none⟩ = some (.slice a t[i].length c) ∧ t[i].length ≤ c ∧ c ≤ maxLen ∧ RdE w B a t[i] := by
  obtain ⟨b, off, e, hb, hc⟩ := h (by omega)
  obtain ⟨a, c, h1, h2, h3, h4⟩ := hc i hi
  exact ⟨b, off, a, c, e, hb, h1, h2, h3, h4⟩
end
/-- A store into another block turns nothing. -/
theorem RdV.far {w : World} {B : Nat} {A : Option Addr} {vs : List Value} (h : RdV w B A vs) (p : Addr) (u : Value) (hn : ∀ x, A = some x → x.block ≠ p.block) : RdV (w.setCell p u) B A vs := by
  intro h0
  obtain ⟨b, off, e, hb, hc⟩ := h h0
  refine ⟨b, off, e, hb, fun i hi => ?_⟩
  have hne := hn _ e
  have hh := Below.heap_setCell w p u b (fun e' => hne (by simpa using e'))
  rw [← hc i hi]
  unfold World.cell?
  rw [hh]
theorem RdE.far {w : World} {B : Nat} {A : Option Addr} {es : List Ev} (h : RdE w B A es) (p : Addr) (u : Value) (hn : ∀ x, A = some x → x.block ≠ p.block) : RdE (w.setCell p u) B A es := RdV.far h p u hn
/-- How many events there are in all. -/
def sumT : List (List Ev) → Nat
  | [] => 0
  | l :: r => l.length + sumT r
theorem sumT_drop (t : List (List Ev)) (i : Nat) (h : i < t.length) : sumT (t.drop i) = t[i].length + sumT (t.drop (i + 1)) := by
  rw [List.drop_eq_getElem_cons h, sumT]
theorem sumT_end {t : List (List Ev)} {i : Nat} (h : ¬ i < t.length) : sumT (t.drop i) = 0 := by rw [List.drop_eq_nil_of_le (by omega)]; rfl
theorem sumT_mem : ∀ {t : List (List Ev)} {l : List Ev}, l ∈ t → l.length ≤ sumT t
  | x :: r, l, h => by
    rcases List.mem_cons.1 h with rfl | h
    · simp [sumT]
    · have := sumT_mem h
      simp only [sumT]
      omega
/-- Each part is no longer than m. -/
def LenT (m : Nat) (t : List (List Ev)) : Prop := t.length ≤ m ∧ ∀ i, (h : i < t.length) → t[i].length ≤ m
theorem LenT.of_sum {t : List (List Ev)} {m : Nat} (h : t.length + sumT t ≤ m) : LenT m t :=
  ⟨by omega, fun i hi => by have := sumT_mem (List.getElem_mem hi); omega⟩
theorem LenT.mono {t : List (List Ev)} {m n : Nat} (h : LenT m t) (hn : m ≤ n) : LenT n t := ⟨by have := h.1; omega, fun i hi => by have := h.2 i hi; omega⟩
end Go.Proofs.YtmdaianbhpppfaaDoor
