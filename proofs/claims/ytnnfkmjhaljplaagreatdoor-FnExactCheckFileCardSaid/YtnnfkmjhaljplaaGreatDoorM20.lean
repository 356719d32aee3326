/- What the laws' walks rest upon, part 20. -/
import Derived.Test.YtnnfkmjhaljplaaGreatDoorM06
import Derived.Test.YtnnfkmjhaljplaaGreatDoorM01
import Derived.Test.YtnnfkmjhaljplaaGreatDoorM03
namespace Go.Proofs.YtnnfkmjhaljplaaGreatDoor
open Go.RowKit
/-- What lies below lo, and what is of the call's own from hi on, is as it was. -/
structure Spared (lo hi : Nat) (w w' : World) : Prop where
  below : Below lo w w'
  size : w.heap.size ≤ w'.heap.size
  own : ∀ (base : Nat) (e : TypeId) (size n : Nat) (v : Value) (xs : List Value), w.ownsRow base e size v n xs → (∀ b, v.ownBlock = some b → hi ≤ b) → w'.ownsRow base e size v n xs
  bk : ∀ (g : Nat) (cs : Array Value) (t : TypeId), Bk w g cs t → hi ≤ g → Bk w' g cs t
theorem Spared.refl (lo hi : Nat) (w : World) : Spared lo hi w w := ⟨Below.refl _ _, Nat.le_refl _, fun _ _ _ _ _ _ h _ => h, fun _ _ _ h _ => h⟩
theorem Spared.trans {lo hi : Nat} {a b c : World} (h : Spared lo hi a b) (k : Spared lo hi b c) : Spared lo hi a c :=
  ⟨h.below.trans k.below, Nat.le_trans h.size k.size, fun _ _ _ _ _ _ x y => k.own _ _ _ _ _ _ (h.own _ _ _ _ _ _ x y) y, fun _ _ _ x y => k.bk _ _ _ (h.bk _ _ _ x y) y⟩
theorem Spared.of_grown {lo hi : Nat} {w w' : World} {row : Option Nat} (h : w.grownBy w' row) (hl : lo ≤ w.heap.size) (hr : ∀ b, row = some b → lo ≤ b ∧ b < hi) : Spared lo hi w w' :=
  ⟨(Below.refl _ _).grown h hl (fun k hk => (hr k hk).1), h.size,
   fun _ _ _ _ _ _ x y => x.kept h (own_sep fun b hb e => by have := y b hb; have := hr b e; omega),
   fun g _ _ x y => x.grown h (fun e => by have := hr g e.symm; omega)⟩
/-- A row turned in its own memory. -/
theorem OwnT.turn {w w1 : World} {base i : Nat} {v u : Value} {t : List (List Ev)} {us : List Value} {es' : List Ev} (h : OwnT w base v t us) (hui : us[i]? = some u) (hg : w.grownBy w1 u.ownBlock) (hu' : w1.ownsRow base 48 3 u es'.length (evs es')) :
    OwnT w1 base v (t.set i es') us := by
  obtain ⟨hi, hu, hu3⟩ := h.at_ hui
  refine ⟨?_, fun j hj => ?_, h.apart⟩
  · rw [List.length_set]
    exact h.row.kept hg (own_sep fun b hb e => hu3 b e hb)
  · have hj' : j < t.length := by rw [List.length_set] at hj; exact hj
    obtain ⟨x, h1, h2, h3⟩ := h.rows j hj'
    by_cases hji : j = i
    · subst hji
      rw [hui] at h1
      cases h1
      refine ⟨u, hui, ?_, hu3⟩
      rw [List.getElem_set_self]
      exact hu'
    · refine ⟨x, h1, ?_, h3⟩
      rw [List.getElem_set_ne (by omega)]
      exact h2.kept hg (own_sep fun b hb e => h.apart i j u x (by omega) hui h1 b e hb)
end Go.Proofs.YtnnfkmjhaljplaaGreatDoor
namespace Go.Proofs.YtnnfkmjhaljplaaGreatDoor
open Go.RowKit
/-- Only the rows us are turned; there may be more memory. -/
structure Only (us : List Value) (w w' : World) : Prop where
  size : w.heap.size ≤ w'.heap.size
  below : ∀ lo : Nat, lo ≤ w.heap.size → (∀ u ∈ us, ∀ b, u.ownBlock = some b → lo ≤ b) → Below lo w w'
  own : ∀ (base : Nat) (e : TypeId) (size n : Nat) (v : Value) (xs : List Value), w.ownsRow base e size v n xs → (∀ b, v.ownBlock = some b → ∀ u ∈ us, u.ownBlock ≠ some b) → w'.ownsRow base e size v n xs
  bk : ∀ (g : Nat) (cs : Array Value) (t : TypeId), Bk w g cs t → (∀ u ∈ us, u.ownBlock ≠ some g) → Bk w' g cs t
theorem Only.refl (us : List Value) (w : World) : Only us w w := ⟨Nat.le_refl _, fun _ _ _ => Below.refl _ _, fun _ _ _ _ _ _ h _ => h, fun _ _ _ h _ => h⟩
theorem Only.trans {us : List Value} {a b c : World} (h : Only us a b) (k : Only us b c) : Only us a c :=
  ⟨Nat.le_trans h.size k.size, fun lo hl hu => (h.below lo hl hu).trans (k.below lo (by have := h.size; omega) hu), fun _ _ _ _ _ _ x y => k.own _ _ _ _ _ _ (h.own _ _ _ _ _ _ x y) y, fun _ _ _ x y => k.bk _ _ _ (h.bk _ _ _ x y) y⟩
theorem Only.of_grown {us : List Value} {w w' : World} {u : Value} (h : w.grownBy w' u.ownBlock) (hu : u ∈ us) : Only us w w' :=
  ⟨h.size, fun _ hl hlo => (Below.refl _ _).grown h hl (fun k hk => hlo u hu k hk), fun _ _ _ _ _ _ x y => x.kept h (own_sep fun b hb => y b hb u hu), fun _ _ _ x y => x.grown h (fun e => y u hu e.symm)⟩
theorem Only.more {us us' : List Value} {w w' : World} (h : Only us w w') (hs : ∀ u ∈ us, u ∈ us') : Only us' w w' :=
  ⟨h.size, fun lo hl hu => h.below lo hl fun u x => hu u (hs u x), fun _ _ _ _ _ _ x y => h.own _ _ _ _ _ _ x fun b hb u z => y b hb u (hs u z), fun _ _ _ x y => h.bk _ _ _ x fun u z => y u (hs u z)⟩
theorem Only.spared {us : List Value} {w w' : World} (h : Only us w w') {lo hi : Nat} (hl : lo ≤ w.heap.size) (hu : ∀ u ∈ us, ∀ b, u.ownBlock = some b → lo ≤ b ∧ b < hi) : Spared lo hi w w' :=
  ⟨h.below lo hl fun u x b hb => (hu u x b hb).1, h.size, fun _ _ _ _ _ _ x y => h.own _ _ _ _ _ _ x fun b hb u z e => by have := y b hb; have := hu u z b e; omega,
   fun _ _ _ x y => h.bk _ _ _ x fun u z e => by have := hu u z _ e; omega⟩
end Go.Proofs.YtnnfkmjhaljplaaGreatDoor
