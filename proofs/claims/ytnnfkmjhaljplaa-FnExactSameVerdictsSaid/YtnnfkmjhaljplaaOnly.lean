/- What is turned in rows of the call's own alone: a list of rows, and what stays. Plain lemmas. -/
import Derived.Test.YtnnfkmjhaljplaaGTrM
namespace Go.Proofs.Ytnnfkmjhaljplaa
open Go.RowKit

/-- Only the rows us are turned; there may be more memory. -/
structure Only (us : List Value) (w w' : World) : Prop where
  size : w.heap.size ≤ w'.heap.size
  below : ∀ lo : Nat, lo ≤ w.heap.size → (∀ u ∈ us, ∀ b, u.ownBlock = some b → lo ≤ b) → Below lo w w'
  own : ∀ (base : Nat) (e : TypeId) (size n : Nat) (v : Value) (xs : List Value), w.ownsRow base e size v n xs → (∀ b, v.ownBlock = some b → ∀ u ∈ us, u.ownBlock ≠ some b) → w'.ownsRow base e size v n xs
  bk : ∀ (g : Nat) (cs : Array Value) (t : TypeId), Bk w g cs t → (∀ u ∈ us, u.ownBlock ≠ some g) → Bk w' g cs t
theorem Only.refl (us : List Value) (w : World) : Only us w w := ⟨Nat.le_refl _, fun _ _ _ => Below.refl _ _, fun _ _ _ _ _ _ h _ => h, fun _ _ _ h _ => h⟩
theorem Only.trans {us : List Value} {a b c : World} (h : Only us a b) (k : Only us b c) : Only us a c :=
  ⟨Nat.le_trans h.size k.size, fun lo hl hu => (h.below lo hl hu).trans (k.below lo (by have := h.size; omega) hu), fun _ _ _ _ _ _ x y => k.own _ _ _ _ _ _ (h.own _ _ _ _ _ _ x y) y, fun _ _ _ x y => k.bk _ _ _ (h.bk _ _ _ x y) y⟩
theorem Only.of_grown {us : List Value} {w w' : World} {u : Value} (h : w.grownBy w' u.ownBlock) (hu : u ∈ us) : Only us w w' :=
  ⟨h.size, fun _ hl hlo => (Below.refl _ _).grown h hl (fun k hk => hlo u hu k hk), fun _ _ _ _ _ _ x y => x.kept h (own_sep fun b hb => y b hb u hu), fun _ _ _ x y => x.grown h (fun e => y u hu e.symm)⟩
theorem Only.of_none {us : List Value} {w w' : World} (h : w.grownBy w' none) : Only us w w' :=
  ⟨h.size, fun _ hl _ => (Below.refl _ _).grown h hl (fun k hk => by cases hk), fun _ _ _ _ _ _ x _ => x.kept h (own_sep fun b _ => by simp), fun _ _ _ x _ => x.grown h (by simp)⟩
theorem Only.more {us us' : List Value} {w w' : World} (h : Only us w w') (hs : ∀ u ∈ us, u ∈ us') : Only us' w w' :=
  ⟨h.size, fun lo hl hu => h.below lo hl fun u x => hu u (hs u x), fun _ _ _ _ _ _ x y => h.own _ _ _ _ _ _ x fun b hb u z => y b hb u (hs u z), fun _ _ _ x y => h.bk _ _ _ x fun u z => y u (hs u z)⟩
theorem Only.spared {us : List Value} {w w' : World} (h : Only us w w') {lo hi : Nat} (hl : lo ≤ w.heap.size) (hu : ∀ u ∈ us, ∀ b, u.ownBlock = some b → lo ≤ b ∧ b < hi) : Spared lo hi w w' :=
  ⟨h.below lo hl fun u x b hb => (hu u x b hb).1, h.size, fun _ _ _ _ _ _ x y => h.own _ _ _ _ _ _ x fun b hb u z e => by have := y b hb; have := hu u z b e; omega,
   fun _ _ _ x y => h.bk _ _ _ x fun u z e => by have := hu u z _ e; omega⟩
end Go.Proofs.Ytnnfkmjhaljplaa
