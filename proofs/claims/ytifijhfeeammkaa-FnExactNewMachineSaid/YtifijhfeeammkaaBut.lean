/- What turns given blocks alone. Plain lemmas. -/
import Derived.Test.YtifijhfeeammkaaCelS
namespace Go.Proofs.Ytifijhfeeammkaa
open Go.RowKit

/-- Only the blocks S are turned; there may be more memory. -/
structure But (S : Nat → Prop) (w w' : World) : Prop where
  os : w'.os = w.os
  tape : w'.tape = w.tape
  output : w'.output = w.output
  size : w.heap.size ≤ w'.heap.size
  block : ∀ k, k < w.heap.size → ¬ S k → w'.heap[k]? = w.heap[k]?
section
variable {S S' : Nat → Prop} {a b c w w' : World}
theorem But.refl (S : Nat → Prop) (w : World) : But S w w := ⟨rfl, rfl, rfl, Nat.le_refl _, fun _ _ _ => rfl⟩
theorem But.trans (h : But S a b) (k : But S' b c) (hs : ∀ x, S' x → S x ∨ a.heap.size ≤ x) : But S a c :=
  ⟨k.os.trans h.os, k.tape.trans h.tape, k.output.trans h.output, Nat.le_trans h.size k.size, fun x hx hn => (k.block x (Nat.lt_of_lt_of_le hx h.size) (fun e => by rcases hs x e with e | e; exact hn e; omega)).trans (h.block x hx hn)⟩
theorem But.of_below (h : Below w.heap.size w w') : But S w w' := ⟨h.os, h.tape, h.output, h.size, fun k hk _ => h.block k hk⟩
theorem But.of_grown {row : Option Nat} (h : w.grownBy w' row) (hs : ∀ b, row = some b → S b) : But S w w' := ⟨h.os, h.tape, h.output, h.size, fun k hk hn => h.block k hk (fun e => hn (hs k e.symm))⟩
theorem But.mono (h : But S w w') (hs : ∀ x, x < w.heap.size → S x → S' x) : But S' w w' := ⟨h.os, h.tape, h.output, h.size, fun k hk hn => h.block k hk (fun e => hn (hs k hk e))⟩
theorem But.below (h : But S w w') {B : Nat} (hB : B ≤ w.heap.size) (hs : ∀ x, S x → B ≤ x) : Below B w w' := ⟨h.os, h.tape, h.output, h.size, fun k hk => h.block k (by omega) (fun e => by have := hs k e; omega)⟩
theorem But.bk (h : But S w w') {g : Nat} {cs : Array Value} {t : TypeId} (hk : Bk w g cs t) (hg : ¬ S g) : Bk w' g cs t := (h.block g hk.lt hg).trans hk
theorem But.own (h : But S w w') {base n size : Nat} {e : TypeId} {v : Value} {xs : List Value} (ho : w.ownsRow base e size v n xs) (hv : ∀ b, v.ownBlock = some b → ¬ S b) : w'.ownsRow base e size v n xs := by
  refine ⟨ho.1, ?_⟩
  rcases ho.2 with h1 | ⟨g, cap, cur, rfl, h2, h3, h4⟩
  · exact .inl h1
  · refine .inr ⟨g, cap, cur, rfl, h2, ?_, h4⟩
    rw [h.block g (by have : Bk w g cur e := h3; exact this.lt) (hv g rfl)]
    exact h3
theorem But.cell (h : But S w w') {p : Addr} (hp : p.block < w.heap.size) (hs : ¬ S p.block) : w'.cell? p = w.cell? p := World.cell?_of_block (h.block p.block hp hs)
theorem But.frozen (h : But S w w') {p : Addr} (hp : p.block < w.heap.size) (hs : ¬ S p.block) : w'.frozen? p = w.frozen? p := World.frozen?_of_block (h.block p.block hp hs)
theorem But.set_ (h : But S a b) {g : Nat} (hg : S g) (i : Nat) (u : Value) : But S a (b.setCell ⟨g, i, none⟩ u) := h.trans (S' := S) (But.of_grown (grown_set b g i u) fun x e => by cases e; exact hg) fun _ e => .inl e
end
end Go.Proofs.Ytifijhfeeammkaa
