/- What a slice of events reads as in memory; plain lemmas. No program is named here. -/
import Derived.Test.YtmdaianbhpppfaaDoorEvMath
namespace Go.Proofs.YtmdaianbhpppfaaDoor
open Go.RowKit

/-- The slice address A leads to the events es, in a block below B. -/
def RdE (w : World) (B : Nat) (A : Option Addr) (es : List Ev) : Prop := RdV w B A (evs es)
section
variable {w w' : World} {B B' : Nat} {A : Option Addr} {es : List Ev}
theorem RdE.nil_ : RdE w B A [] := RdV.nil_
theorem RdE.keep (h : RdE w B A es) (hk : ∀ p : Addr, p.block < B → w'.cell? p = w.cell? p) : RdE w' B A es := RdV.keep h hk
theorem RdE.more (h : RdE w B A es) (hB : B ≤ B') : RdE w B' A es := RdV.more h hB
theorem RdE.below (h : RdE w B A es) (hb : Below B w w') : RdE w' B A es := RdV.below h hb
theorem RdE.drew (h : RdE w B A es) : RdE w.drew B A es := h
theorem RdE.drewN (h : RdE w B A es) (n : Nat) : RdE (w.drewN n) B A es := h
theorem RdE.alloc (h : RdE w B A es) (hB : B ≤ w.heap.size) (o : Obj) : RdE (w.alloc o) B A es := RdV.alloc h hB o
theorem RdE.lt (h : RdE w B A es) : RdE w w.heap.size A es := RdV.lt h
theorem RdE.of_own {base : Nat} {e : TypeId} {n c : Nat} (h : w.ownsRow base e 3 (.slice A n c) n (evs es)) : RdE w w.heap.size A es := RdV.of_own h
theorem RdE.get (h : RdE w B A es) {i : Nat} (hi : i < es.length) : ∃ b off, A = some ⟨b, off, none⟩ ∧ b < B ∧ w.cell? ⟨b, off + i * 3, none⟩ = some (.int .i64 es[i].k) ∧ w.cell? ⟨b, off + i * 3 + 1, none⟩ = some (.int .i64 es[i].a) ∧ w.cell? ⟨b, off + i * 3 + 2, none⟩ = some (.int .i64 es[i].v) := by
  have hl := evs_length es
  obtain ⟨b, off, e, hb, hc⟩ := h (by omega)
  obtain ⟨g0, g1, g2⟩ := evs_get es i hi
  have k0 := hc (i * 3) (by omega)
  have k1 := hc (i * 3 + 1) (by omega)
  have k2 := hc (i * 3 + 2) (by omega)
  rw [List.getElem?_eq_getElem (by omega)] at g0 g1 g2
  rw [Option.some.inj g0] at k0
  rw [Option.some.inj g1] at k1
  rw [Option.some.inj g2] at k2
  exact ⟨b, off, e, hb, k0, by rw [Nat.add_assoc]; exact k1, by rw [Nat.add_assoc]; exact k2⟩
end
theorem OkE.nil_ : OkE [] := fun e he => by simp at he
end Go.Proofs.YtmdaianbhpppfaaDoor
