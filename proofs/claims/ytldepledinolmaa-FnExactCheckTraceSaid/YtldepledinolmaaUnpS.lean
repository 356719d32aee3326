/- Contracts of the model's reading of steps. -/
import Derived.Test.YtldepledinolmaaGEv
import Derived.Test.YtldepledinolmaaGRead
import Derived.Test.YtldepledinolmaaGApp
import Derived.IntWalk
namespace Go.Proofs.Ytldepledinolmaa
open Go.RowKit

/-- The address of what is left behind a cut. -/
def cutA (A : Option Addr) (k c : Nat) : Option Addr := if c = k then A else A.map (·.add k)
theorem Rd.cut {k : IntKind} {w : World} {B : Nat} {A : Option Addr} {l : List Int} (h : Rd k w B A l) {n c : Nat} (hn : n ≤ l.length) (hc : l.length ≤ c) : Rd k w B (cutA A n c) (l.drop n) := by
  intro h0
  have h1 : n < l.length := by simp at h0; omega
  obtain ⟨b, off, rfl, hb, hx⟩ := h.all (by omega)
  unfold cutA
  rw [if_neg (by omega)]
  refine ⟨b, off + n, by simp [Go.WideShapes.add_plain], hb, fun i hi => ?_⟩
  have hi' : n + i < l.length := by simp at hi; omega
  have := hx (n + i) hi'
  rw [Nat.add_assoc, this]
  simp
theorem run_cut (A : Option Addr) (n k c : Nat) (l : Int) (w : World) (hl : l = k) (h : k ≤ n) : (Instr.slice 22 (.slice A n c) (some (.int .i64 l)) none none).run Try.prog w = .ok (.slice (cutA A k c) (n - k) (c - k)) w := by
  subst hl
  simp [go_sem, h, cutA]

theorem cell_three_new (w : World) (x y z : Value) (T : TypeId) : ∀ j u, [x, y, z][j]? = some u → (w.alloc (.cells #[x, y, z] T)).cell? ((⟨w.heap.size, 0, none⟩ : Addr).add j) = some u := by
  intro j u hj
  rw [Go.WideShapes.add_plain, Nat.zero_add, (Bk.new w #[x, y, z] T).cell j]
  simpa using hj
theorem one_cells3 (k : IntKind) (x y z : Int) : ∀ u ∈ [Value.int k x, .int k y, .int k z], u.oneCell' = true := by
  intro u hu
  simp at hu
  rcases hu with rfl | rfl | rfl <;> rfl

def sliceLen : Value → Nat
  | .slice _ n _ => n
  | _ => 0
/-- At the head of the loop's rounds. -/
def UnRel (d0 : List Int) (w : World) (v0 v4 v5 : Value) (wr : World) : Prop :=
  ∃ (d : List Int) (A : Option Addr) (c : Nat) (acc : List Ev) (p : Int), v0 = .slice A d.length c ∧ d.length ≤ c ∧ Rd .u8 w w.heap.size A d ∧ B8 d ∧ d.length ≤ 1048576 ∧ v5 = .int .i64 p ∧ (0 ≤ p ∧ p ≤ 999999) ∧ acc.length ≤ 8 ∧ UnAt d0 acc d p ∧
    wr.ownsRow w.heap.size 98 3 v4 acc.length (evs acc) ∧ Below w.heap.size w wr
/-- What a reading tells. -/
def UnPost (d : List Int) (w : World) (e : Ending) (w' : World) : Prop :=
  (unpN 8 d 0 = none ∧ e = .returned (.tuple #[.slice none 0 0, .bool false]) ∧ Below w.heap.size w w') ∨
  ∃ es A c, unpN 8 d 0 = some es ∧ e = .returned (.tuple #[.slice A es.length c, .bool true]) ∧ w'.ownsRow w.heap.size 98 3 (.slice A es.length c) es.length (evs es) ∧ Below w.heap.size w w'

end Go.Proofs.Ytldepledinolmaa
