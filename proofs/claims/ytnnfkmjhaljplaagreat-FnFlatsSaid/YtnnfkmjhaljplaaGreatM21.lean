/- What the laws' walks rest upon, part 21. -/
import Derived.Test.YtnnfkmjhaljplaaGreatM01
namespace Go.Proofs.YtnnfkmjhaljplaaGreat
open Go.RowKit
theorem own_types {w : World} {b1 b2 s1 s2 n1 n2 : Nat} {e1 e2 : TypeId} {v1 v2 : Value} {xs1 xs2 : List Value} (h1 : w.ownsRow b1 e1 s1 v1 n1 xs1) (h2 : w.ownsRow b2 e2 s2 v2 n2 xs2) (he : e1 ≠ e2) : ∀ b, v1.ownBlock = some b → v2.ownBlock ≠ some b := fun b hb1 hb2 => by
  rcases h1.2 with ⟨rfl, _⟩ | ⟨g1, c1, cur1, rfl, _, k1, _⟩
  · cases hb1
  · rcases h2.2 with ⟨rfl, _⟩ | ⟨g2, c2, cur2, rfl, _, k2, _⟩
    · cases hb2
    · simp only [Value.ownBlock, Option.some.injEq] at hb1 hb2
      subst hb1
      subst hb2
      rw [k1] at k2
      simp only [Option.some.injEq, Obj.cells.injEq] at k2
      exact he k2.2.1
theorem own_box {w : World} {b1 s1 n1 g : Nat} {e1 e2 : TypeId} {v1 : Value} {xs1 : List Value} {cs : Array Value} (h1 : w.ownsRow b1 e1 s1 v1 n1 xs1) (h2 : Bk w g cs e2) (he : e1 ≠ e2) : v1.ownBlock ≠ some g := fun hb => by
  rcases h1.2 with ⟨rfl, _⟩ | ⟨g1, c1, cur1, rfl, _, k1, _⟩
  · cases hb
  · simp only [Value.ownBlock, Option.some.injEq] at hb
    subst hb
    rw [show w.heap[g1]? = some (.cells cs e2 (0, 0)) from h2] at k1
    simp only [Option.some.injEq, Obj.cells.injEq] at k1
    exact he k1.2.1.symm
end Go.Proofs.YtnnfkmjhaljplaaGreat
