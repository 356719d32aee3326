/- A machine that fits: its rows are short. -/
import Derived.Test.YtifijhfeeammkaaMacS
namespace Go.Proofs.Ytifijhfeeammkaa
open Go.RowKit

theorem mac_fit {m : Mac} {k : Nat} (h : sizM m ≤ k) (hk : k ≤ 1048576) : LenT 1048576 m.cs ∧ m.mem.length ≤ 1048576 := by
  unfold sizM at h
  exact ⟨(LenT.of_sum (m := m.cs.length + sumT m.cs) (Nat.le_refl _)).mono (by omega), by omega⟩
end Go.Proofs.Ytifijhfeeammkaa
