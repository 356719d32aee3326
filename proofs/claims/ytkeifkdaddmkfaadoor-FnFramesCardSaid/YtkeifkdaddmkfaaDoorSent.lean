/- The program's three errors of a reading, as they lie in memory; and frameCode by its contracts. -/
import Derived.Test.YtkeifkdaddmkfaaDoorIs
import Derived.Test.YtkeifkdaddmkfaaDoorBase
import Derived.BigQuiet
namespace Go.Proofs.YtkeifkdaddmkfaaDoor
open Go.RowKit

/-- The three errors lie as they were laid, apart. -/
structure Sent (aN aS aE : Addr) (w : World) : Prop where
  vN : w.cell? ⟨2, 0, none⟩ = some (errV aN)
  vS : w.cell? ⟨0, 0, none⟩ = some (errV aS)
  vE : w.cell? ⟨1, 0, none⟩ = some (errV aE)
  bN : ∃ c t, w.heap[aN.block]? = some (.cells c t (0, 0))
  bS : ∃ c t, w.heap[aS.block]? = some (.cells c t (0, 0))
  bE : ∃ c t, w.heap[aE.block]? = some (.cells c t (0, 0))
  nNS : aN ≠ aS
  nNE : aN ≠ aE
  nSE : aS ≠ aE
theorem row_lt {w : World} {k : Nat} (h : ∃ c t, w.heap[k]? = some (.cells c t (0, 0))) : k < w.heap.size := by
  obtain ⟨c, t, h⟩ := h
  rcases Nat.lt_or_ge k w.heap.size with a | a
  · exact a
  · rw [Array.getElem?_eq_none a] at h
    exact absurd h (by simp)
theorem Sent.below {aN aS aE : Addr} {w w' : World} (h : Sent aN aS aE w) (hb : Below w.heap.size w w') : Sent aN aS aE w' := by
  have k : ∀ {b : Nat}, (∃ c t, w.heap[b]? = some (.cells c t (0, 0))) → ∃ c t, w'.heap[b]? = some (.cells c t (0, 0)) := fun {b} hx => by
    obtain ⟨c, t, e⟩ := hx
    exact ⟨c, t, (hb.block b (row_lt ⟨c, t, e⟩)).trans e⟩
  exact ⟨cell_kept hb h.vN, cell_kept hb h.vS, cell_kept hb h.vE, k h.bN, k h.bS, k h.bE, h.nNS, h.nNE, h.nSE⟩
theorem Sent.lts {aN aS aE : Addr} {w : World} (h : Sent aN aS aE w) : 2 < w.heap.size ∧ 0 < w.heap.size ∧ 1 < w.heap.size :=
  ⟨block_lt_of_cell h.vN, block_lt_of_cell h.vS, block_lt_of_cell h.vE⟩

/-- Which error a code is told by. -/
def errOf (aN aS aE : Addr) (c : Int) : Addr := if c = 5 then aN else if c = 6 then aS else aE
theorem frameCode_any (aN aS aE : Addr) (c : Int) (w : World) (h : Sent aN aS aE w) (hc : c = 5 ∨ c = 6 ∨ c = 1) :
    Calls Tryd.prog 45 #[errV (errOf aN aS aE c)] w fun e w' => e = .returned (.int .i64 c) ∧ w' = w := by
  have vN := h.vN
  have vS := h.vS
  obtain ⟨cN, tN, bN⟩ := h.bN
  obtain ⟨cS, tS, bS⟩ := h.bS
  obtain ⟨cE, tE, bE⟩ := h.bE
  rcases hc with rfl | rfl | rfl
  · have IS := hide (is_same aN w)
    rw [show errOf aN aS aE 5 = aN from if_pos rfl]
    clear h bN bS bE vS
    go_enter Tryd.func45, Tryd.ntmps45
    go_wp2_with fail
    refine IS.out.mono ?_
    rintro e w' ⟨rfl, rfl⟩
    go_wp2
    go_ret
    exact ⟨rfl, rfl⟩
  · have IS := hide (is_other aS aN cS cN tS tN w (Ne.symm h.nNS) bS bN)
    have IT := hide (is_same aS w)
    rw [show errOf aN aS aE 6 = aS from rfl]
    clear h bN bS bE
    go_enter Tryd.func45, Tryd.ntmps45
    go_wp2_with fail
    refine IS.out.mono ?_
    rintro e w' ⟨rfl, rfl⟩
    go_wp2_with fail
    refine IT.out.mono ?_
    rintro e w' ⟨rfl, rfl⟩
    go_wp2
    go_ret
    exact ⟨rfl, rfl⟩
  · have IS := hide (is_other aE aN cE cN tE tN w (Ne.symm h.nNE) bE bN)
    have IT := hide (is_other aE aS cE cS tE tS w (Ne.symm h.nSE) bE bS)
    rw [show errOf aN aS aE 1 = aE from rfl]
    clear h bN bS bE
    go_enter Tryd.func45, Tryd.ntmps45
    go_wp2_with fail
    refine IS.out.mono ?_
    rintro e w' ⟨rfl, rfl⟩
    go_wp2_with fail
    refine IT.out.mono ?_
    rintro e w' ⟨rfl, rfl⟩
    go_wp2
    go_ret
    exact ⟨rfl, rfl⟩
end Go.Proofs.YtkeifkdaddmkfaaDoor
