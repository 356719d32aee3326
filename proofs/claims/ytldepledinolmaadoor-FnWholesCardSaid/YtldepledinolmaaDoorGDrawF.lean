/- Contracts of the draws of chapter 4: a trace and a block; a file. The contract of the draw of a file to read. -/
import Derived.Test.YtldepledinolmaaDoorGDrT2
import Derived.Test.YtldepledinolmaaDoorFilS
import Derived.Test.YtldepledinolmaaDoorGDrawT
import Derived.Test.YtldepledinolmaaDoorGRf
namespace Go.Proofs.YtldepledinolmaaDoor
open Go.RowKit

/-- A trace to read, and a block. -/
def TrBPost (w : World) (e : Ending) (w' : World) : Prop := ∃ (t : List (List Ev)) (b : Int) (D : Option Addr) (d : Nat), e = .returned (.tuple #[.slice D t.length d, .int .i64 b]) ∧ 0 ≤ b ∧ b ≤ 9 ∧ t.length ≤ 5 ∧ (∀ x ∈ t, x.length ≤ 20) ∧ RdT w' w'.heap.size D t ∧ Below w.heap.size w w'

set_option maxHeartbeats 800000 in
theorem DrawEncodeTrace_any (HB : BentOk) (l : List Int) (A : Option Addr) (c : Nat) (w : World) (hl : l.length ≤ 1048576) (hR : Rd .u8 w w.heap.size A l) (b8 : B8 l) :
    Calls Tryd.prog 23 #[.slice A l.length c] w (TrBPost w) := by
  go_enter Tryd.func23, Tryd.ntmps23
  go_wp2_with fail
  refine (l1Source_any l A c w hR b8 hl).mono ?_
  rintro e w1 ⟨rfl, S1, B1⟩
  go_wp2_with fail
  refine (HB _ _ A c l w1 S1 (by omega)).mono ?_
  rintro e w2 ⟨t, D, d, rfl, ht, hall, hT, k2, hk2, S2, g2⟩
  have B2 := grown_from B1 g2 B1.size (Nat.le_refl _)
  go_wp2_with fail
  refine (l1Pick_any _ _ _ [1, 2, 3, 8, 0, 9] A c l _ _ (S2.alloc _) (by omega) (by simp) (by simp) (Bk.new _ _ _) (by have := S2.lt; omega)).mono ?_
  rintro e w3 ⟨r, rfl, hm, S3, g3⟩
  have G3 := grown_alloc g3
  have B3 := grown_from B2 G3 B2.size (Nat.le_refl _)
  have hr : 0 ≤ r ∧ r ≤ 9 := by simp at hm; omega
  clear hm
  go_wp2
  refine bodyPost_ret (v := .tuple #[.slice D t.length d, .int .i64 r]) (by simp [results, Tryd.results23, go_sem]) rfl ?_
  exact ⟨t, r, D, d, rfl, hr.1, hr.2, ht, hall, hT _ G3, B3⟩

/-- One row of a trace of the call's own: where it stands, as long as only the source goes on. -/
theorem OwnT.item {w : World} {base c : Nat} {A : Option Addr} {t : List (List Ev)} {us : List Value} (h : OwnT w base (.slice A t.length c) t us) {j g : Nat} (hj : j < t.length) (hg : g < base) :
    ∃ b a d, A = some ⟨b, 0, none⟩ ∧ t[j].length ≤ d ∧ d ≤ maxLen ∧ ∀ w2, w.grownBy w2 (some g) → w2.cell? ⟨b, j, none⟩ = some (.slice a t[j].length d) ∧ RdE w2 w2.heap.size a t[j] := by
  rcases h.row.2 with ⟨_, h0⟩ | ⟨b, cap, cur, h', _⟩
  · omega
  · simp only [Value.slice.injEq] at h'
    obtain ⟨rfl, _, rfl⟩ := h'
    obtain ⟨u, h1, h2, h3⟩ := h.rows j hj
    obtain ⟨a, d, rfl⟩ := own_shape h2
    have hcp := own_capE h2
    refine ⟨b, a, d, rfl, hcp.1, hcp.2, fun w2 G => ?_⟩
    have h' := h.kept G (fun k e => by simp at e; omega)
    refine ⟨?_, RdE.of_own (h2.kept G (own_sep fun k hk e => by have := h2.lt k hk; simp at e; omega))⟩
    rw [h'.row.cellAt j (by omega)]
    exact h1
theorem run_headE (A : Option Addr) (n k c : Nat) (l : Int) (w : World) (hl : l = k) (h : k ≤ c) : (Instr.slice 50 (.slice A n c) none (some (.int .i64 l)) none).run Tryd.prog w = .ok (.slice A k c) w := by
  subst hl
  simp [go_sem, h]
theorem run_cutE (A : Option Addr) (n k c : Nat) (l : Int) (w : World) (hl : l = k) (h : k ≤ n) : (Instr.slice 50 (.slice A n c) (some (.int .i64 l)) none none).run Tryd.prog w = .ok (.slice (cutE A k c) (n - k) (c - k)) w := by
  subst hl
  simp [go_sem, h, cutE]
theorem grw {w w' : World} {row : Option Nat} (hb : Below w.heap.size w w') : w.grownBy w' row := ⟨hb.os, hb.tape, hb.output, hb.size, fun k hk _ => hb.block k hk⟩
theorem frL_small {i : Int} {p : List Ev} (h : stF p = 0) : (frL i (packL 0 p)).length ≤ 8 + 18 * p.length := by
  have := pcsB_len i [p] (fun q hq => by simp at hq; rw [hq]; exact h)
  simpa [pcsB] using this

end Go.Proofs.YtldepledinolmaaDoor
namespace Go.Proofs.YtldepledinolmaaDoor
open Go.RowKit

theorem made_u8F (n : Nat) : (madeCells (Value.int .u8 0).cells (n * 1)).toList = List.replicate n (Value.int .u8 0) := by
  apply List.ext_getElem
  · simp [madeCells]
  · intro i h1 h2
    simp [madeCells, Value.cells, Nat.mod_one]

end Go.Proofs.YtldepledinolmaaDoor
