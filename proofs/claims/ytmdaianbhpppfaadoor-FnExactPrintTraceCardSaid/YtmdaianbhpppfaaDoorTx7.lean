/- EventText of the document. -/
import Derived.Test.YtmdaianbhpppfaaDoorTx6
namespace Go.Proofs.YtmdaianbhpppfaaDoor
open Go.RowKit

/-- An event's text, as an answer. -/
def etL (e : Ev) : List Int := if evF e = 0 then txE e else []
set_option maxRecDepth 100000 in
set_option maxHeartbeats 800000 in
theorem EventText_spec (e : Ev) (w : World) :
    Calls Tryd.prog 10 #[evV e.k e.a e.v] w fun r w' => r = .returned (txtV (evF e) (etL e)) ∧ Below w.heap.size w w' := by
  obtain ⟨k, a, v⟩ := e
  simp only
  have hC := fun w => specEvF_any k a v w
  unfold etL
  obtain ⟨o, ho⟩ : ∃ o, o = Obj.cells #[.int .i64 k, .int .i64 a, .int .i64 v] 30 := ⟨_, rfl⟩
  obtain ⟨o2, ho2⟩ : ∃ o, o = Obj.cells #[.int .i64 0, .string { data := #[] }] 23 := ⟨_, rfl⟩
  -- the answer's cells and the boxed event, behind whatever makes new memory alone
  have HM : ∀ w2 : World, Below ((w.alloc o).alloc o2).heap.size ((w.alloc o).alloc o2) w2 →
      w2.cell? ⟨w.heap.size + 1, 0, none⟩ = some (.int .i64 0) ∧ w2.cell? ⟨w.heap.size + 1, 1, none⟩ = some (.string { data := #[] }) ∧ w2.frozen? ⟨w.heap.size + 1, 0, none⟩ = false ∧ w2.frozen? ⟨w.heap.size + 1, 1, none⟩ = false ∧
      w2.cell? ⟨w.heap.size, 0, none⟩ = some (.int .i64 k) ∧ w2.cell? ⟨w.heap.size, 0 + 1, none⟩ = some (.int .i64 a) ∧ w2.cell? ⟨w.heap.size, 0 + 2, none⟩ = some (.int .i64 v) ∧ w.heap.size < w2.heap.size ∧ Below w.heap.size w w2 ∧ w.heap.size + 1 < w2.heap.size := by
    intro w2 hb
    have z : (w.alloc o).heap.size = w.heap.size + 1 := by simp
    have zz : ((w.alloc o).alloc o2).heap.size = w.heap.size + 2 := by simp
    have hs := hb.size
    have B1 : Below (w.alloc o).heap.size (w.alloc o) w2 := below_alloc hb
    have r0 := res_cell (w := w.alloc o) (ho2 ▸ hb) 0
    have r1 := res_cell (w := w.alloc o) (ho2 ▸ hb) 1
    have r2 := res_frozen (w := w.alloc o) (ho2 ▸ hb) 0
    have r3 := res_frozen (w := w.alloc o) (ho2 ▸ hb) 1
    rw [z] at r0 r1 r2 r3
    have s0 := res_cell (w := w) (ho ▸ B1) 0
    have s1 := res_cell (w := w) (ho ▸ B1) 1
    have s2 := res_cell (w := w) (ho ▸ B1) 2
    exact ⟨r0, r1, r2, r3, s0, s1, s2, by omega, below_alloc B1, by omega⟩
  rw [ho, ho2] at HM
  have HM := hide HM
  clear ho ho2
  by_cases h : evF ⟨k, a, v⟩ = 0
  · rw [if_pos h]
    have hE := fun b off w => l5Event_any ⟨k, a, v⟩ b off w h
    rw [h] at hC ⊢
    generalize txE ⟨k, a, v⟩ = E at hE ⊢
    clear h
    go_enter Tryd.func10, Tryd.ntmps10
    go_wp2_with fail
    refine (hC _).mono ?_
    rintro r w2 ⟨rfl, hb2⟩
    obtain ⟨r0, r1, r2, r3, s0, s1, s2, s3, s4, s5⟩ := HM.out w2 hb2
    go_wp2_with fail
    refine (hE w.heap.size 0 w2 s3 s0 s1 s2).mono ?_
    rintro r w3 ⟨rfl, hb3⟩
    have t0 := (hb3.cell (p := ⟨w.heap.size + 1, 0, none⟩) s5).trans r0
    have t1 := (hb3.cell (p := ⟨w.heap.size + 1, 1, none⟩) s5).trans r1
    have t2 := (hb3.frozen (p := ⟨w.heap.size + 1, 0, none⟩) s5).trans r2
    have t3 := (hb3.frozen (p := ⟨w.heap.size + 1, 1, none⟩) s5).trans r3
    go_wp2
    refine bodyPost_ret (v := txtV 0 E) (by simp [results, Tryd.results10, go_sem, t0, t1]) rfl ?_
    exact ⟨rfl, ((s4.trans (hb3.mono s4.size)).setCell (Nat.le_succ _) _).setCell (Nat.le_succ _) _⟩
  · rw [if_neg h]
    obtain ⟨F, hF⟩ : ∃ F, F = evF ⟨k, a, v⟩ := ⟨_, rfl⟩
    rw [← hF] at h hC ⊢
    have f0 : (F != 0) = true := bne_iff_ne.2 h
    clear h hF
    go_enter Tryd.func10, Tryd.ntmps10
    go_wp2_with fail
    refine (hC _).mono ?_
    rintro r w2 ⟨rfl, hb2⟩
    obtain ⟨r0, r1, r2, r3, s0, s1, s2, s3, s4, s5⟩ := HM.out w2 hb2
    go_wp2
    refine bodyPost_ret (v := txtV F []) (by simp [results, Tryd.results10, go_sem, r0, r1]; rfl) rfl ?_
    exact ⟨rfl, (s4.setCell (Nat.le_succ _) _).setCell (Nat.le_succ _) _⟩
end Go.Proofs.YtmdaianbhpppfaaDoor
