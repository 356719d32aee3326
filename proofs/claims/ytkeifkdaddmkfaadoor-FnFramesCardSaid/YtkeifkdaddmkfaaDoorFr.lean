/- Contracts of the exact laws' own helpers on frames: measured, copied, compared. -/
import Derived.Test.YtkeifkdaddmkfaaDoorEvS
namespace Go.Proofs.YtkeifkdaddmkfaaDoor
open Go.RowKit

/-- A frame as a value. -/
abbrev frV (k : Int) (A : Option Addr) (n c : Nat) : Value := .agg #[.int .i64 k, .slice A n c]

theorem szFrame_fit (k : Int) (A : Option Addr) (n c m : Nat) (w : World) (hm : n ≤ m) (h : m ≤ 1048576) :
    Calls Tryd.prog 19 #[frV k A n c, .int .i64 m] w fun e w' => e = .returned (.int .i64 ((m - n : Nat) : Int)) ∧ Below w.heap.size w w' := by
  go_enter Tryd.func19, Tryd.ntmps19
  go_wp2_with fail
  refine (szEventS_fit A n c m _ hm h).mono ?_
  rintro e w' ⟨rfl, rfl⟩
  go_wp2
  go_ret
  exact ⟨rfl, by go_grown⟩
theorem szFrame_not (k : Int) (A : Option Addr) (n c m : Nat) (w : World) (hm : m < n) (h : m ≤ 1048576) (hn : n ≤ maxLen) :
    Calls Tryd.prog 19 #[frV k A n c, .int .i64 m] w fun e w' => e = .returned (.int .i64 (-1)) ∧ Below w.heap.size w w' := by
  go_enter Tryd.func19, Tryd.ntmps19
  go_wp2_with fail
  refine (szEventS_not A n c m _ hm h hn).mono ?_
  rintro e w' ⟨rfl, rfl⟩
  go_wp2
  go_ret
  exact ⟨rfl, by go_grown⟩

/-- Three cells' blocks, laid one behind the other: what of them is known. -/
theorem three_new (w : World) (c0 c1 c2 : Array Value) (t0 t1 t2 : TypeId) (W : World) (hW : W = ((w.alloc (Obj.cells c0 t0)).alloc (Obj.cells c1 t1)).alloc (Obj.cells c2 t2)) :
    Bk W w.heap.size c0 t0 ∧ Bk W (w.heap.size + 1) c1 t1 ∧ Bk W (w.heap.size + 1 + 1) c2 t2 ∧ W.heap.size = w.heap.size + 1 + 1 + 1 ∧ Below w.heap.size w W := by
  have e1 : (w.alloc (Obj.cells c0 t0)).heap.size = w.heap.size + 1 := by simp
  have e2 : ((w.alloc (Obj.cells c0 t0)).alloc (Obj.cells c1 t1)).heap.size = w.heap.size + 1 + 1 := by simp
  have k0 := ((Bk.new w c0 t0).alloc (Obj.cells c1 t1)).alloc (Obj.cells c2 t2)
  have k1 := (Bk.new (w.alloc (Obj.cells c0 t0)) c1 t1).alloc (Obj.cells c2 t2)
  have k2 := Bk.new ((w.alloc (Obj.cells c0 t0)).alloc (Obj.cells c1 t1)) c2 t2
  rw [e1] at k1
  rw [e2] at k2
  subst hW
  exact ⟨k0, k1, k2, by simp, (((Below.refl w.heap.size w).alloc (Nat.le_refl _) _).alloc (by omega) _).alloc (by omega) _⟩
theorem two_new (w : World) (c0 c1 : Array Value) (t0 t1 : TypeId) (W : World) (hW : W = (w.alloc (Obj.cells c0 t0)).alloc (Obj.cells c1 t1)) :
    Bk W w.heap.size c0 t0 ∧ Bk W (w.heap.size + 1) c1 t1 ∧ W.heap.size = w.heap.size + 1 + 1 ∧ Below w.heap.size w W := by
  have e1 : (w.alloc (Obj.cells c0 t0)).heap.size = w.heap.size + 1 := by simp
  have k0 := (Bk.new w c0 t0).alloc (Obj.cells c1 t1)
  have k1 := Bk.new (w.alloc (Obj.cells c0 t0)) c1 t1
  rw [e1] at k1
  subst hW
  exact ⟨k0, k1, by simp, ((Below.refl w.heap.size w).alloc (Nat.le_refl _) _).alloc (by omega) _⟩

set_option maxRecDepth 100000 in
theorem toFrame_any (k : Int) (es : List Ev) (A : Option Addr) (c : Nat) (w : World) (hm : es.length ≤ 1048576) (h : RdE w w.heap.size A es) :
    Calls Tryd.prog 20 #[frV k A es.length c] w fun e w' => ∃ g, e = .returned (frV k (some ⟨g, 0, none⟩) es.length es.length) ∧ w'.ownsRow w.heap.size 81 3 (.slice (some ⟨g, 0, none⟩) es.length es.length) es.length (evs es) ∧ Below w.heap.size w w' := by
  obtain ⟨W, hW⟩ : ∃ W, W = ((w.alloc (Obj.cells #[Value.int .i64 k, .slice A es.length c] 43)).alloc (Obj.cells #[Value.int .i64 0, .slice none 0 0] 26)).alloc (Obj.cells #[Value.int .i64 k, .slice none 0 0] 26) := ⟨_, rfl⟩
  obtain ⟨_, k1, k2, hz, B0⟩ := three_new _ _ _ _ _ _ _ W hW
  have HW := hide hW
  have hR := (h.below B0).lt
  clear hW
  go_enter Tryd.func20, Tryd.ntmps20
  go_wp2_with fail
  rw [← HW.out]
  refine (toEventS_any es A c W hm hR).mono ?_
  rintro e w1 ⟨g, rfl, o1, b1⟩
  have B1 := B0.trans (b1.mono B0.size)
  have j1 := k1.kept b1
  have j2 := k2.kept b1
  have q0 := j1.cell 0
  have q1 := j1.cell 1
  have q2 := j2.cell 0
  have q3 := j2.cell 1
  have f0 := j1.frozen 0
  have f1 := j1.frozen 1
  have f3 := j2.frozen 1
  simp at q0 q1 q2 q3
  have HO := hide o1
  clear o1 b1 k1 k2 j1 j2 hR B0
  go_wp2
  have o2 := ownsRow_setCell_below HO.out (a := ⟨w.heap.size + 1 + 1, 1, none⟩) (by rw [hz]; simp) (.slice (some ⟨g, 0, none⟩) es.length es.length)
  have o3 := ownsRow_setCell_below o2 (a := ⟨w.heap.size + 1, 0, none⟩) (by rw [hz]; simp) (.int .i64 k)
  have o4 := ownsRow_setCell_below o3 (a := ⟨w.heap.size + 1, 1, none⟩) (by rw [hz]; simp) (.slice (some ⟨g, 0, none⟩) es.length es.length)
  refine bodyPost_ret (v := frV k (some ⟨g, 0, none⟩) es.length es.length) (by simp [results, Tryd.results20, go_sem, q0, q1]) rfl ?_
  exact ⟨g, rfl, own_mono o4 (by omega), ((B1.setCell (by simp <;> omega) _).setCell (by simp) _).setCell (by simp) _⟩

theorem eqFrame_same (k : Int) (es : List Ev) (A A' : Option Addr) (c c' : Nat) (w : World) (hm : es.length ≤ maxLen) (h : RdE w w.heap.size A es) (h' : RdE w w.heap.size A' es) :
    Calls Tryd.prog 22 #[frV k A es.length c, frV k A' es.length c'] w fun e w' => e = .returned (.bool true) ∧ Below w.heap.size w w' := by
  go_enter Tryd.func22, Tryd.ntmps22
  go_wp2_with fail
  refine (eqEventS_same es A A' c c' _ hm ((h.alloc (Nat.le_refl _) _).alloc (by simp) _).lt ((h'.alloc (Nat.le_refl _) _).alloc (by simp) _).lt).mono ?_
  rintro e w1 ⟨rfl, hb⟩
  go_wp2
  go_ret
  exact ⟨rfl, below_alloc (below_alloc hb)⟩
end Go.Proofs.YtkeifkdaddmkfaaDoor
