/- Contracts of the exact laws' own helpers on slices of write lists: copied into memory of the call's own. -/
import Derived.Test.YtdmdljimbmhecaaWlsS
import Derived.Deep.DeepCutAuto
namespace Go.Proofs.Ytdmdljimbmhecaa
open Go.RowKit

set_option maxHeartbeats 800000 in
theorem toWriteList_any (x : Wls) (A : Option Addr) (c : Nat) (w : World) (hm : x.ids.length ≤ 1048576) (h : RdC w w.heap.size A (wids x.ids)) :
    Calls Try.prog 80 #[.agg #[.int .i64 x.a, .slice A x.ids.length c]] w fun e w' => ∃ g, e = .returned (.agg #[.int .i64 x.a, .slice (some ⟨g, 0, none⟩) x.ids.length x.ids.length]) ∧ w'.ownsRow w.heap.size 96 2 (.slice (some ⟨g, 0, none⟩) x.ids.length x.ids.length) x.ids.length (cels (wids x.ids)) ∧ Below w.heap.size w w' := by
  obtain ⟨W, hW⟩ : ∃ W, W = ((w.alloc (Obj.cells #[.int .i64 x.a, .slice A x.ids.length c] 119)).alloc (Obj.cells #[.int .i64 0, .slice none 0 0] 82)).alloc (Obj.cells #[.int .i64 0, .slice none 0 0] 82) := ⟨_, rfl⟩
  obtain ⟨k0, k1, k2, hz, B0⟩ := three_new _ _ _ _ _ _ _ W hW
  have HW := hide hW
  have TO := fun (X : World) (hX : RdC X X.heap.size A (wids x.ids)) => toWriteIdS_any (wids x.ids) A c X (by rw [wids_length]; exact hm) hX
  rw [wids_length] at TO
  have HTO := hide TO
  clear hW TO
  go_enter Try.func80, Try.ntmps80
  go_upto_region 2 with fail
  rw [← HW.out]
  have a0 := (k0.cell 0).trans (rfl : _ = some (Value.int .i64 x.a))
  have d0 := (k2.cell 0).trans (rfl : _ = some (Value.int .i64 0))
  have f0 := k2.frozen 0
  go_upto_region 3 with fail
  have j0 := k0.far (p := ⟨w.heap.size + 1 + 1, 0, none⟩) (by simp only; omega) (.int .i64 x.a)
  have j1 := k1.far (p := ⟨w.heap.size + 1 + 1, 0, none⟩) (by simp only; omega) (.int .i64 x.a)
  have j2 := k2.set_ 0 (.int .i64 x.a)
  have BX := B0.setCell (p := ⟨w.heap.size + 1 + 1, 0, none⟩) (by simp only; omega) (.int .i64 x.a)
  simp only [List.setIfInBounds_toArray, List.set_cons_zero] at j2
  clear a0 d0 f0 k0 k1 k2 B0
  generalize W.setCell ⟨w.heap.size + 1 + 1, 0, none⟩ (.int .i64 x.a) = X at *
  have a1 := (j0.cell 1).trans (rfl : _ = some (Value.slice A x.ids.length c))
  go_wp2_with fail
  refine (HTO.out X (h.below BX).lt).mono ?_
  rintro e w2 ⟨g, rfl, o2, b2⟩
  have i1 := j1.kept b2
  have i2 := j2.kept b2
  have hzX := BX.size
  have B2 := BX.trans (b2.mono hzX)
  have e1 := (i2.cell 1).trans (rfl : _ = some (Value.slice none 0 0))
  have e2 := i2.frozen 1
  have hzj := j2.lt
  clear a1 j0 j1 j2 b2
  go_upto_region 4 with fail
  have m1 := i1.far (p := ⟨w.heap.size + 1 + 1, 1, none⟩) (by simp only; omega) (.slice (some ⟨g, 0, none⟩) x.ids.length x.ids.length)
  have m2 := i2.set_ 1 (.slice (some ⟨g, 0, none⟩) x.ids.length x.ids.length)
  have o3 := ownsRow_setCell_below o2 (a := ⟨w.heap.size + 1 + 1, 1, none⟩) hzj (.slice (some ⟨g, 0, none⟩) x.ids.length x.ids.length)
  have B3 := B2.setCell (p := ⟨w.heap.size + 1 + 1, 1, none⟩) (by simp only; omega) (.slice (some ⟨g, 0, none⟩) x.ids.length x.ids.length)
  simp only [List.setIfInBounds_toArray, List.set_cons_zero, List.set_cons_succ] at m2
  clear e1 e2 i1 i2 o2 B2
  generalize w2.setCell ⟨w.heap.size + 1 + 1, 1, none⟩ (.slice (some ⟨g, 0, none⟩) x.ids.length x.ids.length) = Y at *
  have y0 := (m2.cell 0).trans (rfl : _ = some (Value.int .i64 x.a))
  have y1 := (m2.cell 1).trans (rfl : _ = some (Value.slice (some ⟨g, 0, none⟩) x.ids.length x.ids.length))
  have z0 := (m1.cell 0).trans (rfl : _ = some (Value.int .i64 0))
  have z1 := (m1.cell 1).trans (rfl : _ = some (Value.slice none 0 0))
  have f0 := m1.frozen 0
  have f1 := m1.frozen 1
  have HO := hide o3
  have HB := hide B3
  clear m1 m2 o3 B3
  go_wp2
  refine bodyPost_ret (v := .agg #[.int .i64 x.a, .slice (some ⟨g, 0, none⟩) x.ids.length x.ids.length]) (by simp [results, Try.results80, go_sem, z0, z1]) rfl ?_
  exact ⟨g, rfl, own_mono (ownsRow_setCell_below (ownsRow_setCell_below HO.out (a := ⟨w.heap.size + 1, 0, none⟩) (by simp only; omega) _) (a := ⟨w.heap.size + 1, 1, none⟩) (by simp only; omega) _) hzX, (HB.out.setCell (by simp only; omega) _).setCell (by simp only; omega) _⟩
end Go.Proofs.Ytdmdljimbmhecaa
