/- The walk of the exact law of CrcOf. -/
import Derived.Test.YtechfdnfmapafaaDoorCrc
import Derived.Test.YtechfdnfmapafaaDoorZig
namespace Go.Proofs.YtechfdnfmapafaaDoor
open Go.RowKit

set_option maxHeartbeats 400000 in
theorem FnExactCrcOf_walk (l : List Int) (A : Option Addr) (c : Nat) (w : World) (hl : l.length ≤ maxLen) (h : Rd .u8 w w.heap.size A l) (b : B8 l) (hT : Tab w) :
    Calls Tryd.prog 4 #[.slice A l.length c] w fun e w' => e = .returned (.bool true) ∧ Below w.heap.size w w' := by
  unfold maxLen at hl
  by_cases hL : l.length ≤ 1048576
  · obtain ⟨C, hC⟩ : ∃ C, C = crcC l := ⟨_, rfl⟩
    obtain ⟨V, hV⟩ : ∃ V, V = crcV l := ⟨_, rfl⟩
    have SP := hide (fun A c w => specCrc_any l A c w hL)
    have IM := hide (fun A c w => implCrc_any l A c w hL)
    rw [← hC, ← hV] at SP IM
    clear hC hV
    have HT := hide hT
    clear hT
    go_enter Tryd.func4, Tryd.ntmps4
    go_wp2_with fail
    refine (toByteS_any l A c _ hL h).mono ?_
    rintro e w1 ⟨g1, rfl, o1, B1⟩
    go_wp2_with fail
    refine (SP.out _ _ _ (Rd.of_own o1) b).mono ?_
    rintro e w2 ⟨rfl, b2⟩
    have B2 := B1.trans (b2.mono B1.size)
    clear b2 o1 B1
    go_wp2_with fail
    have B2' := B2.alloc B2.size (.cells #[.int .i64 C, .int .i64 V] 33)
    have k2 := Bk.new w2 #[.int .i64 C, .int .i64 V] 33
    refine (toByteS_any l A c _ hL (h.below B2').lt).mono ?_
    rintro e w3 ⟨g3, rfl, o3, b3⟩
    have k3 := k2.kept b3
    have B3 := B2'.trans (b3.mono B2'.size)
    have r3 := Rd.of_own (k := .u8) o3
    clear b3 o3 k2 B2' B2
    go_wp2_with fail
    refine (IM.out _ _ _ r3 b (HT.out.below B3)).mono ?_
    rintro e w4 ⟨rfl, b4⟩
    have k4 := k3.kept b4
    have B4 := B3.trans (b4.mono B3.size)
    have r4 := (r3.below b4).lt
    have z4 : w2.heap.size < w4.heap.size := k4.lt
    clear b4 k3 r3 B3
    have q4 := k4.cell
    go_wp2_with fail
    refine (eqIntResult_same _ _ _).mono ?_
    rintro e w5 ⟨rfl, b5⟩
    have B5 := B4.trans ((below_alloc b5).mono B4.size)
    have r5 := (r4.below (below_alloc b5)).lt
    clear b5 r4 B4 q4 k4
    go_wp2_with fail
    refine (toByteS_any l A c _ hL (h.below B5).lt).mono ?_
    rintro e w6 ⟨g6, rfl, o6, b6⟩
    have B6 := B5.trans (b6.mono B5.size)
    have r6 := (r5.below b6).lt
    have s6 := Rd.of_own (k := .u8) o6
    clear b6 r5 o6 B5
    go_wp2_with fail
    refine (eqByteS_same l _ _ _ _ _ (by unfold maxLen; omega) r6 s6).mono ?_
    rintro e w7 ⟨rfl, b7⟩
    have B7 := B6.trans (b7.mono B6.size)
    go_wp2
    go_ret
    exact ⟨rfl, B7⟩
  · clear hT
    go_enter Tryd.func4, Tryd.ntmps4
    go_wp2
    go_ret
    exact ⟨rfl, Below.refl _ _⟩
end Go.Proofs.YtechfdnfmapafaaDoor
