/- The walk of the exact law of SameBytes. -/
import Derived.Test.YtechfdnfmapafaaSame
namespace Go.Proofs.Ytechfdnfmapafaa
open Go.RowKit

theorem FnExactSameBytes_walk (l m : List Int) (A A' : Option Addr) (c c' : Nat) (w : World) (hl : l.length ≤ maxLen) (hm : m.length ≤ maxLen) (h : Rd .u8 w w.heap.size A l) (h' : Rd .u8 w w.heap.size A' m) (b : B8 l) (b' : B8 m) :
    Calls Try.prog 7 #[.slice A l.length c, .slice A' m.length c'] w fun e w' => e = .returned (.bool true) ∧ Below w.heap.size w w' := by
  unfold maxLen at hl hm
  by_cases hL : l.length ≤ 1048576
  · by_cases hM : m.length ≤ 1048576
    · go_enter Try.func7, Try.ntmps7
      go_wp2_with fail
      refine (toByteS_any l A c _ hL h).mono ?_
      rintro e w1 ⟨g1, rfl, o1, hb1⟩
      have k1 := (Rd.of_own (k := .u8) o1)
      have hB1 := hb1
      go_wp2_with fail
      refine (toByteS_any m A' c' _ hM (h'.below hB1).lt).mono ?_
      rintro e w2 ⟨g2, rfl, o2, hb2⟩
      have k2 := (Rd.of_own (k := .u8) o2)
      have hB2 := hB1.trans (hb2.mono hB1.size)
      go_wp2_with fail
      refine (specSame_any l m _ _ _ _ _ (k1.below hb2).lt k2 b b').mono ?_
      rintro e w' ⟨rfl, rfl⟩
      clear o1 k1 o2 k2 hb1 hb2
      go_wp2_with fail
      refine (toByteS_any l A c _ hL (h.below hB2).lt).mono ?_
      rintro e w3 ⟨g3, rfl, o3, hb3⟩
      have k3 := (Rd.of_own (k := .u8) o3)
      have hB3 := hB2.trans (hb3.mono hB2.size)
      go_wp2_with fail
      refine (toByteS_any m A' c' _ hM (h'.below hB3).lt).mono ?_
      rintro e w4 ⟨g4, rfl, o4, hb4⟩
      have k4 := (Rd.of_own (k := .u8) o4)
      have k3' := (k3.below hb4).lt
      have hB4 := hB3.trans (hb4.mono hB3.size)
      clear k3 hb3 hb4 o3 o4 hB1 hB2 hB3
      go_wp2_with fail
      refine (implSame_any l m _ _ _ _ _ k3' k4 b b').mono ?_
      rintro e w' ⟨rfl, rfl⟩
      go_wp2_with fail
      refine (toByteS_any l A c _ hL (h.below hB4).lt).mono ?_
      rintro e w5 ⟨g5, rfl, o5, hb5⟩
      have k5 := (Rd.of_own (k := .u8) o5)
      have hB5 := hB4.trans (hb5.mono hB4.size)
      have k3 := (k3'.below hb5).lt
      have k4' := (k4.below hb5).lt
      clear o5 hb5 k4 hB4 k3'
      go_wp2_with fail
      refine (eqByteS_same l _ _ _ _ _ (by unfold maxLen; omega) k3 k5).mono ?_
      rintro e w6 ⟨rfl, hb6⟩
      have hB6 := hB5.trans (hb6.mono hB5.size)
      have k4 := (k4'.below hb6).lt
      clear hb6 k4' hB5 k3
      go_wp2_with fail
      refine (toByteS_any m A' c' _ hM (h'.below hB6).lt).mono ?_
      rintro e w7 ⟨g7, rfl, o7, hb7⟩
      have k7 := (Rd.of_own (k := .u8) o7)
      have hB7 := hB6.trans (hb7.mono hB6.size)
      have k4' := (k4.below hb7).lt
      clear o7 hb7 k4 hB6
      go_wp2_with fail
      refine (eqByteS_same m _ _ _ _ _ (by unfold maxLen; omega) k4' k7).mono ?_
      rintro e w8 ⟨rfl, hb8⟩
      have hB8 := hB7.trans (hb8.mono hB7.size)
      go_wp2
      go_ret
      exact ⟨rfl, hB8⟩
    · go_enter Try.func7, Try.ntmps7
      go_wp2
      go_ret
      exact ⟨rfl, Below.refl _ _⟩
  · go_enter Try.func7, Try.ntmps7
    go_wp2
    go_ret
    exact ⟨rfl, Below.refl _ _⟩
end Go.Proofs.Ytechfdnfmapafaa
