/- The walk of the exact law of PrintTrace. -/
import Derived.Test.YtmdaianbhpppfaaDoorPrT
import Derived.Test.YtmdaianbhpppfaaDoorTrS
namespace Go.Proofs.YtmdaianbhpppfaaDoor
open Go.RowKit

set_option maxHeartbeats 400000 in
theorem FnExactPrintTrace_walk (t : List (List Ev)) (A : Option Addr) (c : Nat) (w : World) (hl : t.length ≤ c) (hc : c ≤ maxLen) (h : RdT w w.heap.size A t) (hT : Tb w) :
    Calls Tryd.prog 5 #[.slice A t.length c] w fun e w' => e = .returned (.bool true) ∧ Below w.heap.size w w' := by
  have hn : t.length ≤ maxLen := by omega
  unfold maxLen at hc
  by_cases hS : t.length + sumT t ≤ 1048576
  · have hL := LenT.of_sum hS
    have SP := hide (fun A c w => PrintTrace_spec t A c w hn)
    have IM := hide (fun A c w => PrintTrace_any t A c w hn)
    have HL := hide hL
    generalize trF t = F at SP IM
    generalize ptL t = L at SP IM
    clear hL
    go_enter Tryd.func5, Tryd.ntmps5
    go_wp2_with fail
    refine (szEventSS_fit t A c 1048576 _ hS (Nat.le_refl _) h).mono ?_
    rintro e w' ⟨rfl, rfl⟩
    go_wp2_with fail
    refine (toEventSS_any t A c _ HL.out h).mono ?_
    rintro e w1 ⟨g1, rfl, r1, B1⟩
    go_wp2_with fail
    refine (SP.out _ _ _ r1).mono ?_
    rintro e w2 ⟨rfl, b2⟩
    have B2 := B1.trans (b2.mono B1.size)
    clear b2 r1 B1
    have k2 := Bk.new w2 #[.int .i64 F, .string (strOfNums L)] 23
    have B2a := B2.alloc B2.size (.cells #[.int .i64 F, .string (strOfNums L)] 23)
    go_wp2_with fail
    refine (toEventSS_any t A c _ HL.out (h.below B2a).lt).mono ?_
    rintro e w3 ⟨g3, rfl, r3, b3⟩
    have B3 := B2a.trans (b3.mono B2a.size)
    have k3 := k2.kept b3
    clear b3 B2 B2a k2
    go_wp2_with fail
    refine (IM.out _ _ _ r3 (hT.on B3)).mono ?_
    rintro e w4 ⟨rfl, b4⟩
    have B4 := B3.trans (b4.mono B3.size)
    have r4 := (r3.below b4).lt
    have k4 := k3.kept b4
    clear b4 r3 B3 k3
    have k4a := k4.alloc (.cells #[.int .i64 F, .string (strOfNums L)] 23)
    have B4a := B4.alloc B4.size (.cells #[.int .i64 F, .string (strOfNums L)] 23)
    have r4a := (r4.alloc (Nat.le_refl _) (.cells #[.int .i64 F, .string (strOfNums L)] 23)).lt
    have c0 := (k4.cell 0).trans (rfl : _ = some (Value.int .i64 F))
    have c1 := (k4.cell 1).trans (rfl : _ = some (Value.string (strOfNums L)))
    have kl := k4.lt
    go_wp2_with fail
    refine (eqTextResult_same _ _ _).mono ?_
    rintro e w5 ⟨rfl, b5⟩
    have B5 := B4a.trans (b5.mono B4a.size)
    have r5 := (r4a.below b5).lt
    clear b5 r4 r4a B4 B4a k4 k4a c0 c1 kl
    go_wp2_with fail
    refine (toEventSS_any t A c _ HL.out (h.below B5).lt).mono ?_
    rintro e w6 ⟨g6, rfl, s6, b6⟩
    have B6 := B5.trans (b6.mono B5.size)
    have r6 := (r5.below b6).lt
    clear b6 r5 B5
    go_wp2_with fail
    refine (eqEventSS_same t _ _ _ _ _ hn r6 s6).mono ?_
    rintro e w7 ⟨rfl, b7⟩
    have B7 := B6.trans (b7.mono B6.size)
    go_wp2
    go_ret
    exact ⟨rfl, B7⟩
  · go_enter Tryd.func5, Tryd.ntmps5
    go_wp2_with fail
    refine (szEventSS_not t A c 1048576 _ (by omega) (Nat.le_refl _) hn h).mono ?_
    rintro e w' ⟨rfl, rfl⟩
    go_wp2
    go_ret
    exact ⟨rfl, Below.refl _ _⟩
end Go.Proofs.YtmdaianbhpppfaaDoor
