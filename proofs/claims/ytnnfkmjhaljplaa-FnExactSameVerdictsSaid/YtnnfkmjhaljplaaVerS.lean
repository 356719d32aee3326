/- Verdicts: how they are read; the exact laws' own helpers on them: measured, compared, copied. -/
import Derived.Test.YtnnfkmjhaljplaaWlsU
import Derived.Test.YtnnfkmjhaljplaaGLog
import Derived.Test.YtnnfkmjhaljplaaGEv
import Derived.Test.YtnnfkmjhaljplaaGFr
import Derived.StillTailTactics
import Derived.Lib.Hide
namespace Go.Proofs.Ytnnfkmjhaljplaa
open Go.RowKit

/-- A verdict: its code, whether it accepts, its file, log, write lists and row. -/
structure Vd where
  c : Int
  a : Bool
  f : List Int
  l : List Stp
  o : List Wls
  z : List Int
/-- A verdict as a value. -/
abbrev vdV (d : Vd) (A0 : Option Addr) (c0 : Nat) (A1 : Option Addr) (c1 : Nat) (A2 : Option Addr) (c2 : Nat) (A3 : Option Addr) (c3 : Nat) : Value :=
  .agg #[.int .i64 d.c, .bool d.a, .slice A0 d.f.length c0, .slice A1 d.l.length c1, .slice A2 d.o.length c2, .slice A3 d.z.length c3]
structure RdVd (w : World) (B : Nat) (A0 A1 A2 A3 : Option Addr) (d : Vd) : Prop where
  f : Rd .u8 w B A0 d.f
  l : RdP w B A1 d.l
  o : RdW w B A2 d.o
  z : Rd .i64 w B A3 d.z
section
variable {w w' : World} {B B' : Nat} {A0 A1 A2 A3 : Option Addr} {d : Vd}
theorem RdVd.more (h : RdVd w B A0 A1 A2 A3 d) (hB : B ≤ B') : RdVd w B' A0 A1 A2 A3 d := ⟨h.f.more hB, h.l.more hB, h.o.more hB, h.z.more hB⟩
theorem RdVd.below (h : RdVd w B A0 A1 A2 A3 d) (hb : Below B w w') : RdVd w' B A0 A1 A2 A3 d := ⟨h.f.below hb, h.l.below hb, h.o.below hb, h.z.below hb⟩
theorem RdVd.alloc (h : RdVd w B A0 A1 A2 A3 d) (hB : B ≤ w.heap.size) (o : Obj) : RdVd (w.alloc o) B A0 A1 A2 A3 d := h.below ((Below.refl _ _).alloc hB o)
theorem RdVd.lt (h : RdVd w B A0 A1 A2 A3 d) : RdVd w w.heap.size A0 A1 A2 A3 d := ⟨h.f.lt, h.l.lt, h.o.lt, h.z.lt⟩
end
/-- No row of it is longer than a slice can be. -/
structure LenVd (n : Nat) (d : Vd) : Prop where
  f : d.f.length ≤ n
  l : d.l.length ≤ n
  o : d.o.length ≤ n
  z : d.z.length ≤ n
/-- How large a verdict is. -/
def sizV (d : Vd) : Nat := d.f.length + d.l.length + (d.o.length + sumO d.o) + d.z.length
theorem LenVd.of {d : Vd} {n : Nat} (h : sizV d ≤ n) : LenVd n d := by unfold sizV at h; exact ⟨by omega, by omega, by omega, by omega⟩
/-- A verdict of the call's own. -/
structure OwnVd (w : World) (base : Nat) (v0 v1 v2 v3 : Value) (d : Vd) (us : List Value) : Prop where
  f : w.ownsRow base 5 1 v0 d.f.length (d.f.map (Value.int .u8))
  l : w.ownsRow base 85 4 v1 d.l.length (stps d.l)
  o : OwnW w base v2 d.o us
  z : w.ownsRow base 2 1 v3 d.z.length (d.z.map (Value.int .i64))
theorem OwnVd.rd {w : World} {base c0 c1 c2 c3 : Nat} {A0 A1 A2 A3 : Option Addr} {d : Vd} {us : List Value} (h : OwnVd w base (.slice A0 d.f.length c0) (.slice A1 d.l.length c1) (.slice A2 d.o.length c2) (.slice A3 d.z.length c3) d us) : RdVd w w.heap.size A0 A1 A2 A3 d :=
  ⟨Rd.of_own (k := .u8) h.f, RdP.of_own h.l, h.o.rd, Rd.of_own (k := .i64) h.z⟩
theorem OwnVd.below {w w' : World} {base : Nat} {v0 v1 v2 v3 : Value} {d : Vd} {us : List Value} (h : OwnVd w base v0 v1 v2 v3 d us) (hb : Below w.heap.size w w') : OwnVd w' base v0 v1 v2 v3 d us :=
  ⟨own_below h.f hb (Nat.le_refl _), own_below h.l hb (Nat.le_refl _), h.o.below hb, own_below h.z hb (Nat.le_refl _)⟩
theorem OwnVd.set_ {w : World} {base b : Nat} {v0 v1 v2 v3 : Value} {d : Vd} {us : List Value} (h : OwnVd w base v0 v1 v2 v3 d us) (hb : b < base) (i : Nat) (u : Value) : OwnVd (w.setCell ⟨b, i, none⟩ u) base v0 v1 v2 v3 d us :=
  ⟨ownsRow_setCell_below h.f (a := ⟨b, i, none⟩) hb u, ownsRow_setCell_below h.l (a := ⟨b, i, none⟩) hb u, h.o.kept (grown_set w b i u) (fun x e => by cases e; exact hb), ownsRow_setCell_below h.z (a := ⟨b, i, none⟩) hb u⟩
theorem OwnVd.mono {w : World} {base b' : Nat} {v0 v1 v2 v3 : Value} {d : Vd} {us : List Value} (h : OwnVd w base v0 v1 v2 v3 d us) (hb : b' ≤ base) : OwnVd w b' v0 v1 v2 v3 d us :=
  ⟨own_mono h.f hb, own_mono h.l hb, h.o.mono hb, own_mono h.z hb⟩
theorem szByteS_fit (A : Option Addr) (n c m : Nat) (w : World) (hm : n ≤ m) (h : m ≤ 1048576) :
    Calls Try.prog 58 #[.slice A n c, .int .i64 m] w fun e w' => e = .returned (.int .i64 ((m - n : Nat) : Int)) ∧ w = w' := by
  go_enter Try.func58, Try.ntmps58
  go_wp2
  go_ret
  exact ⟨ret_int (by omega), rfl⟩
theorem szByteS_not (A : Option Addr) (n c m : Nat) (w : World) (hm : m < n) (h : m ≤ 1048576) (hn : n ≤ maxLen) :
    Calls Try.prog 58 #[.slice A n c, .int .i64 m] w fun e w' => e = .returned (.int .i64 (-1)) ∧ w = w' := by
  unfold maxLen at hn
  go_enter Try.func58, Try.ntmps58
  go_wp2
  go_ret
  exact ⟨rfl, rfl⟩
theorem szInt64S_fit (A : Option Addr) (n c m : Nat) (w : World) (hm : n ≤ m) (h : m ≤ 1048576) :
    Calls Try.prog 61 #[.slice A n c, .int .i64 m] w fun e w' => e = .returned (.int .i64 ((m - n : Nat) : Int)) ∧ w = w' := by
  go_enter Try.func61, Try.ntmps61
  go_wp2
  go_ret
  exact ⟨ret_int (by omega), rfl⟩
theorem szInt64S_not (A : Option Addr) (n c m : Nat) (w : World) (hm : m < n) (h : m ≤ 1048576) (hn : n ≤ maxLen) :
    Calls Try.prog 61 #[.slice A n c, .int .i64 m] w fun e w' => e = .returned (.int .i64 (-1)) ∧ w = w' := by
  unfold maxLen at hn
  go_enter Try.func61, Try.ntmps61
  go_wp2
  go_ret
  exact ⟨rfl, rfl⟩
set_option maxHeartbeats 800000 in
theorem szVerdict_fit (d : Vd) (A0 A1 A2 A3 : Option Addr) (c0 c1 c2 c3 m : Nat) (w : World) (hs : sizV d ≤ m) (hm : m ≤ 1048576) (h : RdVd w w.heap.size A0 A1 A2 A3 d) :
    Calls Try.prog 25 #[vdV d A0 c0 A1 c1 A2 c2 A3 c3, .int .i64 m] w fun e w' => e = .returned (.int .i64 ((m - sizV d : Nat) : Int)) ∧ Below w.heap.size w w' := by
  unfold sizV at hs
  obtain ⟨W, hW⟩ : ∃ W, W = w.alloc (Obj.cells #[.int .i64 d.c, .bool d.a, .slice A0 d.f.length c0, .slice A1 d.l.length c1, .slice A2 d.o.length c2, .slice A3 d.z.length c3] 52) := ⟨_, rfl⟩
  have K : Bk W w.heap.size #[.int .i64 d.c, .bool d.a, .slice A0 d.f.length c0, .slice A1 d.l.length c1, .slice A2 d.o.length c2, .slice A3 d.z.length c3] 52 := by rw [hW]; exact Bk.new _ _ _
  have B0 : Below w.heap.size w W := by rw [hW]; exact (Below.refl _ _).alloc (Nat.le_refl _) _
  have HR := hide ((h.o.below B0).lt)
  have HW := hide hW
  clear hW h
  go_enter Try.func25, Try.ntmps25
  have q1 := (K.cell 3).trans (rfl : _ = some (Value.slice A1 d.l.length c1))
  have q2 := (K.cell 4).trans (rfl : _ = some (Value.slice A2 d.o.length c2))
  have q3 := (K.cell 5).trans (rfl : _ = some (Value.slice A3 d.z.length c3))
  go_wp2_with fail
  rw [← HW.out]
  refine (szByteS_fit A0 d.f.length c0 m _ (by omega) (by omega)).mono ?_
  rintro e w1 ⟨rfl, rfl⟩
  go_wp2_with fail
  refine (szStepS_fit A1 d.l.length c1 (m - d.f.length) _ (by omega) (by omega)).mono ?_
  rintro e w2 ⟨rfl, rfl⟩
  go_wp2_with fail
  refine (szWriteListS_fit d.o A2 c2 (m - d.f.length - d.l.length) _ (by omega) (by omega) HR.out).mono ?_
  rintro e w3 ⟨rfl, b3⟩
  have q3' := ((K.kept b3).cell 5).trans (rfl : _ = some (Value.slice A3 d.z.length c3))
  have z3 := b3.size
  go_wp2_with fail
  refine (szInt64S_fit A3 d.z.length c3 (m - d.f.length - d.l.length - d.o.length - sumO d.o) _ (by omega) (by omega)).mono ?_
  rintro e w4 ⟨rfl, rfl⟩
  go_wp2
  go_ret
  exact ⟨ret_int (by unfold sizV; omega), (B0.trans (b3.mono B0.size))⟩
set_option maxHeartbeats 1600000 in
theorem szVerdict_not (d : Vd) (A0 A1 A2 A3 : Option Addr) (c0 c1 c2 c3 m : Nat) (w : World) (hs : m < sizV d) (hm : m ≤ 1048576) (hn : LenVd maxLen d) (h : RdVd w w.heap.size A0 A1 A2 A3 d) :
    Calls Try.prog 25 #[vdV d A0 c0 A1 c1 A2 c2 A3 c3, .int .i64 m] w fun e w' => e = .returned (.int .i64 (-1)) ∧ Below w.heap.size w w' := by
  unfold sizV at hs
  obtain ⟨W, hW⟩ : ∃ W, W = w.alloc (Obj.cells #[.int .i64 d.c, .bool d.a, .slice A0 d.f.length c0, .slice A1 d.l.length c1, .slice A2 d.o.length c2, .slice A3 d.z.length c3] 52) := ⟨_, rfl⟩
  have K : Bk W w.heap.size #[.int .i64 d.c, .bool d.a, .slice A0 d.f.length c0, .slice A1 d.l.length c1, .slice A2 d.o.length c2, .slice A3 d.z.length c3] 52 := by rw [hW]; exact Bk.new _ _ _
  have B0 : Below w.heap.size w W := by rw [hW]; exact (Below.refl _ _).alloc (Nat.le_refl _) _
  have HR := hide ((h.o.below B0).lt)
  have HW := hide hW
  clear hW h
  go_enter Try.func25, Try.ntmps25
  have q1 := (K.cell 3).trans (rfl : _ = some (Value.slice A1 d.l.length c1))
  have q2 := (K.cell 4).trans (rfl : _ = some (Value.slice A2 d.o.length c2))
  have q3 := (K.cell 5).trans (rfl : _ = some (Value.slice A3 d.z.length c3))
  by_cases g0 : d.f.length ≤ m
  · skip
    by_cases g1 : d.f.length + d.l.length ≤ m
    · skip
      by_cases g2 : d.f.length + d.l.length + (d.o.length + sumO d.o) ≤ m
      · skip
        go_wp2_with fail
        rw [← HW.out]
        refine (szByteS_fit A0 d.f.length c0 m _ (by omega) (by omega)).mono ?_
        rintro e w1 ⟨rfl, rfl⟩
        go_wp2_with fail
        refine (szStepS_fit A1 d.l.length c1 (m - d.f.length) _ (by omega) (by omega)).mono ?_
        rintro e w2 ⟨rfl, rfl⟩
        go_wp2_with fail
        refine (szWriteListS_fit d.o A2 c2 (m - d.f.length - d.l.length) _ (by omega) (by omega) HR.out).mono ?_
        rintro e w3 ⟨rfl, b3⟩
        have q3' := ((K.kept b3).cell 5).trans (rfl : _ = some (Value.slice A3 d.z.length c3))
        have z3 := b3.size
        go_wp2_with fail
        refine (szInt64S_not A3 d.z.length c3 (m - d.f.length - d.l.length - d.o.length - sumO d.o) _ (by omega) (by omega) hn.z).mono ?_
        rintro e w4 ⟨rfl, rfl⟩
        go_wp2
        go_ret
        exact ⟨rfl, (B0.trans (b3.mono B0.size))⟩
      · skip
        go_wp2_with fail
        rw [← HW.out]
        refine (szByteS_fit A0 d.f.length c0 m _ (by omega) (by omega)).mono ?_
        rintro e w1 ⟨rfl, rfl⟩
        go_wp2_with fail
        refine (szStepS_fit A1 d.l.length c1 (m - d.f.length) _ (by omega) (by omega)).mono ?_
        rintro e w2 ⟨rfl, rfl⟩
        go_wp2_with fail
        refine (szWriteListS_not d.o A2 c2 (m - d.f.length - d.l.length) _ (by omega) (by omega) hn.o HR.out).mono ?_
        rintro e w3 ⟨rfl, b3⟩
        go_wp2
        go_ret
        exact ⟨rfl, (B0.trans (b3.mono B0.size))⟩
    · skip
      go_wp2_with fail
      rw [← HW.out]
      refine (szByteS_fit A0 d.f.length c0 m _ (by omega) (by omega)).mono ?_
      rintro e w1 ⟨rfl, rfl⟩
      go_wp2_with fail
      refine (szStepS_not A1 d.l.length c1 (m - d.f.length) _ (by omega) (by omega) hn.l).mono ?_
      rintro e w2 ⟨rfl, rfl⟩
      go_wp2
      go_ret
      exact ⟨rfl, B0⟩
  · skip
    go_wp2_with fail
    rw [← HW.out]
    refine (szByteS_not A0 d.f.length c0 m _ (by omega) (by omega) hn.f).mono ?_
    rintro e w1 ⟨rfl, rfl⟩
    go_wp2
    go_ret
    exact ⟨rfl, B0⟩
set_option maxRecDepth 100000 in
set_option maxHeartbeats 1600000 in
theorem eqVerdict_same (d : Vd) (A0 A1 A2 A3 Z0 Z1 Z2 Z3 : Option Addr) (c0 c1 c2 c3 e0 e1 e2 e3 : Nat) (w : World) (hn : LenVd maxLen d) (h : RdVd w w.heap.size A0 A1 A2 A3 d) (k : RdVd w w.heap.size Z0 Z1 Z2 Z3 d) :
    Calls Try.prog 29 #[vdV d A0 c0 A1 c1 A2 c2 A3 c3, vdV d Z0 e0 Z1 e1 Z2 e2 Z3 e3] w fun e w' => e = .returned (.bool true) ∧ Below w.heap.size w w' := by
  obtain ⟨W, hW⟩ : ∃ W, W = (w.alloc (Obj.cells #[.int .i64 d.c, .bool d.a, .slice A0 d.f.length c0, .slice A1 d.l.length c1, .slice A2 d.o.length c2, .slice A3 d.z.length c3] 56)).alloc (Obj.cells #[.int .i64 d.c, .bool d.a, .slice Z0 d.f.length e0, .slice Z1 d.l.length e1, .slice Z2 d.o.length e2, .slice Z3 d.z.length e3] 56) := ⟨_, rfl⟩
  obtain ⟨k1, k2, hz, B0⟩ := two_new _ _ _ _ _ W hW
  have HW := hide hW
  have hR := h.below B0
  have kR := k.below B0
  have hba : (d.a != d.a) = false := by simp
  clear hW h k
  go_enter Try.func29, Try.ntmps29
  have p0 := (k1.cell 2).trans (rfl : _ = some (Value.slice A0 d.f.length c0))
  have r0 := (k2.cell 2).trans (rfl : _ = some (Value.slice Z0 d.f.length e0))
  go_wp2_with fail
  rw [← HW.out]
  clear p0 r0
  refine (eqByteS_same d.f A0 Z0 c0 e0 W hn.f hR.f.lt kR.f.lt).mono ?_
  rintro e w1 ⟨rfl, b1⟩
  have B1 := B0.trans (b1.mono B0.size)
  replace k1 := k1.kept b1
  replace k2 := k2.kept b1
  replace hR := hR.below (b1.mono (by have := B0.size; omega))
  replace kR := kR.below (b1.mono (by have := B0.size; omega))
  have zz1 := B1.size
  clear b1
  have p1 := (k1.cell 3).trans (rfl : _ = some (Value.slice A1 d.l.length c1))
  have r1 := (k2.cell 3).trans (rfl : _ = some (Value.slice Z1 d.l.length e1))
  go_wp2_with fail
  clear p1 r1
  refine (eqStepS_same d.l A1 Z1 c1 e1 w1 hn.l hR.l.lt kR.l.lt).mono ?_
  rintro e w2 ⟨rfl, b2⟩
  have B2 := B1.trans (b2.mono B1.size)
  replace k1 := k1.kept b2
  replace k2 := k2.kept b2
  replace hR := hR.below (b2.mono (by have := B1.size; omega))
  replace kR := kR.below (b2.mono (by have := B1.size; omega))
  have zz2 := B2.size
  clear b2
  have p2 := (k1.cell 4).trans (rfl : _ = some (Value.slice A2 d.o.length c2))
  have r2 := (k2.cell 4).trans (rfl : _ = some (Value.slice Z2 d.o.length e2))
  go_wp2_with fail
  clear p2 r2
  refine (eqWriteListS_same d.o A2 Z2 c2 e2 w2 hn.o hR.o.lt kR.o.lt).mono ?_
  rintro e w3 ⟨rfl, b3⟩
  have B3 := B2.trans (b3.mono B2.size)
  replace k1 := k1.kept b3
  replace k2 := k2.kept b3
  replace hR := hR.below (b3.mono (by have := B2.size; omega))
  replace kR := kR.below (b3.mono (by have := B2.size; omega))
  have zz3 := B3.size
  clear b3
  have p3 := (k1.cell 5).trans (rfl : _ = some (Value.slice A3 d.z.length c3))
  have r3 := (k2.cell 5).trans (rfl : _ = some (Value.slice Z3 d.z.length e3))
  go_wp2_with fail
  clear p3 r3
  refine (eqInt64S_same d.z A3 Z3 c3 e3 w3 hn.z hR.z.lt kR.z.lt).mono ?_
  rintro e w4 ⟨rfl, b4⟩
  have B4 := B3.trans (b4.mono B3.size)
  go_wp2
  go_ret
  exact ⟨rfl, B4⟩

set_option maxRecDepth 100000 in
set_option maxHeartbeats 3200000 in
theorem toVerdict_own (d : Vd) (A0 A1 A2 A3 : Option Addr) (c0 c1 c2 c3 : Nat) (w : World) (hs : sizV d ≤ 1048576) (h : RdVd w w.heap.size A0 A1 A2 A3 d) :
    Calls Try.prog 27 #[vdV d A0 c0 A1 c1 A2 c2 A3 c3] w fun e w' => ∃ g0 g1 g2 g3 us, e = .returned (vdV d (some ⟨g0, 0, none⟩) d.f.length (some ⟨g1, 0, none⟩) d.l.length (some ⟨g2, 0, none⟩) d.o.length (some ⟨g3, 0, none⟩) d.z.length) ∧ OwnVd w' w.heap.size (.slice (some ⟨g0, 0, none⟩) d.f.length d.f.length) (.slice (some ⟨g1, 0, none⟩) d.l.length d.l.length) (.slice (some ⟨g2, 0, none⟩) d.o.length d.o.length) (.slice (some ⟨g3, 0, none⟩) d.z.length d.z.length) d us ∧ Below w.heap.size w w' := by
  unfold sizV at hs
  obtain ⟨W, hW⟩ : ∃ W, W = ((w.alloc (Obj.cells #[.int .i64 d.c, .bool d.a, .slice A0 d.f.length c0, .slice A1 d.l.length c1, .slice A2 d.o.length c2, .slice A3 d.z.length c3] 52)).alloc (Obj.cells #[.int .i64 0, .bool false, .slice none 0 0, .slice none 0 0, .slice none 0 0, .slice none 0 0] 56)).alloc (Obj.cells #[.int .i64 d.c, .bool d.a, .slice none 0 0, .slice none 0 0, .slice none 0 0, .slice none 0 0] 56) := ⟨_, rfl⟩
  obtain ⟨j0, j1, j2, hzX, B⟩ := three_new _ _ _ _ _ _ _ W hW
  have HW := hide hW
  have hR := h.below B
  clear hW h
  go_enter Try.func27, Try.ntmps27
  go_wp2_with fail
  rw [← HW.out]
  refine (toByteS_any d.f A0 c0 W (by omega) hR.f.lt).mono ?_
  rintro e v0 ⟨g0, rfl, p0, b0⟩
  have zb0 := b0.size
  have B_0 := B.trans (b0.mono B.size)
  have j0_0 := j0.kept b0
  have j1_0 := j1.kept b0
  have j2_0 := j2.kept b0
  have hR_0 := hR.below (b0.mono (by omega))
  have n0_0 := own_mono p0 (show w.heap.size + 1 + 1 + 1 ≤ _ by omega)
  clear b0 p0 B j0 j1 j2 hR 
  have f0 := j2_0.frozen 2
  have y0 := (j2_0.cell 2).trans (rfl : _ = some (Value.slice none 0 0))
  have l0 := (j0_0.cell 3).trans (rfl : _ = some (Value.slice A1 d.l.length c1))
  obtain ⟨U0, hU0⟩ : ∃ U, U = v0.setCell ⟨w.heap.size + 1 + 1, 2, none⟩ (.slice (some ⟨g0, 0, none⟩) d.f.length d.f.length) := ⟨_, rfl⟩
  have zU0 : U0.heap.size = v0.heap.size := by rw [hU0]; simp
  have J0_0 : Bk U0 w.heap.size #[.int .i64 d.c, .bool d.a, .slice A0 d.f.length c0, .slice A1 d.l.length c1, .slice A2 d.o.length c2, .slice A3 d.z.length c3] 52 := by rw [hU0]; exact j0_0.far (by simp <;> omega) _
  have J1_0 : Bk U0 (w.heap.size + 1) #[.int .i64 0, .bool false, .slice none 0 0, .slice none 0 0, .slice none 0 0, .slice none 0 0] 56 := by rw [hU0]; exact j1_0.far (by simp <;> omega) _
  have J2_0 : Bk U0 (w.heap.size + 1 + 1) #[.int .i64 d.c, .bool d.a, .slice (some ⟨g0, 0, none⟩) d.f.length d.f.length, .slice none 0 0, .slice none 0 0, .slice none 0 0] 56 := by rw [hU0]; exact j2_0.set_ 2 _
  have BB_0 : Below w.heap.size w U0 := by rw [hU0]; exact B_0.setCell (by simp <;> omega) _
  have RR_0 : RdVd U0 w.heap.size A0 A1 A2 A3 d := by rw [hU0]; exact hR_0.below ((Below.refl _ _).setCell (by simp <;> omega) _)
  have O0_0 : U0.ownsRow (w.heap.size + 1 + 1 + 1) 5 1 (.slice (some ⟨g0, 0, none⟩) d.f.length d.f.length) d.f.length (d.f.map (Value.int .u8)) := by rw [hU0]; exact ownsRow_setCell_below n0_0 (a := ⟨w.heap.size + 1 + 1, 2, none⟩) (by simp) _
  have HU0 := hide hU0
  clear hU0 B_0 j0_0 j1_0 j2_0 hR_0 n0_0
  go_wp2_with fail
  rw [← HU0.out]
  clear f0 y0 l0
  refine (toStepS_any d.l A1 c1 U0 (by omega) RR_0.l.lt).mono ?_
  rintro e v1 ⟨g1, rfl, p1, b1⟩
  have zb1 := b1.size
  have B_1 := BB_0.trans (b1.mono BB_0.size)
  have j0_1 := J0_0.kept b1
  have j1_1 := J1_0.kept b1
  have j2_1 := J2_0.kept b1
  have hR_1 := RR_0.below (b1.mono (by omega))
  have n0_1 := own_below O0_0 b1 (Nat.le_refl _)
  have n1_1 := own_mono p1 (show w.heap.size + 1 + 1 + 1 ≤ _ by omega)
  clear b1 p1 BB_0 J0_0 J1_0 J2_0 RR_0 O0_0
  have f1 := j2_1.frozen 3
  have y1 := (j2_1.cell 3).trans (rfl : _ = some (Value.slice none 0 0))
  have l1 := (j0_1.cell 4).trans (rfl : _ = some (Value.slice A2 d.o.length c2))
  obtain ⟨U1, hU1⟩ : ∃ U, U = v1.setCell ⟨w.heap.size + 1 + 1, 3, none⟩ (.slice (some ⟨g1, 0, none⟩) d.l.length d.l.length) := ⟨_, rfl⟩
  have zU1 : U1.heap.size = v1.heap.size := by rw [hU1]; simp
  have J0_1 : Bk U1 w.heap.size #[.int .i64 d.c, .bool d.a, .slice A0 d.f.length c0, .slice A1 d.l.length c1, .slice A2 d.o.length c2, .slice A3 d.z.length c3] 52 := by rw [hU1]; exact j0_1.far (by simp <;> omega) _
  have J1_1 : Bk U1 (w.heap.size + 1) #[.int .i64 0, .bool false, .slice none 0 0, .slice none 0 0, .slice none 0 0, .slice none 0 0] 56 := by rw [hU1]; exact j1_1.far (by simp <;> omega) _
  have J2_1 : Bk U1 (w.heap.size + 1 + 1) #[.int .i64 d.c, .bool d.a, .slice (some ⟨g0, 0, none⟩) d.f.length d.f.length, .slice (some ⟨g1, 0, none⟩) d.l.length d.l.length, .slice none 0 0, .slice none 0 0] 56 := by rw [hU1]; exact j2_1.set_ 3 _
  have BB_1 : Below w.heap.size w U1 := by rw [hU1]; exact B_1.setCell (by simp <;> omega) _
  have RR_1 : RdVd U1 w.heap.size A0 A1 A2 A3 d := by rw [hU1]; exact hR_1.below ((Below.refl _ _).setCell (by simp <;> omega) _)
  have O0_1 : U1.ownsRow (w.heap.size + 1 + 1 + 1) 5 1 (.slice (some ⟨g0, 0, none⟩) d.f.length d.f.length) d.f.length (d.f.map (Value.int .u8)) := by rw [hU1]; exact ownsRow_setCell_below n0_1 (a := ⟨w.heap.size + 1 + 1, 3, none⟩) (by simp) _
  have O1_1 : U1.ownsRow (w.heap.size + 1 + 1 + 1) 85 4 (.slice (some ⟨g1, 0, none⟩) d.l.length d.l.length) d.l.length (stps d.l) := by rw [hU1]; exact ownsRow_setCell_below n1_1 (a := ⟨w.heap.size + 1 + 1, 3, none⟩) (by simp) _
  have HU1 := hide hU1
  clear hU1 B_1 j0_1 j1_1 j2_1 hR_1 n0_1 n1_1
  go_wp2_with fail
  rw [← HU1.out]
  clear f1 y1 l1
  refine (toWriteListS_own d.o A2 c2 U1 (by omega) RR_1.o.lt).mono ?_
  rintro e v2 ⟨g2, us, rfl, p2, b2⟩
  have zb2 := b2.size
  have B_2 := BB_1.trans (b2.mono BB_1.size)
  have j0_2 := J0_1.kept b2
  have j1_2 := J1_1.kept b2
  have j2_2 := J2_1.kept b2
  have hR_2 := RR_1.below (b2.mono (by omega))
  have n0_2 := own_below O0_1 b2 (Nat.le_refl _)
  have n1_2 := own_below O1_1 b2 (Nat.le_refl _)
  have n2_2 := p2.mono (show w.heap.size + 1 + 1 + 1 ≤ _ by omega)
  clear b2 p2 BB_1 J0_1 J1_1 J2_1 RR_1 O0_1 O1_1
  have f2 := j2_2.frozen 4
  have y2 := (j2_2.cell 4).trans (rfl : _ = some (Value.slice none 0 0))
  have l2 := (j0_2.cell 5).trans (rfl : _ = some (Value.slice A3 d.z.length c3))
  obtain ⟨U2, hU2⟩ : ∃ U, U = v2.setCell ⟨w.heap.size + 1 + 1, 4, none⟩ (.slice (some ⟨g2, 0, none⟩) d.o.length d.o.length) := ⟨_, rfl⟩
  have zU2 : U2.heap.size = v2.heap.size := by rw [hU2]; simp
  have J0_2 : Bk U2 w.heap.size #[.int .i64 d.c, .bool d.a, .slice A0 d.f.length c0, .slice A1 d.l.length c1, .slice A2 d.o.length c2, .slice A3 d.z.length c3] 52 := by rw [hU2]; exact j0_2.far (by simp <;> omega) _
  have J1_2 : Bk U2 (w.heap.size + 1) #[.int .i64 0, .bool false, .slice none 0 0, .slice none 0 0, .slice none 0 0, .slice none 0 0] 56 := by rw [hU2]; exact j1_2.far (by simp <;> omega) _
  have J2_2 : Bk U2 (w.heap.size + 1 + 1) #[.int .i64 d.c, .bool d.a, .slice (some ⟨g0, 0, none⟩) d.f.length d.f.length, .slice (some ⟨g1, 0, none⟩) d.l.length d.l.length, .slice (some ⟨g2, 0, none⟩) d.o.length d.o.length, .slice none 0 0] 56 := by rw [hU2]; exact j2_2.set_ 4 _
  have BB_2 : Below w.heap.size w U2 := by rw [hU2]; exact B_2.setCell (by simp <;> omega) _
  have RR_2 : RdVd U2 w.heap.size A0 A1 A2 A3 d := by rw [hU2]; exact hR_2.below ((Below.refl _ _).setCell (by simp <;> omega) _)
  have O0_2 : U2.ownsRow (w.heap.size + 1 + 1 + 1) 5 1 (.slice (some ⟨g0, 0, none⟩) d.f.length d.f.length) d.f.length (d.f.map (Value.int .u8)) := by rw [hU2]; exact ownsRow_setCell_below n0_2 (a := ⟨w.heap.size + 1 + 1, 4, none⟩) (by simp) _
  have O1_2 : U2.ownsRow (w.heap.size + 1 + 1 + 1) 85 4 (.slice (some ⟨g1, 0, none⟩) d.l.length d.l.length) d.l.length (stps d.l) := by rw [hU2]; exact ownsRow_setCell_below n1_2 (a := ⟨w.heap.size + 1 + 1, 4, none⟩) (by simp) _
  have O2_2 : OwnW U2 (w.heap.size + 1 + 1 + 1) (.slice (some ⟨g2, 0, none⟩) d.o.length d.o.length) d.o us := by rw [hU2]; exact n2_2.kept (grown_set v2 (w.heap.size + 1 + 1) 4 _) (fun b e => by cases e; omega)
  have HU2 := hide hU2
  clear hU2 B_2 j0_2 j1_2 j2_2 hR_2 n0_2 n1_2 n2_2
  go_wp2_with fail
  rw [← HU2.out]
  clear f2 y2 l2
  refine (toInt64S_any d.z A3 c3 U2 (by omega) RR_2.z.lt).mono ?_
  rintro e v3 ⟨g3, rfl, p3, b3⟩
  have zb3 := b3.size
  have B_3 := BB_2.trans (b3.mono BB_2.size)
  have j0_3 := J0_2.kept b3
  have j1_3 := J1_2.kept b3
  have j2_3 := J2_2.kept b3
  have hR_3 := RR_2.below (b3.mono (by omega))
  have n0_3 := own_below O0_2 b3 (Nat.le_refl _)
  have n1_3 := own_below O1_2 b3 (Nat.le_refl _)
  have n2_3 := O2_2.below b3
  have n3_3 := own_mono p3 (show w.heap.size + 1 + 1 + 1 ≤ _ by omega)
  clear b3 p3 BB_2 J0_2 J1_2 J2_2 RR_2 O0_2 O1_2 O2_2
  have OV : OwnVd v3 (w.heap.size + 1 + 1 + 1) (.slice (some ⟨g0, 0, none⟩) d.f.length d.f.length) (.slice (some ⟨g1, 0, none⟩) d.l.length d.l.length) (.slice (some ⟨g2, 0, none⟩) d.o.length d.o.length) (.slice (some ⟨g3, 0, none⟩) d.z.length d.z.length) d us := ⟨n0_3, n1_3, n2_3, n3_3⟩
  have y0 := (j2_3.cell 0).trans (rfl : _ = some (Value.int .i64 d.c))
  have y1 := (j2_3.cell 1).trans (rfl : _ = some (Value.bool d.a))
  have y2 := (j2_3.cell 2).trans (rfl : _ = some (Value.slice (some ⟨g0, 0, none⟩) d.f.length d.f.length))
  have y3 := (j2_3.cell 3).trans (rfl : _ = some (Value.slice (some ⟨g1, 0, none⟩) d.l.length d.l.length))
  have y4 := (j2_3.cell 4).trans (rfl : _ = some (Value.slice (some ⟨g2, 0, none⟩) d.o.length d.o.length))
  have y5 := (j2_3.cell 5).trans (rfl : _ = some (Value.slice none 0 0))
  have f5 := j2_3.frozen 5
  have s0 := (j1_3.cell 0).trans (rfl : _ = some (Value.int .i64 0))
  have h0 := j1_3.frozen 0
  have s1 := (j1_3.cell 1).trans (rfl : _ = some (Value.bool false))
  have h1 := j1_3.frozen 1
  have s2 := (j1_3.cell 2).trans (rfl : _ = some (Value.slice none 0 0))
  have h2 := j1_3.frozen 2
  have s3 := (j1_3.cell 3).trans (rfl : _ = some (Value.slice none 0 0))
  have h3 := j1_3.frozen 3
  have s4 := (j1_3.cell 4).trans (rfl : _ = some (Value.slice none 0 0))
  have h4 := j1_3.frozen 4
  have s5 := (j1_3.cell 5).trans (rfl : _ = some (Value.slice none 0 0))
  have h5 := j1_3.frozen 5
  have OF := hide OV
  have BF := hide B_3
  clear OV B_3 j0_3 j1_3 j2_3 hR_3 n0_3 n1_3 n2_3 n3_3
  go_wp2
  have o4 := ((((((OF.out.set_ (b := w.heap.size + 1 + 1) (by omega) 5 (.slice (some ⟨g3, 0, none⟩) d.z.length d.z.length)).set_ (b := w.heap.size + 1) (by omega) 0 (Value.int .i64 d.c)).set_ (b := w.heap.size + 1) (by omega) 1 (Value.bool d.a)).set_ (b := w.heap.size + 1) (by omega) 2 (Value.slice (some ⟨g0, 0, none⟩) d.f.length d.f.length)).set_ (b := w.heap.size + 1) (by omega) 3 (Value.slice (some ⟨g1, 0, none⟩) d.l.length d.l.length)).set_ (b := w.heap.size + 1) (by omega) 4 (Value.slice (some ⟨g2, 0, none⟩) d.o.length d.o.length)).set_ (b := w.heap.size + 1) (by omega) 5 (Value.slice (some ⟨g3, 0, none⟩) d.z.length d.z.length)
  have b4 := ((((((BF.out.setCell (p := ⟨w.heap.size + 1 + 1, 5, none⟩) (by simp <;> omega) (.slice (some ⟨g3, 0, none⟩) d.z.length d.z.length)).setCell (p := ⟨w.heap.size + 1, 0, none⟩) (by simp <;> omega) (Value.int .i64 d.c)).setCell (p := ⟨w.heap.size + 1, 1, none⟩) (by simp <;> omega) (Value.bool d.a)).setCell (p := ⟨w.heap.size + 1, 2, none⟩) (by simp <;> omega) (Value.slice (some ⟨g0, 0, none⟩) d.f.length d.f.length)).setCell (p := ⟨w.heap.size + 1, 3, none⟩) (by simp <;> omega) (Value.slice (some ⟨g1, 0, none⟩) d.l.length d.l.length)).setCell (p := ⟨w.heap.size + 1, 4, none⟩) (by simp <;> omega) (Value.slice (some ⟨g2, 0, none⟩) d.o.length d.o.length)).setCell (p := ⟨w.heap.size + 1, 5, none⟩) (by simp <;> omega) (Value.slice (some ⟨g3, 0, none⟩) d.z.length d.z.length)
  refine bodyPost_ret (v := vdV d (some ⟨g0, 0, none⟩) d.f.length (some ⟨g1, 0, none⟩) d.l.length (some ⟨g2, 0, none⟩) d.o.length (some ⟨g3, 0, none⟩) d.z.length) (by simp [results, Try.results27, go_sem, s0, s1, s2, s3, s4, s5]) rfl ?_
  exact ⟨g0, g1, g2, g3, us, rfl, o4.mono (by omega), b4⟩
end Go.Proofs.Ytnnfkmjhaljplaa
