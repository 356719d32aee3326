/- Contracts of SameVerdicts, in the program and in its model. -/
import Derived.Test.YtnnfkmjhaljplaaVerS
import Derived.Test.YtnnfkmjhaljplaaSame
import Derived.Test.YtnnfkmjhaljplaaStpEq
import Derived.Test.YtnnfkmjhaljplaaGWls
namespace Go.Proofs.Ytnnfkmjhaljplaa
open Go.RowKit

def samI (l m : List Int) : Bool := decide (l = m)
theorem samI_not {l m : List Int} {k : Nat} (h1 : k < l.length) (h2 : k < m.length) (h : l[k] ≠ m[k]) : samI l m = false := decide_eq_false fun e => h (by subst e; rfl)
theorem samI_len {l m : List Int} (h : ¬ m.length = l.length) : samI l m = false := decide_eq_false fun e => h (by rw [e])
theorem samI_all {l m : List Int} (hl : m.length = l.length) (h : Upt l m l.length) : samI l m = true := decide_eq_true (h.all hl.symm)
noncomputable def samVd (d e : Vd) : Bool := (d.c == e.c) && ((d.a == e.a) && (sameB d.f e.f && (sameP d.l e.l && (sameO d.o e.o && samI d.z e.z))))
theorem samVd_c {d e : Vd} (h : ¬ d.c = e.c) : samVd d e = false := by unfold samVd; rw [beq_eq_false_iff_ne.2 h]; rfl
theorem samVd_a {d e : Vd} (h : (d.a == e.a) = false) : samVd d e = false := by unfold samVd; rw [h]; simp
theorem samVd_f {d e : Vd} (h : sameB d.f e.f = false) : samVd d e = false := by unfold samVd; rw [h]; simp
theorem samVd_l {d e : Vd} (h : sameP d.l e.l = false) : samVd d e = false := by unfold samVd; rw [h]; simp
theorem samVd_o {d e : Vd} (h : sameO d.o e.o = false) : samVd d e = false := by unfold samVd; rw [h]; simp
theorem samVd_z {d e : Vd} (hc : d.c = e.c) (ha : d.a = e.a) (hf : sameB d.f e.f = true) (hl : sameP d.l e.l = true) (ho : sameO d.o e.o = true) : samVd d e = samI d.z e.z := by unfold samVd; rw [hc, ha, hf, hl, ho]; simp

set_option maxRecDepth 100000 in
set_option maxHeartbeats 400000 in
theorem intEq_any (es fs : List Int) (A A' : Option Addr) (c c' : Nat) (w : World) (hm : es.length ≤ maxLen) (h : Rd .i64 w w.heap.size A es) (h' : Rd .i64 w w.heap.size A' fs) :
    Calls Try.prog 69 #[.slice A es.length c, .slice A' fs.length c'] w fun e w' => e = .returned (.bool (samI es fs)) ∧ Below w.heap.size w w' := by
  unfold maxLen at hm
  by_cases hlen : fs.length = es.length
  · have HS := hide (fun h => samI_all (l := es) (m := fs) hlen h)
    rw [hlen]
    have hfl : ∀ k : Nat, k < es.length → k < fs.length := fun k h => by omega
    have HF := hide hfl
    clear hfl hlen
    go_enter Try.func69, Try.ntmps69
    go_wp2
    go_loopw [13] (fun i wr => ∃ k : Nat, k ≤ es.length ∧ i = .int .i64 k ∧ Below w.heap.size w wr ∧ Hid (Upt es fs k)) (fun i _ => es.length - (intOf i).toNat)
    case atStart => exact ⟨0, Nat.zero_le _, rfl, Below.refl _ _, hide (Upt.zero es fs)⟩
    case round =>
      obtain ⟨k, hk, rfl, hb, HR⟩ := hrel
      by_cases hlt : k < es.length
      · obtain ⟨b, off, rfl, hbb, hc0⟩ := (h.below hb).get hlt
        obtain ⟨b', off', rfl, hbb', hd0⟩ := (h'.below hb).get (HF.out _ hlt)
        by_cases he : es[k] = fs[k]'(HF.out _ hlt)
        · have HE := hide (HR.out.step hlt he)
          rw [← he] at hd0
          clear he
          go_wp2
          go_quiet (fail)
          go_wp2
          go_roundw
          case rel => exact ⟨k + 1, by omega, by go_num, below_drewN hb _, HE⟩
          case measure => simp [intOf]; omega
        · have HE := hide (samI_not hlt (HF.out _ hlt) he)
          have f0 := beq_eq_false_iff_ne.2 he
          clear he
          go_wp2
          go_quiet (fail)
          go_wp2
          go_ret
          exact ⟨ret_bool HE.out.symm, below_drewN hb _⟩
      · obtain rfl : k = es.length := by omega
        go_wp2
        go_ret
        exact ⟨ret_bool (HS.out HR.out).symm, hb⟩
  · rw [samI_len hlen]
    have f0 : ((es.length : Int) == (fs.length : Int)) = false := beq_eq_false_iff_ne.2 (by omega)
    have f1 : ((es.length : Int) != (fs.length : Int)) = true := bne_iff_ne.2 (by omega)
    clear hlen
    go_enter Try.func69, Try.ntmps69
    go_wp2
    go_ret
    exact ⟨rfl, Below.refl _ _⟩
set_option maxRecDepth 100000 in
set_option maxHeartbeats 1600000 in
theorem implSV_any (d e : Vd) (A0 A1 A2 A3 Z0 Z1 Z2 Z3 : Option Addr) (c0 c1 c2 c3 e0 e1 e2 e3 : Nat) (w : World) (hn : LenVd maxLen d) (hf8 : B8 d.f) (kf8 : B8 e.f) (h : RdVd w w.heap.size A0 A1 A2 A3 d) (k : RdVd w w.heap.size Z0 Z1 Z2 Z3 e) :
    Calls Try.prog 28 #[vdV d A0 c0 A1 c1 A2 c2 A3 c3, vdV e Z0 e0 Z1 e1 Z2 e2 Z3 e3] w fun r w' => r = .returned (.bool (samVd d e)) ∧ Below w.heap.size w w' := by
  obtain ⟨W, hW⟩ : ∃ W, W = (w.alloc (Obj.cells #[.int .i64 d.c, .bool d.a, .slice A0 d.f.length c0, .slice A1 d.l.length c1, .slice A2 d.o.length c2, .slice A3 d.z.length c3] 56)).alloc (Obj.cells #[.int .i64 e.c, .bool e.a, .slice Z0 e.f.length e0, .slice Z1 e.l.length e1, .slice Z2 e.o.length e2, .slice Z3 e.z.length e3] 56) := ⟨_, rfl⟩
  obtain ⟨k1, k2, hz, B0⟩ := two_new _ _ _ _ _ W hW
  have hR := h.below B0
  have kR := k.below B0
  clear h k
  by_cases hc : d.c = e.c
  · by_cases ha : d.a = e.a
    · have HC := hide (And.intro hc ha)
      rw [← hc, ← ha] at k2 hW
      have HW := hide hW
      have ha0 : (d.a != d.a) = false := by simp
      have ha1 : (d.a == d.a) = true := by simp
      clear hW ha
      rw [show (vdV e Z0 e0 Z1 e1 Z2 e2 Z3 e3) = .agg #[.int .i64 d.c, .bool d.a, .slice Z0 e.f.length e0, .slice Z1 e.l.length e1, .slice Z2 e.o.length e2, .slice Z3 e.z.length e3] by rw [HC.out.1, HC.out.2]]
      clear hc
      go_enter Try.func28, Try.ntmps28
      have p0 := (k1.cell 2).trans (rfl : _ = some (Value.slice A0 d.f.length c0))
      have r0 := (k2.cell 2).trans (rfl : _ = some (Value.slice Z0 e.f.length e0))
      go_wp2_with fail
      rw [← HW.out]
      clear p0 r0
      refine (implSame_any d.f e.f A0 Z0 c0 e0 W hR.f.lt kR.f.lt hf8 kf8).mono ?_
      rintro r w1 ⟨rfl, rfl⟩
      cases hbf : sameB d.f e.f
      · clear k1 k2
        go_wp2
        go_ret
        exact ⟨ret_bool (samVd_f hbf).symm, B0⟩
      · skip
        have p1 := (k1.cell 3).trans (rfl : _ = some (Value.slice A1 d.l.length c1))
        have r1 := (k2.cell 3).trans (rfl : _ = some (Value.slice Z1 e.l.length e1))
        go_wp2_with fail
        clear p1 r1
        refine (implSL_any d.l e.l A1 Z1 c1 e1 W hn.l hR.l.lt kR.l.lt).mono ?_
        rintro r v1 ⟨rfl, b1⟩
        have B1 := B0.trans (b1.mono B0.size)
        replace k1 := k1.kept b1
        replace k2 := k2.kept b1
        replace hR := hR.below (b1.mono (by have := B0.size; omega))
        replace kR := kR.below (b1.mono (by have := B0.size; omega))
        clear b1
        cases hbl : sameP d.l e.l
        · skip
          go_wp2
          go_ret
          exact ⟨ret_bool (samVd_l hbl).symm, B1⟩
        · skip
          have p2 := (k1.cell 4).trans (rfl : _ = some (Value.slice A2 d.o.length c2))
          have r2 := (k2.cell 4).trans (rfl : _ = some (Value.slice Z2 e.o.length e2))
          go_wp2_with fail
          clear p2 r2
          refine (implSO_any d.o e.o A2 Z2 c2 e2 v1 hn.o hR.o.lt kR.o.lt).mono ?_
          rintro r v2 ⟨rfl, b2⟩
          have B2 := B1.trans (b2.mono B1.size)
          replace k1 := k1.kept b2
          replace k2 := k2.kept b2
          replace hR := hR.below (b2.mono (by have := B1.size; omega))
          replace kR := kR.below (b2.mono (by have := B1.size; omega))
          clear b2
          cases hbo : sameO d.o e.o
          · skip
            go_wp2
            go_ret
            exact ⟨ret_bool (samVd_o hbo).symm, B2⟩
          · skip
            have HZ := hide (samVd_z HC.out.1 HC.out.2 hbf hbl hbo)
            have p3 := (k1.cell 5).trans (rfl : _ = some (Value.slice A3 d.z.length c3))
            have r3 := (k2.cell 5).trans (rfl : _ = some (Value.slice Z3 e.z.length e3))
            go_wp2_with fail
            clear p3 r3
            refine (intEq_any d.z e.z A3 Z3 c3 e3 v2 hn.z hR.z.lt kR.z.lt).mono ?_
            rintro r v3 ⟨rfl, b3⟩
            go_wp2
            go_ret
            exact ⟨ret_bool HZ.out.symm, B2.trans (b3.mono B2.size)⟩
    · have HS := hide (samVd_a (d := d) (e := e) (beq_eq_false_iff_ne.2 ha))
      have hc0 : (d.c != e.c) = false := by rw [hc]; simp
      have HW := hide hW
      have ha0 : (d.a != e.a) = true := bne_iff_ne.2 ha
      have ha1 : (d.a == e.a) = false := beq_eq_false_iff_ne.2 ha
      clear hW ha hc
      go_enter Try.func28, Try.ntmps28
      go_wp2
      go_ret
      exact ⟨ret_bool HS.out.symm, ((Below.refl _ _).alloc (Nat.le_refl _) _).alloc (by simp) _⟩
  · have HS := hide (samVd_c (d := d) (e := e) hc)
    have hc0 : (d.c != e.c) = true := bne_iff_ne.2 hc
    have hc1 : (d.c == e.c) = false := beq_eq_false_iff_ne.2 hc
    have HW := hide hW
    clear hW hc
    go_enter Try.func28, Try.ntmps28
    go_wp2
    go_ret
    exact ⟨ret_bool HS.out.symm, ((Below.refl _ _).alloc (Nat.le_refl _) _).alloc (by simp) _⟩
set_option maxRecDepth 100000 in
set_option maxHeartbeats 1600000 in
theorem specSV_any (d e : Vd) (A0 A1 A2 A3 Z0 Z1 Z2 Z3 : Option Addr) (c0 c1 c2 c3 e0 e1 e2 e3 : Nat) (w : World) (hn : LenVd maxLen d) (hf8 : B8 d.f) (kf8 : B8 e.f) (h : RdVd w w.heap.size A0 A1 A2 A3 d) (k : RdVd w w.heap.size Z0 Z1 Z2 Z3 e) :
    Calls Try.prog 26 #[vdV d A0 c0 A1 c1 A2 c2 A3 c3, vdV e Z0 e0 Z1 e1 Z2 e2 Z3 e3] w fun r w' => r = .returned (.bool (samVd d e)) ∧ Below w.heap.size w w' := by
  obtain ⟨W, hW⟩ : ∃ W, W = (w.alloc (Obj.cells #[.int .i64 d.c, .bool d.a, .slice A0 d.f.length c0, .slice A1 d.l.length c1, .slice A2 d.o.length c2, .slice A3 d.z.length c3] 56)).alloc (Obj.cells #[.int .i64 e.c, .bool e.a, .slice Z0 e.f.length e0, .slice Z1 e.l.length e1, .slice Z2 e.o.length e2, .slice Z3 e.z.length e3] 56) := ⟨_, rfl⟩
  obtain ⟨k1, k2, hz, B0⟩ := two_new _ _ _ _ _ W hW
  have hR := h.below B0
  have kR := k.below B0
  clear h k
  by_cases hc : d.c = e.c
  · by_cases ha : d.a = e.a
    · have HC := hide (And.intro hc ha)
      rw [← hc, ← ha] at k2 hW
      have HW := hide hW
      have ha0 : (d.a != d.a) = false := by simp
      have ha1 : (d.a == d.a) = true := by simp
      clear hW ha
      rw [show (vdV e Z0 e0 Z1 e1 Z2 e2 Z3 e3) = .agg #[.int .i64 d.c, .bool d.a, .slice Z0 e.f.length e0, .slice Z1 e.l.length e1, .slice Z2 e.o.length e2, .slice Z3 e.z.length e3] by rw [HC.out.1, HC.out.2]]
      clear hc
      have s1 := run_str (P := Try.prog) c0 22 5 Try.underlying22 Try.underlying5 hR.f 9 Try.underlying9
      have s2 := run_str (P := Try.prog) e0 22 5 Try.underlying22 Try.underlying5 kR.f 9 Try.underlying9
      have sb := sameB_str hf8 kf8
      rw [HW.out] at s1 s2
      go_enter Try.func26, Try.ntmps26
      cases hbf : sameB d.f e.f
      · rw [hbf] at sb
        have sn : ((strOfNums d.f).toList != (strOfNums e.f).toList) = true := by unfold bne; rw [sb]; rfl
        have p0 := (k1.cell 2).trans (rfl : _ = some (Value.slice A0 d.f.length c0))
        have r0 := (k2.cell 2).trans (rfl : _ = some (Value.slice Z0 e.f.length e0))
        go_wp2
        go_ret
        exact ⟨ret_bool (samVd_f hbf).symm, ((Below.refl _ _).alloc (Nat.le_refl _) _).alloc (by simp) _⟩
      · skip
        rw [hbf] at sb
        have sn : ((strOfNums d.f).toList != (strOfNums e.f).toList) = false := by unfold bne; rw [sb]; rfl
        have p0 := (k1.cell 2).trans (rfl : _ = some (Value.slice A0 d.f.length c0))
        have r0 := (k2.cell 2).trans (rfl : _ = some (Value.slice Z0 e.f.length e0))
        have p1 := (k1.cell 3).trans (rfl : _ = some (Value.slice A1 d.l.length c1))
        have r1 := (k2.cell 3).trans (rfl : _ = some (Value.slice Z1 e.l.length e1))
        go_wp2_with fail
        rw [← HW.out]
        clear p1 r1
        clear p0 r0 s1 s2 sb sn
        refine (specSL_any d.l e.l A1 Z1 c1 e1 W hn.l hR.l.lt kR.l.lt).mono ?_
        rintro r v1 ⟨rfl, b1⟩
        have B1 := B0.trans (b1.mono B0.size)
        replace k1 := k1.kept b1
        replace k2 := k2.kept b1
        replace hR := hR.below (b1.mono (by have := B0.size; omega))
        replace kR := kR.below (b1.mono (by have := B0.size; omega))
        clear b1
        cases hbl : sameP d.l e.l
        · skip
          go_wp2
          go_ret
          exact ⟨ret_bool (samVd_l hbl).symm, B1⟩
        · skip
          have p2 := (k1.cell 4).trans (rfl : _ = some (Value.slice A2 d.o.length c2))
          have r2 := (k2.cell 4).trans (rfl : _ = some (Value.slice Z2 e.o.length e2))
          go_wp2_with fail
          clear p2 r2
          refine (specSO_any d.o e.o A2 Z2 c2 e2 v1 hn.o hR.o.lt kR.o.lt).mono ?_
          rintro r v2 ⟨rfl, b2⟩
          have B2 := B1.trans (b2.mono B1.size)
          replace k1 := k1.kept b2
          replace k2 := k2.kept b2
          replace hR := hR.below (b2.mono (by have := B1.size; omega))
          replace kR := kR.below (b2.mono (by have := B1.size; omega))
          clear b2
          cases hbo : sameO d.o e.o
          · skip
            go_wp2
            go_ret
            exact ⟨ret_bool (samVd_o hbo).symm, B2⟩
          · skip
            have HZ := hide (samVd_z HC.out.1 HC.out.2 hbf hbl hbo)
            have p3 := (k1.cell 5).trans (rfl : _ = some (Value.slice A3 d.z.length c3))
            have r3 := (k2.cell 5).trans (rfl : _ = some (Value.slice Z3 e.z.length e3))
            have hzn := hn.z
            unfold maxLen at hzn
            by_cases hlen : e.z.length = d.z.length
            · have hS := hide (fun h => samI_all (l := d.z) (m := e.z) hlen h)
              have hfl : ∀ k : Nat, k < d.z.length → k < e.z.length := fun k h => by omega
              have HF := hide hfl
              have hR3 := hide (And.intro hR.z kR.z)
              have HK := hide (And.intro k1 k2)
              have hzz := hz
              rw [hlen] at r3
              clear hfl hlen hR kR k1 k2 hn
              go_wp2
              clear p3 r3
              go_loopw [55] (fun i wr => ∃ k : Nat, k ≤ d.z.length ∧ i = .int .i64 k ∧ Below v2.heap.size v2 wr ∧ Hid (Upt d.z e.z k)) (fun i _ => d.z.length - (intOf i).toNat)
              case atStart => exact ⟨0, Nat.zero_le _, rfl, Below.refl _ _, hide (Upt.zero _ _)⟩
              case round =>
                obtain ⟨k, hk, rfl, hb, HR⟩ := hrel
                have p3 := ((HK.out.1.kept hb).cell 5).trans (rfl : _ = some (Value.slice A3 d.z.length c3))
                have r3 := ((HK.out.2.kept hb).cell 5).trans (rfl : _ = some (Value.slice Z3 e.z.length e3))
                by_cases hlt : k < d.z.length
                · have hlt2 := HF.out k hlt
                  obtain ⟨b, off, hA, hbb, hc0⟩ := (hR3.out.1.below (hb.mono (by have := B2.size; omega))).get hlt
                  obtain ⟨b', off', hA', hbb', hd0⟩ := (hR3.out.2.below (hb.mono (by have := B2.size; omega))).get hlt2
                  rw [hA] at p3
                  rw [hA'] at r3
                  clear hA hA'
                  by_cases he : d.z[k] = e.z[k]
                  · have HE := hide (HR.out.step hlt he)
                    rw [← he] at hd0
                    clear he
                    go_wp2
                    go_quiet (fail)
                    go_wp2
                    go_roundw
                    case rel => exact ⟨k + 1, by omega, by go_num, below_drewN hb _, HE⟩
                    case measure => simp [intOf]; omega
                  · have HE := hide (samI_not hlt hlt2 he)
                    have f0 := beq_eq_false_iff_ne.2 he
                    clear he
                    go_wp2
                    go_quiet (fail)
                    go_wp2
                    go_ret
                    exact ⟨ret_bool (HZ.out.trans HE.out).symm, B2.trans ((below_drewN hb _).mono B2.size)⟩
                · obtain rfl : k = d.z.length := by omega
                  clear p3 r3
                  go_wp2
                  go_ret
                  exact ⟨ret_bool (HZ.out.trans (hS.out HR.out)).symm, B2.trans (hb.mono B2.size)⟩
            · have HE := hide (samI_len hlen)
              have f0 : ((d.z.length : Int) == (e.z.length : Int)) = false := beq_eq_false_iff_ne.2 (by omega)
              have f1 : ((d.z.length : Int) != (e.z.length : Int)) = true := bne_iff_ne.2 (by omega)
              clear hlen k1 k2
              go_wp2
              go_ret
              exact ⟨ret_bool (HZ.out.trans HE.out).symm, B2⟩
    · have HS := hide (samVd_a (d := d) (e := e) (beq_eq_false_iff_ne.2 ha))
      have hc0 : (d.c != e.c) = false := by rw [hc]; simp
      have HW := hide hW
      have ha0 : (d.a != e.a) = true := bne_iff_ne.2 ha
      have ha1 : (d.a == e.a) = false := beq_eq_false_iff_ne.2 ha
      clear hW ha hc
      go_enter Try.func26, Try.ntmps26
      go_wp2
      go_ret
      exact ⟨ret_bool HS.out.symm, ((Below.refl _ _).alloc (Nat.le_refl _) _).alloc (by simp) _⟩
  · have HS := hide (samVd_c (d := d) (e := e) hc)
    have hc0 : (d.c != e.c) = true := bne_iff_ne.2 hc
    have hc1 : (d.c == e.c) = false := beq_eq_false_iff_ne.2 hc
    have HW := hide hW
    clear hW hc
    go_enter Try.func26, Try.ntmps26
    go_wp2
    go_ret
    exact ⟨ret_bool HS.out.symm, ((Below.refl _ _).alloc (Nat.le_refl _) _).alloc (by simp) _⟩
end Go.Proofs.Ytnnfkmjhaljplaa
