/- The walk of the exact law of SameVerdicts. -/
import Derived.Test.YtnnfkmjhaljplaaVerQ
import Derived.Deep.RegionHeld3
import Derived.Deep.DeepCutAuto
namespace Go.Proofs.Ytnnfkmjhaljplaa
open Go.RowKit

set_option maxRecDepth 100000 in
set_option maxHeartbeats 3200000 in
theorem FnExactSameVerdicts_walk (m n : Vd) (A0 A1 A2 A3 Z0 Z1 Z2 Z3 : Option Addr) (c0 c1 c2 c3 e0 e1 e2 e3 : Nat) (w : World) (hm : LenVd maxLen m) (hb8 : B8 m.f) (h : RdVd w w.heap.size A0 A1 A2 A3 m) (hm' : LenVd maxLen n) (hb8' : B8 n.f) (h' : RdVd w w.heap.size Z0 Z1 Z2 Z3 n) :
    Calls Try.prog 5 #[vdV m A0 c0 A1 c1 A2 c2 A3 c3, vdV n Z0 e0 Z1 e1 Z2 e2 Z3 e3] w fun e w' => e = .returned (.bool true) ∧ Below w.heap.size w w' := by
  obtain ⟨W, hW⟩ : ∃ W, W = (w.alloc (Obj.cells #[Value.int .i64 m.c, Value.bool m.a, Value.slice A0 m.f.length c0, Value.slice A1 m.l.length c1, Value.slice A2 m.o.length c2, Value.slice A3 m.z.length c3] 52)).alloc (Obj.cells #[Value.int .i64 n.c, Value.bool n.a, Value.slice Z0 n.f.length e0, Value.slice Z1 n.l.length e1, Value.slice Z2 n.o.length e2, Value.slice Z3 n.z.length e3] 52) := ⟨_, rfl⟩
  have HW := hide hW
  obtain ⟨K, K', hz, B⟩ := two_new _ _ _ _ _ W hW
  clear hW
  by_cases hS : sizV m ≤ 1048576
  · by_cases hS2 : sizV n ≤ 1048576 - sizV m
    · obtain ⟨F, hF⟩ : ∃ F, F = samVd m n := ⟨_, rfl⟩
      have SP := hide (fun A0 A1 A2 A3 Z0 Z1 Z2 Z3 c0 c1 c2 c3 e0 e1 e2 e3 w hR hR' => specSV_any m n A0 A1 A2 A3 Z0 Z1 Z2 Z3 c0 c1 c2 c3 e0 e1 e2 e3 w hm hb8 hb8' hR hR')
      have IM := hide (fun A0 A1 A2 A3 Z0 Z1 Z2 Z3 c0 c1 c2 c3 e0 e1 e2 e3 w hR hR' => implSV_any m n A0 A1 A2 A3 Z0 Z1 Z2 Z3 c0 c1 c2 c3 e0 e1 e2 e3 w hm hb8 hb8' hR hR')
      rw [← hF] at SP IM
      clear hF
      have R := h.below B
      have R' := h'.below B
      have TO := hide (fun W (hW : RdVd W W.heap.size A0 A1 A2 A3 m) => toVerdict_own m A0 A1 A2 A3 c0 c1 c2 c3 W hS hW)
      have TP := hide (fun W (hW : RdVd W W.heap.size Z0 Z1 Z2 Z3 n) => toVerdict_own n Z0 Z1 Z2 Z3 e0 e1 e2 e3 W (by omega) hW)
      go_enter Try.func5, Try.ntmps5
      have zW := B.size
      go_wp2_with fail
      rw [← HW.out]
      refine (szVerdict_fit m A0 A1 A2 A3 c0 c1 c2 c3 1048576 _ hS (Nat.le_refl _) (R.more (by omega))).mono ?_
      rintro e w1 ⟨rfl, b_1⟩
      have z_1 := Below.size b_1
      replace K := K.kept b_1
      replace K' := K'.kept b_1
      replace B := B.trans (b_1.mono B.size)
      replace R := R.below (b_1.mono (by omega))
      replace R' := R'.below (b_1.mono (by omega))
      clear b_1
      have q0_0 := (K'.cell 0).trans (rfl : _ = some (Value.int .i64 n.c))
      have q0_1 := (K'.cell 1).trans (rfl : _ = some (Value.bool n.a))
      have q0_2 := (K'.cell 2).trans (rfl : _ = some (Value.slice Z0 n.f.length e0))
      have q0_3 := (K'.cell 3).trans (rfl : _ = some (Value.slice Z1 n.l.length e1))
      have q0_4 := (K'.cell 4).trans (rfl : _ = some (Value.slice Z2 n.o.length e2))
      have q0_5 := (K'.cell 5).trans (rfl : _ = some (Value.slice Z3 n.z.length e3))
      go_wp2_with fail
      refine (szVerdict_fit n Z0 Z1 Z2 Z3 e0 e1 e2 e3 (1048576 - sizV m) _ hS2 (by omega) (R'.more (by omega))).mono ?_
      rintro e w2 ⟨rfl, b_2⟩
      clear q0_0 q0_1 q0_2 q0_3 q0_4 q0_5
      have z_2 := Below.size b_2
      replace K := K.kept b_2
      replace K' := K'.kept b_2
      replace B := B.trans (b_2.mono B.size)
      replace R := R.below (b_2.mono (by omega))
      replace R' := R'.below (b_2.mono (by omega))
      clear b_2
      have q0_0 := (K.cell 0).trans (rfl : _ = some (Value.int .i64 m.c))
      have q0_1 := (K.cell 1).trans (rfl : _ = some (Value.bool m.a))
      have q0_2 := (K.cell 2).trans (rfl : _ = some (Value.slice A0 m.f.length c0))
      have q0_3 := (K.cell 3).trans (rfl : _ = some (Value.slice A1 m.l.length c1))
      have q0_4 := (K.cell 4).trans (rfl : _ = some (Value.slice A2 m.o.length c2))
      have q0_5 := (K.cell 5).trans (rfl : _ = some (Value.slice A3 m.z.length c3))
      have q1_0 := (K'.cell 0).trans (rfl : _ = some (Value.int .i64 n.c))
      have q1_1 := (K'.cell 1).trans (rfl : _ = some (Value.bool n.a))
      have q1_2 := (K'.cell 2).trans (rfl : _ = some (Value.slice Z0 n.f.length e0))
      have q1_3 := (K'.cell 3).trans (rfl : _ = some (Value.slice Z1 n.l.length e1))
      have q1_4 := (K'.cell 4).trans (rfl : _ = some (Value.slice Z2 n.o.length e2))
      have q1_5 := (K'.cell 5).trans (rfl : _ = some (Value.slice Z3 n.z.length e3))
      go_wp2_with fail
      go_cut [6] (fun s wx => s = .bool F ∧ Below w2.heap.size w2 wx)
      case first =>
        go_region_held3 (fun w' => w'.cell? ⟨w.heap.size, 0, none⟩ = some (Value.int .i64 m.c) ∧ w'.cell? ⟨w.heap.size, 1, none⟩ = some (Value.bool m.a) ∧ w'.cell? ⟨w.heap.size, 2, none⟩ = some (Value.slice A0 m.f.length c0) ∧ w'.cell? ⟨w.heap.size, 3, none⟩ = some (Value.slice A1 m.l.length c1) ∧ w'.cell? ⟨w.heap.size, 4, none⟩ = some (Value.slice A2 m.o.length c2) ∧ w'.cell? ⟨w.heap.size, 5, none⟩ = some (Value.slice A3 m.z.length c3) ∧ w'.cell? ⟨w.heap.size + 1, 0, none⟩ = some (Value.int .i64 n.c) ∧ w'.cell? ⟨w.heap.size + 1, 1, none⟩ = some (Value.bool n.a) ∧ w'.cell? ⟨w.heap.size + 1, 2, none⟩ = some (Value.slice Z0 n.f.length e0) ∧ w'.cell? ⟨w.heap.size + 1, 3, none⟩ = some (Value.slice Z1 n.l.length e1) ∧ w'.cell? ⟨w.heap.size + 1, 4, none⟩ = some (Value.slice Z2 n.o.length e2) ∧ w'.cell? ⟨w.heap.size + 1, 5, none⟩ = some (Value.slice Z3 n.z.length e3) ∧ Below w2.heap.size w2 w')
          (first | assumption | exact ⟨q0_0, q0_1, q0_2, q0_3, q0_4, q0_5, q1_0, q1_1, q1_2, q1_3, q1_4, q1_5, (Below.refl _ _).drew⟩ | (go_split_ands; exact ⟨cell_kept (by assumption) (by assumption), cell_kept (by assumption) (by assumption), cell_kept (by assumption) (by assumption), cell_kept (by assumption) (by assumption), cell_kept (by assumption) (by assumption), cell_kept (by assumption) (by assumption), cell_kept (by assumption) (by assumption), cell_kept (by assumption) (by assumption), cell_kept (by assumption) (by assumption), cell_kept (by assumption) (by assumption), cell_kept (by assumption) (by assumption), cell_kept (by assumption) (by assumption), Below.trans (by assumption) (Below.mono (by assumption) (Below.size (by assumption)))⟩))
          (first
            | (go_at_call 27; (with_reducible refine (TO.out _ ?_).mono ?_); (go_split_ands; exact (R.below ((by assumption : Below w2.heap.size w2 _).mono (by omega))).more (by have := Below.size (by assumption : Below w2.heap.size w2 _); omega)); rintro e wa ⟨ga0, ga1, ga2, ga3, usa, rfl, oa, ba⟩)
            | (go_at_call 27; (with_reducible refine (TP.out _ ?_).mono ?_); (go_split_ands; exact (R'.below ((by assumption : Below w2.heap.size w2 _).mono (by omega))).more (by have := Below.size (by assumption : Below w2.heap.size w2 _); omega)); rintro e wb ⟨gb0, gb1, gb2, gb3, usb, rfl, ob, bb⟩)
            | (go_at_call 26; refine (SP.out _ _ _ _ _ _ _ _ _ _ _ _ _ _ _ _ _ ?_ ?_).mono ?_; (first | exact oa.rd | exact (oa.rd.below bb).lt); (first | exact ob.rd | exact (ob.rd.below ba).lt); rintro e wc ⟨rfl, bc⟩))
        all_goals
          go_wp2_with fail
          go_meet
          exact ⟨rfl, by go_split_ands; assumption⟩
      case rest =>
        obtain ⟨rfl, C_⟩ := hcut
        clear q0_0 q0_1 q0_2 q0_3 q0_4 q0_5 q1_0 q1_1 q1_2 q1_3 q1_4 q1_5
        have z_3 := Below.size C_
        replace K := K.kept C_
        replace K' := K'.kept C_
        replace B := B.trans (C_.mono B.size)
        replace R := R.below (C_.mono (by omega))
        replace R' := R'.below (C_.mono (by omega))
        clear C_
        have q0_0 := (K.cell 0).trans (rfl : _ = some (Value.int .i64 m.c))
        have q0_1 := (K.cell 1).trans (rfl : _ = some (Value.bool m.a))
        have q0_2 := (K.cell 2).trans (rfl : _ = some (Value.slice A0 m.f.length c0))
        have q0_3 := (K.cell 3).trans (rfl : _ = some (Value.slice A1 m.l.length c1))
        have q0_4 := (K.cell 4).trans (rfl : _ = some (Value.slice A2 m.o.length c2))
        have q0_5 := (K.cell 5).trans (rfl : _ = some (Value.slice A3 m.z.length c3))
        go_wp2_with fail
        refine (TO.out _ (R.more (by omega))).mono ?_
        rintro e w4 ⟨g40, g41, g42, g43, us4, rfl, o4, b_4⟩
        clear q0_0 q0_1 q0_2 q0_3 q0_4 q0_5
        have z_4 := Below.size b_4
        replace K := K.kept b_4
        replace K' := K'.kept b_4
        replace B := B.trans (b_4.mono B.size)
        replace R := R.below (b_4.mono (by omega))
        replace R' := R'.below (b_4.mono (by omega))
        clear b_4
        have x4 := o4.rd
        clear o4
        have e_ := (Below.refl w4.heap.size w4).alloc (Nat.le_refl _) (Obj.cells #[Value.int .i64 m.c, Value.bool m.a, Value.slice (some ⟨g40, 0, none⟩) m.f.length m.f.length, Value.slice (some ⟨g41, 0, none⟩) m.l.length m.l.length, Value.slice (some ⟨g42, 0, none⟩) m.o.length m.o.length, Value.slice (some ⟨g43, 0, none⟩) m.z.length m.z.length] 56)
        have zz_4 : (w4.alloc (Obj.cells #[Value.int .i64 m.c, Value.bool m.a, Value.slice (some ⟨g40, 0, none⟩) m.f.length m.f.length, Value.slice (some ⟨g41, 0, none⟩) m.l.length m.l.length, Value.slice (some ⟨g42, 0, none⟩) m.o.length m.o.length, Value.slice (some ⟨g43, 0, none⟩) m.z.length m.z.length] 56)).heap.size = w4.heap.size + 1 := by simp
        have z_5 := Below.size e_
        replace K := K.kept e_
        replace K' := K'.kept e_
        replace B := B.trans (e_.mono B.size)
        replace R := R.below (e_.mono (by omega))
        replace R' := R'.below (e_.mono (by omega))
        replace x4 := (x4.below e_).lt
        clear e_
        have X := Bk.new w4 #[Value.int .i64 m.c, Value.bool m.a, Value.slice (some ⟨g40, 0, none⟩) m.f.length m.f.length, Value.slice (some ⟨g41, 0, none⟩) m.l.length m.l.length, Value.slice (some ⟨g42, 0, none⟩) m.o.length m.o.length, Value.slice (some ⟨g43, 0, none⟩) m.z.length m.z.length] 56
        have q0_0 := (K'.cell 0).trans (rfl : _ = some (Value.int .i64 n.c))
        have q0_1 := (K'.cell 1).trans (rfl : _ = some (Value.bool n.a))
        have q0_2 := (K'.cell 2).trans (rfl : _ = some (Value.slice Z0 n.f.length e0))
        have q0_3 := (K'.cell 3).trans (rfl : _ = some (Value.slice Z1 n.l.length e1))
        have q0_4 := (K'.cell 4).trans (rfl : _ = some (Value.slice Z2 n.o.length e2))
        have q0_5 := (K'.cell 5).trans (rfl : _ = some (Value.slice Z3 n.z.length e3))
        go_wp2_with fail
        refine (TP.out _ (R'.more (by omega))).mono ?_
        rintro e w6 ⟨g60, g61, g62, g63, us6, rfl, o6, b_6⟩
        have z_6 := Below.size b_6
        replace K := K.kept b_6
        replace K' := K'.kept b_6
        replace B := B.trans (b_6.mono B.size)
        replace R := R.below (b_6.mono (by omega))
        replace R' := R'.below (b_6.mono (by omega))
        replace x4 := (x4.below b_6).lt
        replace X := X.kept b_6
        clear b_6
        clear q0_0 q0_1 q0_2 q0_3 q0_4 q0_5
        have x6 := o6.rd
        clear o6
        have e_ := (Below.refl w6.heap.size w6).alloc (Nat.le_refl _) (Obj.cells #[Value.int .i64 n.c, Value.bool n.a, Value.slice (some ⟨g60, 0, none⟩) n.f.length n.f.length, Value.slice (some ⟨g61, 0, none⟩) n.l.length n.l.length, Value.slice (some ⟨g62, 0, none⟩) n.o.length n.o.length, Value.slice (some ⟨g63, 0, none⟩) n.z.length n.z.length] 56)
        have zz_6 : (w6.alloc (Obj.cells #[Value.int .i64 n.c, Value.bool n.a, Value.slice (some ⟨g60, 0, none⟩) n.f.length n.f.length, Value.slice (some ⟨g61, 0, none⟩) n.l.length n.l.length, Value.slice (some ⟨g62, 0, none⟩) n.o.length n.o.length, Value.slice (some ⟨g63, 0, none⟩) n.z.length n.z.length] 56)).heap.size = w6.heap.size + 1 := by simp
        have z_7 := Below.size e_
        replace K := K.kept e_
        replace K' := K'.kept e_
        replace B := B.trans (e_.mono B.size)
        replace R := R.below (e_.mono (by omega))
        replace R' := R'.below (e_.mono (by omega))
        replace x4 := (x4.below e_).lt
        replace X := X.kept e_
        replace x6 := (x6.below e_).lt
        clear e_
        have X' := Bk.new w6 #[Value.int .i64 n.c, Value.bool n.a, Value.slice (some ⟨g60, 0, none⟩) n.f.length n.f.length, Value.slice (some ⟨g61, 0, none⟩) n.l.length n.l.length, Value.slice (some ⟨g62, 0, none⟩) n.o.length n.o.length, Value.slice (some ⟨g63, 0, none⟩) n.z.length n.z.length] 56
        have q0_0 := (X.cell 0).trans (rfl : _ = some (Value.int .i64 m.c))
        have q0_1 := (X.cell 1).trans (rfl : _ = some (Value.bool m.a))
        have q0_2 := (X.cell 2).trans (rfl : _ = some (Value.slice (some ⟨g40, 0, none⟩) m.f.length m.f.length))
        have q0_3 := (X.cell 3).trans (rfl : _ = some (Value.slice (some ⟨g41, 0, none⟩) m.l.length m.l.length))
        have q0_4 := (X.cell 4).trans (rfl : _ = some (Value.slice (some ⟨g42, 0, none⟩) m.o.length m.o.length))
        have q0_5 := (X.cell 5).trans (rfl : _ = some (Value.slice (some ⟨g43, 0, none⟩) m.z.length m.z.length))
        go_wp2_with fail
        refine (IM.out _ _ _ _ _ _ _ _ _ _ _ _ _ _ _ _ _ x4 x6).mono ?_
        rintro e w8 ⟨rfl, b_8⟩
        have z_8 := Below.size b_8
        replace K := K.kept b_8
        replace K' := K'.kept b_8
        replace B := B.trans (b_8.mono B.size)
        replace R := R.below (b_8.mono (by omega))
        replace R' := R'.below (b_8.mono (by omega))
        replace x4 := (x4.below b_8).lt
        replace X := X.kept b_8
        replace x6 := (x6.below b_8).lt
        replace X' := X'.kept b_8
        clear b_8
        clear q0_0 q0_1 q0_2 q0_3 q0_4 q0_5
        have hbb : (F != F) = false := by simp
        have EQ := hide (fun A0 A1 A2 A3 Z0 Z1 Z2 Z3 c0 c1 c2 c3 e0 e1 e2 e3 W hW hW' => eqVerdict_same m A0 A1 A2 A3 Z0 Z1 Z2 Z3 c0 c1 c2 c3 e0 e1 e2 e3 W hm hW hW')
        have EP := hide (fun A0 A1 A2 A3 Z0 Z1 Z2 Z3 c0 c1 c2 c3 e0 e1 e2 e3 W hW hW' => eqVerdict_same n A0 A1 A2 A3 Z0 Z1 Z2 Z3 c0 c1 c2 c3 e0 e1 e2 e3 W hm' hW hW')
        have q0_0 := (X.cell 0).trans (rfl : _ = some (Value.int .i64 m.c))
        have q0_1 := (X.cell 1).trans (rfl : _ = some (Value.bool m.a))
        have q0_2 := (X.cell 2).trans (rfl : _ = some (Value.slice (some ⟨g40, 0, none⟩) m.f.length m.f.length))
        have q0_3 := (X.cell 3).trans (rfl : _ = some (Value.slice (some ⟨g41, 0, none⟩) m.l.length m.l.length))
        have q0_4 := (X.cell 4).trans (rfl : _ = some (Value.slice (some ⟨g42, 0, none⟩) m.o.length m.o.length))
        have q0_5 := (X.cell 5).trans (rfl : _ = some (Value.slice (some ⟨g43, 0, none⟩) m.z.length m.z.length))
        have q1_0 := (K.cell 0).trans (rfl : _ = some (Value.int .i64 m.c))
        have q1_1 := (K.cell 1).trans (rfl : _ = some (Value.bool m.a))
        have q1_2 := (K.cell 2).trans (rfl : _ = some (Value.slice A0 m.f.length c0))
        have q1_3 := (K.cell 3).trans (rfl : _ = some (Value.slice A1 m.l.length c1))
        have q1_4 := (K.cell 4).trans (rfl : _ = some (Value.slice A2 m.o.length c2))
        have q1_5 := (K.cell 5).trans (rfl : _ = some (Value.slice A3 m.z.length c3))
        go_wp2_with fail
        go_cut [39] (fun s wx => s = .bool false ∧ Below w8.heap.size w8 wx)
        case first =>
          go_region_held3 (fun w' => w'.cell? ⟨w4.heap.size, 0, none⟩ = some (Value.int .i64 m.c) ∧ w'.cell? ⟨w4.heap.size, 1, none⟩ = some (Value.bool m.a) ∧ w'.cell? ⟨w4.heap.size, 2, none⟩ = some (Value.slice (some ⟨g40, 0, none⟩) m.f.length m.f.length) ∧ w'.cell? ⟨w4.heap.size, 3, none⟩ = some (Value.slice (some ⟨g41, 0, none⟩) m.l.length m.l.length) ∧ w'.cell? ⟨w4.heap.size, 4, none⟩ = some (Value.slice (some ⟨g42, 0, none⟩) m.o.length m.o.length) ∧ w'.cell? ⟨w4.heap.size, 5, none⟩ = some (Value.slice (some ⟨g43, 0, none⟩) m.z.length m.z.length) ∧ w'.cell? ⟨w.heap.size, 0, none⟩ = some (Value.int .i64 m.c) ∧ w'.cell? ⟨w.heap.size, 1, none⟩ = some (Value.bool m.a) ∧ w'.cell? ⟨w.heap.size, 2, none⟩ = some (Value.slice A0 m.f.length c0) ∧ w'.cell? ⟨w.heap.size, 3, none⟩ = some (Value.slice A1 m.l.length c1) ∧ w'.cell? ⟨w.heap.size, 4, none⟩ = some (Value.slice A2 m.o.length c2) ∧ w'.cell? ⟨w.heap.size, 5, none⟩ = some (Value.slice A3 m.z.length c3) ∧ Below w8.heap.size w8 w')
            (first | assumption | exact ⟨q0_0, q0_1, q0_2, q0_3, q0_4, q0_5, q1_0, q1_1, q1_2, q1_3, q1_4, q1_5, (Below.refl _ _).drew⟩ | (go_split_ands; exact ⟨cell_kept (by assumption) (by assumption), cell_kept (by assumption) (by assumption), cell_kept (by assumption) (by assumption), cell_kept (by assumption) (by assumption), cell_kept (by assumption) (by assumption), cell_kept (by assumption) (by assumption), cell_kept (by assumption) (by assumption), cell_kept (by assumption) (by assumption), cell_kept (by assumption) (by assumption), cell_kept (by assumption) (by assumption), cell_kept (by assumption) (by assumption), cell_kept (by assumption) (by assumption), Below.trans (by assumption) (Below.mono (by assumption) (Below.size (by assumption)))⟩))
            (first
              | (go_at_call 27; (with_reducible refine (TO.out _ ?_).mono ?_); (go_split_ands; exact (R.below ((by assumption : Below w8.heap.size w8 _).mono (by omega))).more (by have := Below.size (by assumption : Below w8.heap.size w8 _); omega)); rintro e wa ⟨ga0, ga1, ga2, ga3, usa, rfl, oa, ba⟩)
              | (go_at_call 29; refine (EQ.out _ _ _ _ _ _ _ _ _ _ _ _ _ _ _ _ _ ?_ ?_).mono ?_; (go_split_ands; exact (x4.below (by assumption)).lt); exact OwnVd.rd (by assumption); rintro e wa ⟨rfl, ba⟩))
          go_wp2_with fail
          go_meet
          exact ⟨rfl, by go_split_ands; assumption⟩
        case rest =>
          obtain ⟨rfl, C_⟩ := hcut
          clear q0_0 q0_1 q0_2 q0_3 q0_4 q0_5 q1_0 q1_1 q1_2 q1_3 q1_4 q1_5
          have z_9 := Below.size C_
          replace K := K.kept C_
          replace K' := K'.kept C_
          replace B := B.trans (C_.mono B.size)
          replace R := R.below (C_.mono (by omega))
          replace R' := R'.below (C_.mono (by omega))
          replace x4 := (x4.below C_).lt
          replace X := X.kept C_
          replace x6 := (x6.below C_).lt
          replace X' := X'.kept C_
          clear C_
          clear X K x4
          have q0_0 := (X'.cell 0).trans (rfl : _ = some (Value.int .i64 n.c))
          have q0_1 := (X'.cell 1).trans (rfl : _ = some (Value.bool n.a))
          have q0_2 := (X'.cell 2).trans (rfl : _ = some (Value.slice (some ⟨g60, 0, none⟩) n.f.length n.f.length))
          have q0_3 := (X'.cell 3).trans (rfl : _ = some (Value.slice (some ⟨g61, 0, none⟩) n.l.length n.l.length))
          have q0_4 := (X'.cell 4).trans (rfl : _ = some (Value.slice (some ⟨g62, 0, none⟩) n.o.length n.o.length))
          have q0_5 := (X'.cell 5).trans (rfl : _ = some (Value.slice (some ⟨g63, 0, none⟩) n.z.length n.z.length))
          have q1_0 := (K'.cell 0).trans (rfl : _ = some (Value.int .i64 n.c))
          have q1_1 := (K'.cell 1).trans (rfl : _ = some (Value.bool n.a))
          have q1_2 := (K'.cell 2).trans (rfl : _ = some (Value.slice Z0 n.f.length e0))
          have q1_3 := (K'.cell 3).trans (rfl : _ = some (Value.slice Z1 n.l.length e1))
          have q1_4 := (K'.cell 4).trans (rfl : _ = some (Value.slice Z2 n.o.length e2))
          have q1_5 := (K'.cell 5).trans (rfl : _ = some (Value.slice Z3 n.z.length e3))
          go_wp2_with fail
          go_cut [44] (fun s wx => s = .bool false ∧ Below wc.heap.size wc wx)
          case first =>
            go_region_held3 (fun w' => w'.cell? ⟨w6.heap.size, 0, none⟩ = some (Value.int .i64 n.c) ∧ w'.cell? ⟨w6.heap.size, 1, none⟩ = some (Value.bool n.a) ∧ w'.cell? ⟨w6.heap.size, 2, none⟩ = some (Value.slice (some ⟨g60, 0, none⟩) n.f.length n.f.length) ∧ w'.cell? ⟨w6.heap.size, 3, none⟩ = some (Value.slice (some ⟨g61, 0, none⟩) n.l.length n.l.length) ∧ w'.cell? ⟨w6.heap.size, 4, none⟩ = some (Value.slice (some ⟨g62, 0, none⟩) n.o.length n.o.length) ∧ w'.cell? ⟨w6.heap.size, 5, none⟩ = some (Value.slice (some ⟨g63, 0, none⟩) n.z.length n.z.length) ∧ w'.cell? ⟨w.heap.size + 1, 0, none⟩ = some (Value.int .i64 n.c) ∧ w'.cell? ⟨w.heap.size + 1, 1, none⟩ = some (Value.bool n.a) ∧ w'.cell? ⟨w.heap.size + 1, 2, none⟩ = some (Value.slice Z0 n.f.length e0) ∧ w'.cell? ⟨w.heap.size + 1, 3, none⟩ = some (Value.slice Z1 n.l.length e1) ∧ w'.cell? ⟨w.heap.size + 1, 4, none⟩ = some (Value.slice Z2 n.o.length e2) ∧ w'.cell? ⟨w.heap.size + 1, 5, none⟩ = some (Value.slice Z3 n.z.length e3) ∧ Below wc.heap.size wc w')
              (first | assumption | exact ⟨q0_0, q0_1, q0_2, q0_3, q0_4, q0_5, q1_0, q1_1, q1_2, q1_3, q1_4, q1_5, (Below.refl _ _).drew⟩ | (go_split_ands; exact ⟨cell_kept (by assumption) (by assumption), cell_kept (by assumption) (by assumption), cell_kept (by assumption) (by assumption), cell_kept (by assumption) (by assumption), cell_kept (by assumption) (by assumption), cell_kept (by assumption) (by assumption), cell_kept (by assumption) (by assumption), cell_kept (by assumption) (by assumption), cell_kept (by assumption) (by assumption), cell_kept (by assumption) (by assumption), cell_kept (by assumption) (by assumption), cell_kept (by assumption) (by assumption), Below.trans (by assumption) (Below.mono (by assumption) (Below.size (by assumption)))⟩))
              (first
                | (go_at_call 27; (with_reducible refine (TP.out _ ?_).mono ?_); (go_split_ands; exact (R'.below ((by assumption : Below wc.heap.size wc _).mono (by omega))).more (by have := Below.size (by assumption : Below wc.heap.size wc _); omega)); rintro e wa ⟨ga0, ga1, ga2, ga3, usa, rfl, oa, ba⟩)
                | (go_at_call 29; refine (EP.out _ _ _ _ _ _ _ _ _ _ _ _ _ _ _ _ _ ?_ ?_).mono ?_; (go_split_ands; exact (x6.below (by assumption)).lt); exact OwnVd.rd (by assumption); rintro e wa ⟨rfl, ba⟩))
            go_wp2_with fail
            go_meet
            exact ⟨rfl, by go_split_ands; assumption⟩
          case rest =>
            obtain ⟨rfl, C_⟩ := hcut
            clear q0_0 q0_1 q0_2 q0_3 q0_4 q0_5 q1_0 q1_1 q1_2 q1_3 q1_4 q1_5
            have z_10 := Below.size C_
            replace K' := K'.kept C_
            replace B := B.trans (C_.mono B.size)
            replace R := R.below (C_.mono (by omega))
            replace R' := R'.below (C_.mono (by omega))
            replace x6 := (x6.below C_).lt
            replace X' := X'.kept C_
            clear C_
            go_wp2
            go_ret
            exact ⟨rfl, B⟩
    · go_enter Try.func5, Try.ntmps5
      go_wp2_with fail
      rw [← HW.out]
      refine (szVerdict_fit m A0 A1 A2 A3 c0 c1 c2 c3 1048576 _ hS (Nat.le_refl _) (h.below B).lt).mono ?_
      rintro e w1 ⟨rfl, b1⟩
      have J1 := K'.kept b1
      have B1 := B.trans (b1.mono B.size)
      have q0 := (J1.cell 0).trans (rfl : _ = some (Value.int .i64 n.c))
      have q1 := (J1.cell 1).trans (rfl : _ = some (Value.bool n.a))
      have q2 := (J1.cell 2).trans (rfl : _ = some (Value.slice Z0 n.f.length e0))
      have q3 := (J1.cell 3).trans (rfl : _ = some (Value.slice Z1 n.l.length e1))
      have q4 := (J1.cell 4).trans (rfl : _ = some (Value.slice Z2 n.o.length e2))
      have q5 := (J1.cell 5).trans (rfl : _ = some (Value.slice Z3 n.z.length e3))
      go_wp2_with fail
      refine (szVerdict_not n Z0 Z1 Z2 Z3 e0 e1 e2 e3 (1048576 - sizV m) _ (by omega) (by omega) hm' (h'.below B1).lt).mono ?_
      rintro e w2 ⟨rfl, b2⟩
      go_wp2
      go_ret
      exact ⟨rfl, B1.trans (b2.mono B1.size)⟩
  · go_enter Try.func5, Try.ntmps5
    go_wp2_with fail
    rw [← HW.out]
    refine (szVerdict_not m A0 A1 A2 A3 c0 c1 c2 c3 1048576 _ (by omega) (Nat.le_refl _) hm (h.below B).lt).mono ?_
    rintro e w1 ⟨rfl, b1⟩
    go_wp2
    go_ret
    exact ⟨rfl, B.trans (b1.mono B.size)⟩
end Go.Proofs.Ytnnfkmjhaljplaa
