/- The walk of the exact law of ValueAt. -/
import Derived.Test.YtifijhfeeammkaaValI
import Derived.Test.YtifijhfeeammkaaMacFit
import Derived.Test.YtifijhfeeammkaaMsiV
import Derived.Deep.RegionHeld3
import Derived.Deep.DeepCutAuto
namespace Go.Proofs.Ytifijhfeeammkaa
open Go.RowKit

set_option maxRecDepth 100000 in
set_option maxHeartbeats 1600000 in
theorem FnExactValueAt_walk (m : Mac) (A A' : Option Addr) (c c' : Nat) (ad : Int) (w : World) (hc : m.cs.length ≤ maxLen) (hm : m.mem.length ≤ maxLen) (h : RdMac w w.heap.size A A' m) :
    Calls Try.prog 10 #[macV A m.cs.length c A' m.mem.length c', .int .i64 ad] w fun e w' => e = .returned (.bool true) ∧ Below w.heap.size w w' := by
  by_cases hS : sizM m ≤ 1048576
  · have HL := hide (mac_fit hS (Nat.le_refl _))
    obtain ⟨va, hva⟩ : ∃ x, x = vaC ad (macF m) := ⟨_, rfl⟩
    obtain ⟨vb, hvb⟩ : ∃ x, x = vaV m ad (macF m) := ⟨_, rfl⟩
    have SP := hide (fun A A' c c' w => specValueAt_any m A A' c c' ad w hc hm)
    have IM := hide (fun A A' c c' w => implValueAt_any m A A' c c' ad w hc hm)
    rw [← hva, ← hvb] at SP IM
    clear hva hvb
    have K := Bk.new w #[Value.slice A m.cs.length c, Value.slice A' m.mem.length c'] 73
    have B := (Below.refl w.heap.size w).alloc (Nat.le_refl _) (Obj.cells #[Value.slice A m.cs.length c, Value.slice A' m.mem.length c'] 73)
    have R := h.below B
    have zw : w.heap.size + 1 = (w.alloc (Obj.cells #[Value.slice A m.cs.length c, Value.slice A' m.mem.length c'] 73)).heap.size := by simp
    have TO := hide (fun W (hW : RdMac W W.heap.size A A' m) => toMachine_own m A A' c c' W HL.out.1 HL.out.2 hW)
    go_enter Try.func10, Try.ntmps10
    have q0_0 := (K.cell 0).trans (rfl : _ = some (Value.slice A m.cs.length c))
    have q0_1 := (K.cell 1).trans (rfl : _ = some (Value.slice A' m.mem.length c'))
    go_wp2_with fail
    refine (szMachine_fit m A A' c c' 1048576 _ hS (Nat.le_refl _) (R.more (by omega))).mono ?_
    rintro e w1 ⟨rfl, b_1⟩
    clear q0_0 q0_1
    have z_1 := Below.size b_1
    replace K := K.kept b_1
    replace B := B.trans (b_1.mono B.size)
    replace R := R.below (b_1.mono (by omega))
    clear b_1
    have q0_0 := (K.cell 0).trans (rfl : _ = some (Value.slice A m.cs.length c))
    have q0_1 := (K.cell 1).trans (rfl : _ = some (Value.slice A' m.mem.length c'))
    go_wp2_with fail
    refine (TO.out _ (R.more (by omega))).mono ?_
    rintro e w2 ⟨g2, g2p, us2, rfl, o2, b_2⟩
    clear q0_0 q0_1
    have z_2 := Below.size b_2
    replace K := K.kept b_2
    replace B := B.trans (b_2.mono B.size)
    replace R := R.below (b_2.mono (by omega))
    clear b_2
    have x2 := o2.rd
    clear o2
    go_wp2_with fail
    refine (SP.out _ _ _ _ _ x2).mono ?_
    rintro e w3 ⟨rfl, b_3⟩
    have z_3 := Below.size b_3
    replace K := K.kept b_3
    replace B := B.trans (b_3.mono B.size)
    replace R := R.below (b_3.mono (by omega))
    replace x2 := (x2.below b_3).lt
    clear b_3
    clear x2
    have e_ := (Below.refl w3.heap.size w3).alloc (Nat.le_refl _) (Obj.cells #[Value.int .i64 va, .int .i64 vb] 38)
    have zz_3 : (w3.alloc (Obj.cells #[Value.int .i64 va, .int .i64 vb] 38)).heap.size = w3.heap.size + 1 := by simp
    have z_4 := Below.size e_
    replace K := K.kept e_
    replace B := B.trans (e_.mono B.size)
    replace R := R.below (e_.mono (by omega))
    clear e_
    have Y := Bk.new w3 #[Value.int .i64 va, .int .i64 vb] 38
    have q_Y := Y.cell
    have q0_0 := (K.cell 0).trans (rfl : _ = some (Value.slice A m.cs.length c))
    have q0_1 := (K.cell 1).trans (rfl : _ = some (Value.slice A' m.mem.length c'))
    go_wp2_with fail
    clear q_Y
    refine (TO.out _ (R.more (by omega))).mono ?_
    rintro e w4 ⟨g4, g4p, us4, rfl, o4, b_4⟩
    have z_5 := Below.size b_4
    replace K := K.kept b_4
    replace B := B.trans (b_4.mono B.size)
    replace R := R.below (b_4.mono (by omega))
    replace Y := Y.kept b_4
    clear b_4
    clear q0_0 q0_1
    have x4 := o4.rd
    clear o4
    have e_ := (Below.refl w4.heap.size w4).alloc (Nat.le_refl _) (Obj.cells #[Value.slice (some ⟨g4, 0, none⟩) m.cs.length m.cs.length, Value.slice (some ⟨g4p, 0, none⟩) m.mem.length m.mem.length] 27)
    have zz_5 : (w4.alloc (Obj.cells #[Value.slice (some ⟨g4, 0, none⟩) m.cs.length m.cs.length, Value.slice (some ⟨g4p, 0, none⟩) m.mem.length m.mem.length] 27)).heap.size = w4.heap.size + 1 := by simp
    have z_6 := Below.size e_
    replace K := K.kept e_
    replace B := B.trans (e_.mono B.size)
    replace R := R.below (e_.mono (by omega))
    replace Y := Y.kept e_
    replace x4 := (x4.below e_).lt
    clear e_
    have X := Bk.new w4 #[Value.slice (some ⟨g4, 0, none⟩) m.cs.length m.cs.length, Value.slice (some ⟨g4p, 0, none⟩) m.mem.length m.mem.length] 27
    have qX := X.cell
    go_wp2_with fail
    clear qX
    refine (IM.out _ _ _ _ _ x4).mono ?_
    rintro e w5 ⟨rfl, b_5⟩
    have z_7 := Below.size b_5
    replace K := K.kept b_5
    replace B := B.trans (b_5.mono B.size)
    replace R := R.below (b_5.mono (by omega))
    replace Y := Y.kept b_5
    replace x4 := (x4.below b_5).lt
    replace X := X.kept b_5
    clear b_5
    have e_ := (Below.refl w5.heap.size w5).alloc (Nat.le_refl _) (Obj.cells #[Value.int .i64 va, .int .i64 vb] 38)
    have zz_7 : (w5.alloc (Obj.cells #[Value.int .i64 va, .int .i64 vb] 38)).heap.size = w5.heap.size + 1 := by simp
    have z_8 := Below.size e_
    replace K := K.kept e_
    replace B := B.trans (e_.mono B.size)
    replace R := R.below (e_.mono (by omega))
    replace Y := Y.kept e_
    replace x4 := (x4.below e_).lt
    replace X := X.kept e_
    clear e_
    have Z := Bk.new w5 #[Value.int .i64 va, .int .i64 vb] 38
    have q_Z := Z.cell
    have q0_0 := (Y.cell 0).trans (rfl : _ = some (Value.int .i64 va))
    have q0_1 := (Y.cell 1).trans (rfl : _ = some (Value.int .i64 vb))
    go_wp2_with fail
    refine (eqIntResult_same va vb _).mono ?_
    rintro e w6 ⟨rfl, b_6⟩
    clear q0_0 q0_1
    have z_9 := Below.size b_6
    replace K := K.kept b_6
    replace B := B.trans (b_6.mono B.size)
    replace R := R.below (b_6.mono (by omega))
    replace Y := Y.kept b_6
    replace x4 := (x4.below b_6).lt
    replace X := X.kept b_6
    replace Z := Z.kept b_6
    clear b_6
    clear q_Z
    clear Y Z
    have EQ := hide (fun A A' Z Z' c c' d d' W hW hW' => eqMachine_same m A A' Z Z' c c' d d' W hc hm hW hW')
    have q0_0 := (X.cell 0).trans (rfl : _ = some (Value.slice (some ⟨g4, 0, none⟩) m.cs.length m.cs.length))
    have q0_1 := (X.cell 1).trans (rfl : _ = some (Value.slice (some ⟨g4p, 0, none⟩) m.mem.length m.mem.length))
    have q1_0 := (K.cell 0).trans (rfl : _ = some (Value.slice A m.cs.length c))
    have q1_1 := (K.cell 1).trans (rfl : _ = some (Value.slice A' m.mem.length c'))
    go_wp2_with fail
    go_cut [31] (fun s wx => s = .bool false ∧ Below w6.heap.size w6 wx)
    case first =>
      go_region_held3 (fun w' => w'.cell? ⟨w4.heap.size, 0, none⟩ = some (Value.slice (some ⟨g4, 0, none⟩) m.cs.length m.cs.length) ∧ w'.cell? ⟨w4.heap.size, 1, none⟩ = some (Value.slice (some ⟨g4p, 0, none⟩) m.mem.length m.mem.length) ∧ w'.cell? ⟨w.heap.size, 0, none⟩ = some (Value.slice A m.cs.length c) ∧ w'.cell? ⟨w.heap.size, 1, none⟩ = some (Value.slice A' m.mem.length c') ∧ Below w6.heap.size w6 w')
        (first | assumption | exact ⟨q0_0, q0_1, q1_0, q1_1, (Below.refl _ _).drew⟩ | (go_split_ands; exact ⟨cell_kept (by assumption) (by assumption), cell_kept (by assumption) (by assumption), cell_kept (by assumption) (by assumption), cell_kept (by assumption) (by assumption), Below.trans (by assumption) (Below.mono (by assumption) (Below.size (by assumption)))⟩))
        (first
          | (go_at_call 45; refine (TO.out _ ?_).mono ?_; (go_split_ands; exact (R.below ((by assumption : Below w6.heap.size w6 _).mono (by omega))).more (by have := Below.size (by assumption : Below w6.heap.size w6 _); omega)); rintro e wa ⟨ga, gap, usa, rfl, oa, ba⟩)
          | (go_at_call 46; refine (EQ.out _ _ _ _ _ _ _ _ _ ?_ ?_).mono ?_; (go_split_ands; exact (x4.below (by assumption)).lt); exact OwnMac.rd (by assumption); rintro e wa ⟨rfl, ba⟩))
      go_wp2_with fail
      go_meet
      exact ⟨rfl, by go_split_ands; assumption⟩
    case rest =>
      obtain ⟨rfl, C_⟩ := hcut
      clear q0_0 q0_1 q1_0 q1_1
      have z_10 := Below.size C_
      replace K := K.kept C_
      replace B := B.trans (C_.mono B.size)
      replace R := R.below (C_.mono (by omega))
      replace x4 := (x4.below C_).lt
      replace X := X.kept C_
      clear C_
      go_wp2
      go_ret
      exact ⟨rfl, B⟩
  · go_enter Try.func10, Try.ntmps10
    go_wp2_with fail
    refine (szMachine_not m A A' c c' 1048576 _ (by omega) (Nat.le_refl _) hc hm ((h.alloc (Nat.le_refl _) _).lt)).mono ?_
    rintro e w1 ⟨rfl, b1⟩
    go_wp2
    go_ret
    exact ⟨rfl, below_alloc b1⟩
end Go.Proofs.Ytifijhfeeammkaa
