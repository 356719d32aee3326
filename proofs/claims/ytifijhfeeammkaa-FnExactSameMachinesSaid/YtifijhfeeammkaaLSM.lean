/- The walk of the exact law of SameMachines. -/
import Derived.Test.YtifijhfeeammkaaEqI
import Derived.Test.YtifijhfeeammkaaMacFit
import Derived.Deep.RegionHeld3
import Derived.Deep.DeepCutAuto
namespace Go.Proofs.Ytifijhfeeammkaa
open Go.RowKit

set_option maxRecDepth 100000 in
set_option maxHeartbeats 1600000 in
theorem FnExactSameMachines_walk (m n : Mac) (A A' Z Z' : Option Addr) (c c' d d' : Nat) (w : World) (hc : m.cs.length ≤ maxLen) (hm : m.mem.length ≤ maxLen) (h : RdMac w w.heap.size A A' m) (hc' : n.cs.length ≤ maxLen) (hm' : n.mem.length ≤ maxLen) (h' : RdMac w w.heap.size Z Z' n) :
    Calls Try.prog 12 #[macV A m.cs.length c A' m.mem.length c', macV Z n.cs.length d Z' n.mem.length d'] w fun e w' => e = .returned (.bool true) ∧ Below w.heap.size w w' := by
  obtain ⟨W, hW⟩ : ∃ W, W = (w.alloc (Obj.cells #[Value.slice A m.cs.length c, Value.slice A' m.mem.length c'] 73)).alloc (Obj.cells #[Value.slice Z n.cs.length d, Value.slice Z' n.mem.length d'] 73) := ⟨_, rfl⟩
  have HW := hide hW
  obtain ⟨K, K', hz, B⟩ := two_new _ _ _ _ _ W hW
  clear hW
  by_cases hS : sizM m ≤ 1048576
  · by_cases hS2 : sizM n ≤ 1048576 - sizM m
    · have HL := hide (mac_fit hS (Nat.le_refl _))
      have HL' := hide (mac_fit hS2 (by omega))
      obtain ⟨F, hF⟩ : ∃ F, F = sameM m n := ⟨_, rfl⟩
      have SP := hide (fun A A' Z Z' c c' d d' w => specSM_any m n A A' Z Z' c c' d d' w hc hm)
      have IM := hide (fun A A' Z Z' c c' d d' w => implSM_any m n A A' Z Z' c c' d d' w hc hm)
      rw [← hF] at SP IM
      clear hF
      have R := h.below B
      have R' := h'.below B
      skip
      have TO := hide (fun W (hW : RdMac W W.heap.size A A' m) => toMachine_own m A A' c c' W HL.out.1 HL.out.2 hW)
      have TP := hide (fun W (hW : RdMac W W.heap.size Z Z' n) => toMachine_own n Z Z' d d' W HL'.out.1 HL'.out.2 hW)
      go_enter Try.func12, Try.ntmps12
      have zW := B.size
      go_wp2_with fail
      rw [← HW.out]
      refine (szMachine_fit m A A' c c' 1048576 _ hS (Nat.le_refl _) (R.more (by omega))).mono ?_
      rintro e w1 ⟨rfl, b_1⟩
      have z_1 := Below.size b_1
      replace K := K.kept b_1
      replace K' := K'.kept b_1
      replace B := B.trans (b_1.mono B.size)
      replace R := R.below (b_1.mono (by omega))
      replace R' := R'.below (b_1.mono (by omega))
      clear b_1
      have q0_0 := (K'.cell 0).trans (rfl : _ = some (Value.slice Z n.cs.length d))
      have q0_1 := (K'.cell 1).trans (rfl : _ = some (Value.slice Z' n.mem.length d'))
      go_wp2_with fail
      refine (szMachine_fit n Z Z' d d' (1048576 - sizM m) _ hS2 (by omega) (R'.more (by omega))).mono ?_
      rintro e w2 ⟨rfl, b_2⟩
      clear q0_0 q0_1
      have z_2 := Below.size b_2
      replace K := K.kept b_2
      replace K' := K'.kept b_2
      replace B := B.trans (b_2.mono B.size)
      replace R := R.below (b_2.mono (by omega))
      replace R' := R'.below (b_2.mono (by omega))
      clear b_2
      have q0_0 := (K.cell 0).trans (rfl : _ = some (Value.slice A m.cs.length c))
      have q0_1 := (K.cell 1).trans (rfl : _ = some (Value.slice A' m.mem.length c'))
      have q1_0 := (K'.cell 0).trans (rfl : _ = some (Value.slice Z n.cs.length d))
      have q1_1 := (K'.cell 1).trans (rfl : _ = some (Value.slice Z' n.mem.length d'))
      go_wp2_with fail
      go_cut [6] (fun s wx => s = .bool F ∧ Below w2.heap.size w2 wx)
      case first =>
        go_region_held3 (fun w' => w'.cell? ⟨w.heap.size, 0, none⟩ = some (Value.slice A m.cs.length c) ∧ w'.cell? ⟨w.heap.size, 1, none⟩ = some (Value.slice A' m.mem.length c') ∧ w'.cell? ⟨w.heap.size + 1, 0, none⟩ = some (Value.slice Z n.cs.length d) ∧ w'.cell? ⟨w.heap.size + 1, 1, none⟩ = some (Value.slice Z' n.mem.length d') ∧ Below w2.heap.size w2 w')
          (first | assumption | exact ⟨q0_0, q0_1, q1_0, q1_1, (Below.refl _ _).drew⟩ | (go_split_ands; exact ⟨cell_kept (by assumption) (by assumption), cell_kept (by assumption) (by assumption), cell_kept (by assumption) (by assumption), cell_kept (by assumption) (by assumption), Below.trans (by assumption) (Below.mono (by assumption) (Below.size (by assumption)))⟩))
          (first
            | (go_at_call 45; (with_reducible refine (TO.out _ ?_).mono ?_); (go_split_ands; exact (R.below ((by assumption : Below w2.heap.size w2 _).mono (by omega))).more (by have := Below.size (by assumption : Below w2.heap.size w2 _); omega)); rintro e wa ⟨ga, gap, usa, rfl, oa, ba⟩)
            | (go_at_call 45; (with_reducible refine (TP.out _ ?_).mono ?_); (go_split_ands; exact (R'.below ((by assumption : Below w2.heap.size w2 _).mono (by omega))).more (by have := Below.size (by assumption : Below w2.heap.size w2 _); omega)); rintro e wb ⟨gb, gbp, usb, rfl, ob, bb⟩)
            | (go_at_call 26; refine (SP.out _ _ _ _ _ _ _ _ _ ?_ ?_).mono ?_; (first | exact oa.rd | exact (oa.rd.below bb).lt); (first | exact ob.rd | exact (ob.rd.below ba).lt); rintro e wc ⟨rfl, bc⟩))
        all_goals
          go_wp2_with fail
          go_meet
          exact ⟨rfl, by go_split_ands; assumption⟩
      case rest =>
        obtain ⟨rfl, C_⟩ := hcut
        clear q0_0 q0_1 q1_0 q1_1
        have z_3 := Below.size C_
        replace K := K.kept C_
        replace K' := K'.kept C_
        replace B := B.trans (C_.mono B.size)
        replace R := R.below (C_.mono (by omega))
        replace R' := R'.below (C_.mono (by omega))
        clear C_
        have q0_0 := (K.cell 0).trans (rfl : _ = some (Value.slice A m.cs.length c))
        have q0_1 := (K.cell 1).trans (rfl : _ = some (Value.slice A' m.mem.length c'))
        go_wp2_with fail
        refine (TO.out _ (R.more (by omega))).mono ?_
        rintro e w4 ⟨g4, g4p, us4, rfl, o4, b_4⟩
        clear q0_0 q0_1
        have z_4 := Below.size b_4
        replace K := K.kept b_4
        replace K' := K'.kept b_4
        replace B := B.trans (b_4.mono B.size)
        replace R := R.below (b_4.mono (by omega))
        replace R' := R'.below (b_4.mono (by omega))
        clear b_4
        have x4 := o4.rd
        clear o4
        have e_ := (Below.refl w4.heap.size w4).alloc (Nat.le_refl _) (Obj.cells #[Value.slice (some ⟨g4, 0, none⟩) m.cs.length m.cs.length, Value.slice (some ⟨g4p, 0, none⟩) m.mem.length m.mem.length] 27)
        have zz_4 : (w4.alloc (Obj.cells #[Value.slice (some ⟨g4, 0, none⟩) m.cs.length m.cs.length, Value.slice (some ⟨g4p, 0, none⟩) m.mem.length m.mem.length] 27)).heap.size = w4.heap.size + 1 := by simp
        have z_5 := Below.size e_
        replace K := K.kept e_
        replace K' := K'.kept e_
        replace B := B.trans (e_.mono B.size)
        replace R := R.below (e_.mono (by omega))
        replace R' := R'.below (e_.mono (by omega))
        replace x4 := (x4.below e_).lt
        clear e_
        have X := Bk.new w4 #[Value.slice (some ⟨g4, 0, none⟩) m.cs.length m.cs.length, Value.slice (some ⟨g4p, 0, none⟩) m.mem.length m.mem.length] 27
        have q0_0 := (K'.cell 0).trans (rfl : _ = some (Value.slice Z n.cs.length d))
        have q0_1 := (K'.cell 1).trans (rfl : _ = some (Value.slice Z' n.mem.length d'))
        go_wp2_with fail
        refine (TP.out _ (R'.more (by omega))).mono ?_
        rintro e w6 ⟨g6, g6p, us6, rfl, o6, b_6⟩
        have z_6 := Below.size b_6
        replace K := K.kept b_6
        replace K' := K'.kept b_6
        replace B := B.trans (b_6.mono B.size)
        replace R := R.below (b_6.mono (by omega))
        replace R' := R'.below (b_6.mono (by omega))
        replace x4 := (x4.below b_6).lt
        replace X := X.kept b_6
        clear b_6
        clear q0_0 q0_1
        have x6 := o6.rd
        clear o6
        have e_ := (Below.refl w6.heap.size w6).alloc (Nat.le_refl _) (Obj.cells #[Value.slice (some ⟨g6, 0, none⟩) n.cs.length n.cs.length, Value.slice (some ⟨g6p, 0, none⟩) n.mem.length n.mem.length] 27)
        have zz_6 : (w6.alloc (Obj.cells #[Value.slice (some ⟨g6, 0, none⟩) n.cs.length n.cs.length, Value.slice (some ⟨g6p, 0, none⟩) n.mem.length n.mem.length] 27)).heap.size = w6.heap.size + 1 := by simp
        have z_7 := Below.size e_
        replace K := K.kept e_
        replace K' := K'.kept e_
        replace B := B.trans (e_.mono B.size)
        replace R := R.below (e_.mono (by omega))
        replace R' := R'.below (e_.mono (by omega))
        replace x4 := (x4.below e_).lt
        replace X := X.kept e_
        replace x6 := (x6.below e_).lt
        clear e_
        have X' := Bk.new w6 #[Value.slice (some ⟨g6, 0, none⟩) n.cs.length n.cs.length, Value.slice (some ⟨g6p, 0, none⟩) n.mem.length n.mem.length] 27
        have q0_0 := (X.cell 0).trans (rfl : _ = some (Value.slice (some ⟨g4, 0, none⟩) m.cs.length m.cs.length))
        have q0_1 := (X.cell 1).trans (rfl : _ = some (Value.slice (some ⟨g4p, 0, none⟩) m.mem.length m.mem.length))
        go_wp2_with fail
        refine (IM.out _ _ _ _ _ _ _ _ _ x4 x6).mono ?_
        rintro e w8 ⟨rfl, b_8⟩
        have z_8 := Below.size b_8
        replace K := K.kept b_8
        replace K' := K'.kept b_8
        replace B := B.trans (b_8.mono B.size)
        replace R := R.below (b_8.mono (by omega))
        replace R' := R'.below (b_8.mono (by omega))
        replace x4 := (x4.below b_8).lt
        replace X := X.kept b_8
        replace x6 := (x6.below b_8).lt
        replace X' := X'.kept b_8
        clear b_8
        clear q0_0 q0_1
        have hbb : (F != F) = false := by simp
        have EQ := hide (fun A A' Z Z' c c' d d' W hW hW' => eqMachine_same m A A' Z Z' c c' d d' W hc hm hW hW')
        have EP := hide (fun A A' Z Z' c c' d d' W hW hW' => eqMachine_same n A A' Z Z' c c' d d' W hc' hm' hW hW')
        have q0_0 := (X.cell 0).trans (rfl : _ = some (Value.slice (some ⟨g4, 0, none⟩) m.cs.length m.cs.length))
        have q0_1 := (X.cell 1).trans (rfl : _ = some (Value.slice (some ⟨g4p, 0, none⟩) m.mem.length m.mem.length))
        have q1_0 := (K.cell 0).trans (rfl : _ = some (Value.slice A m.cs.length c))
        have q1_1 := (K.cell 1).trans (rfl : _ = some (Value.slice A' m.mem.length c'))
        go_wp2_with fail
        go_cut [39] (fun s wx => s = .bool false ∧ Below w8.heap.size w8 wx)
        case first =>
          go_region_held3 (fun w' => w'.cell? ⟨w4.heap.size, 0, none⟩ = some (Value.slice (some ⟨g4, 0, none⟩) m.cs.length m.cs.length) ∧ w'.cell? ⟨w4.heap.size, 1, none⟩ = some (Value.slice (some ⟨g4p, 0, none⟩) m.mem.length m.mem.length) ∧ w'.cell? ⟨w.heap.size, 0, none⟩ = some (Value.slice A m.cs.length c) ∧ w'.cell? ⟨w.heap.size, 1, none⟩ = some (Value.slice A' m.mem.length c') ∧ Below w8.heap.size w8 w')
            (first | assumption | exact ⟨q0_0, q0_1, q1_0, q1_1, (Below.refl _ _).drew⟩ | (go_split_ands; exact ⟨cell_kept (by assumption) (by assumption), cell_kept (by assumption) (by assumption), cell_kept (by assumption) (by assumption), cell_kept (by assumption) (by assumption), Below.trans (by assumption) (Below.mono (by assumption) (Below.size (by assumption)))⟩))
            (first
              | (go_at_call 45; refine (TO.out _ ?_).mono ?_; (go_split_ands; exact (R.below ((by assumption : Below w8.heap.size w8 _).mono (by omega))).more (by have := Below.size (by assumption : Below w8.heap.size w8 _); omega)); rintro e wa ⟨ga, gap, usa, rfl, oa, ba⟩)
              | (go_at_call 46; refine (EQ.out _ _ _ _ _ _ _ _ _ ?_ ?_).mono ?_; (go_split_ands; exact (x4.below (by assumption)).lt); exact OwnMac.rd (by assumption); rintro e wa ⟨rfl, ba⟩))
          go_wp2_with fail
          go_meet
          exact ⟨rfl, by go_split_ands; assumption⟩
        case rest =>
          obtain ⟨rfl, C_⟩ := hcut
          clear q0_0 q0_1 q1_0 q1_1
          have z_9 := Below.size C_
          replace K := K.kept C_
          replace K' := K'.kept C_
          replace B := B.trans (C_.mono B.size)
          replace R := R.below (C_.mono (by omega))
          replace R' := R'.below (C_.mono (by omega))
          replace x4 := (x4.below C_).lt
          replace X := X.kept C_
          replace x6 := (x6.below C_).lt
          replace X' := X'.kept C_
          clear C_
          clear X K x4
          have q0_0 := (X'.cell 0).trans (rfl : _ = some (Value.slice (some ⟨g6, 0, none⟩) n.cs.length n.cs.length))
          have q0_1 := (X'.cell 1).trans (rfl : _ = some (Value.slice (some ⟨g6p, 0, none⟩) n.mem.length n.mem.length))
          have q1_0 := (K'.cell 0).trans (rfl : _ = some (Value.slice Z n.cs.length d))
          have q1_1 := (K'.cell 1).trans (rfl : _ = some (Value.slice Z' n.mem.length d'))
          go_wp2_with fail
          go_cut [44] (fun s wx => s = .bool false ∧ Below wc.heap.size wc wx)
          case first =>
            go_region_held3 (fun w' => w'.cell? ⟨w6.heap.size, 0, none⟩ = some (Value.slice (some ⟨g6, 0, none⟩) n.cs.length n.cs.length) ∧ w'.cell? ⟨w6.heap.size, 1, none⟩ = some (Value.slice (some ⟨g6p, 0, none⟩) n.mem.length n.mem.length) ∧ w'.cell? ⟨w.heap.size + 1, 0, none⟩ = some (Value.slice Z n.cs.length d) ∧ w'.cell? ⟨w.heap.size + 1, 1, none⟩ = some (Value.slice Z' n.mem.length d') ∧ Below wc.heap.size wc w')
              (first | assumption | exact ⟨q0_0, q0_1, q1_0, q1_1, (Below.refl _ _).drew⟩ | (go_split_ands; exact ⟨cell_kept (by assumption) (by assumption), cell_kept (by assumption) (by assumption), cell_kept (by assumption) (by assumption), cell_kept (by assumption) (by assumption), Below.trans (by assumption) (Below.mono (by assumption) (Below.size (by assumption)))⟩))
              (first
                | (go_at_call 45; refine (TP.out _ ?_).mono ?_; (go_split_ands; exact (R'.below ((by assumption : Below wc.heap.size wc _).mono (by omega))).more (by have := Below.size (by assumption : Below wc.heap.size wc _); omega)); rintro e wa ⟨ga, gap, usa, rfl, oa, ba⟩)
                | (go_at_call 46; refine (EP.out _ _ _ _ _ _ _ _ _ ?_ ?_).mono ?_; (go_split_ands; exact (x6.below (by assumption)).lt); exact OwnMac.rd (by assumption); rintro e wa ⟨rfl, ba⟩))
            go_wp2_with fail
            go_meet
            exact ⟨rfl, by go_split_ands; assumption⟩
          case rest =>
            obtain ⟨rfl, C_⟩ := hcut
            clear q0_0 q0_1 q1_0 q1_1
            have z_10 := Below.size C_
            replace K' := K'.kept C_
            replace B := B.trans (C_.mono B.size)
            replace R := R.below (C_.mono (by omega))
            replace R' := R'.below (C_.mono (by omega))
            replace x6 := (x6.below C_).lt
            replace X' := X'.kept C_
            clear C_
            go_wp2
            go_ret
            exact ⟨rfl, B⟩
    · go_enter Try.func12, Try.ntmps12
      go_wp2_with fail
      rw [← HW.out]
      refine (szMachine_fit m A A' c c' 1048576 _ hS (Nat.le_refl _) (h.below B).lt).mono ?_
      rintro e w1 ⟨rfl, b1⟩
      have J1 := K'.kept b1
      have B1 := B.trans (b1.mono B.size)
      have q2 := (J1.cell 0).trans (rfl : _ = some (Value.slice Z n.cs.length d))
      have q3 := (J1.cell 1).trans (rfl : _ = some (Value.slice Z' n.mem.length d'))
      go_wp2_with fail
      refine (szMachine_not n Z Z' d d' (1048576 - sizM m) _ (by omega) (by omega) hc' hm' (h'.below B1).lt).mono ?_
      rintro e w2 ⟨rfl, b2⟩
      go_wp2
      go_ret
      exact ⟨rfl, B1.trans (b2.mono B1.size)⟩
  · go_enter Try.func12, Try.ntmps12
    go_wp2_with fail
    rw [← HW.out]
    refine (szMachine_not m A A' c c' 1048576 _ (by omega) (Nat.le_refl _) hc hm (h.below B).lt).mono ?_
    rintro e w1 ⟨rfl, b1⟩
    go_wp2
    go_ret
    exact ⟨rfl, B.trans (b1.mono B.size)⟩
end Go.Proofs.Ytifijhfeeammkaa
