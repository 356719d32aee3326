/- The contract of the model's draw of two machines. -/
import Derived.Test.YtifijhfeeammkaaDrawMc
namespace Go.Proofs.Ytifijhfeeammkaa
open Go.RowKit

theorem OwnMac.low {w w' : World} {base B : Nat} {v v' : Value} {m : Mac} {us : List Value} (h : OwnMac w base v v' m us) (hlt : ∀ u ∈ v :: v' :: us, ∀ b, u.ownBlock = some b → b < B) (hb : Below B w w') : OwnMac w' base v v' m us := by
  have bt : But (fun k => B ≤ k) w w' := ⟨hb.os, hb.tape, hb.output, hb.size, fun k _ hn => hb.block k (by omega)⟩
  have hs : ∀ u ∈ v :: v' :: us, ∀ b, u.ownBlock = some b → ¬ B ≤ b := fun u hu b e => by have := hlt u hu b e; omega
  exact ⟨⟨bt.own h.cs.row (hs v (by simp)), fun i hi => by
    obtain ⟨u, h1, h2, h3⟩ := h.cs.rows i hi
    exact ⟨u, h1, bt.own h2 (hs u (by simp [List.mem_of_getElem? h1])), h3⟩, h.cs.apart⟩, bt.own h.mem (hs v' (by simp)), h.far⟩

set_option maxRecDepth 100000 in
set_option maxHeartbeats 3200000 in
theorem DrawSameMachines_any (l : List Int) (A : Option Addr) (c : Nat) (w : World) (hl : l.length ≤ 1048576) (hR : Rd .u8 w w.heap.size A l) (b8 : B8 l) :
    Calls Try.prog 21 #[.slice A l.length c] w fun e w' => ∃ (m n : Mac) (A1 : Option Addr) (c1 : Nat) (A2 : Option Addr) (c2 : Nat) (B1 : Option Addr) (d1 : Nat) (B2 : Option Addr) (d2 : Nat), e = .returned (.tuple #[macV A1 m.cs.length c1 A2 m.mem.length c2, macV B1 n.cs.length d1 B2 n.mem.length d2]) ∧ (m.cs.length ≤ 5 ∧ m.mem.length ≤ 40) ∧ (n.cs.length ≤ 5 ∧ n.mem.length ≤ 41) ∧ RdMac w' w'.heap.size A1 A2 m ∧ RdMac w' w'.heap.size B1 B2 n ∧ Below w.heap.size w w' := by
  obtain ⟨i0, hi, hz0, hz1, hz2⟩ := info_parts info_cell
  obtain ⟨W, hW⟩ : ∃ W, W = (w.alloc (Obj.cells #[.slice none 0 0, .slice none 0 0] 27)).alloc (Obj.cells #[.slice none 0 0, .slice none 0 0] 27) := ⟨_, rfl⟩
  obtain ⟨kr, ko, hz, B0⟩ := two_new _ _ _ _ _ W hW
  have HW := hide hW
  have hR1 : Rd .u8 W W.heap.size A l := (hR.below B0).lt
  clear hW hR
  go_enter Try.func21, Try.ntmps21
  go_wp2_with fail
  rw [← HW.out]
  refine (l1Source_any l A c W hR1 b8 hl).mono ?_
  rintro e w1 ⟨rfl, S1, b1_⟩
  replace kr := kr.kept b1_
  replace ko := ko.kept b1_
  have hgs : w.heap.size + 1 < W.heap.size := by have := HW.out; rw [this]; simp
  obtain ⟨gs, hg⟩ : ∃ gs, gs = W.heap.size := ⟨_, rfl⟩
  rw [← hg] at S1 hgs ⊢
  have BB2 := B0.trans (b1_.mono B0.size)
  have z1 := S1.lt
  clear hR1 b1_ B0 hg hz
  go_wp2_with fail
  refine (l7Machine_any gs _ A c l w1 S1 (by omega)).mono ?_
  rintro e w2 ⟨m, A1, c1, A2, c2, us, rfl, om, hmc, hmm, k2, hk2, S2, g2⟩
  replace kr := kr.grown g2 (by simp; omega)
  replace ko := ko.grown g2 (by simp; omega)
  have BB3 := grown_from BB2 g2 BB2.size (by omega)
  have z2 := g2.size
  obtain ⟨b1, hb1⟩ : ∃ b1, b1 = w1.heap.size := ⟨_, rfl⟩
  rw [← hb1] at om z1 z2
  clear g2 BB2 S1 hb1
  have e6 := (Below.refl w2.heap.size w2).alloc (Nat.le_refl _) (Obj.cells #[.slice A1 m.cs.length c1, .slice A2 m.mem.length c2] 27)
  have k5 := Bk.new w2 #[.slice A1 m.cs.length c1, .slice A2 m.mem.length c2] 27
  replace kr := kr.kept e6
  replace ko := ko.kept e6
  have S3 := S2.below e6 S2.lt
  replace om := om.below e6
  have BB4 := BB3.trans (e6.mono BB3.size)
  obtain ⟨V, hV⟩ : ∃ V, V = w2.alloc (Obj.cells #[.slice A1 m.cs.length c1, .slice A2 m.mem.length c2] 27) := ⟨_, rfl⟩
  obtain ⟨p5, hp⟩ : ∃ p5, p5 = w2.heap.size := ⟨_, rfl⟩
  rw [← hV] at k5 kr ko S3 om BB4
  rw [← hp] at k5
  have hp5 : gs < p5 := by omega
  have HV := hide hV
  have HP := hide hp
  clear hV hp e6 S2 BB3
  have zk5 := k5.lt
  go_upto_region 3 with fail
  rw [← HV.out, ← HP.out]
  have hlow := om.allB
  have RM := om.rd
  obtain ⟨base, hbase⟩ : ∃ b, b = V.heap.size := ⟨_, rfl⟩
  have hlow2 : ∀ u ∈ (.slice A1 m.cs.length c1 :: .slice A2 m.mem.length c2 :: us : List Value), ∀ b, u.ownBlock = some b → b < base := fun u hu b e => by have := (hlow u hu b e).2; omega
  have HLOW := hide hlow2
  clear hlow hlow2
  have CP := hide (l7CopyU_any m A1 A2 c1 c2 V (by omega) hmc.2.2.2 (by omega) k5 RM)
  clear RM
  go_wp2_with fail
  refine CP.out.mono ?_
  rintro e w3 ⟨B1, d1, B2, d2, usb, rfl, ob, b3⟩
  clear CP
  rw [← hbase] at ob
  have e7 := (Below.refl w3.heap.size w3).alloc (Nat.le_refl _) (Obj.cells #[.slice B1 m.cs.length d1, .slice B2 m.mem.length d2] 27)
  have hz3 := b3.size
  have DB : DrB base w3.heap.size (.slice B1 m.cs.length d1) (.slice B2 m.mem.length d2) (.slice B1 m.cs.length d1) (.slice B2 m.mem.length d2) m.cs m.mem usb (w3.alloc (Obj.cells #[.slice B1 m.cs.length d1, .slice B2 m.mem.length d2] 27)) := ⟨Bk.new _ _ _, ob.cs.below e7, own_below ob.mem e7 (Nat.le_refl _), by omega⟩
  replace kr := (kr.kept b3).kept e7
  replace ko := (ko.kept b3).kept e7
  replace k5 := (k5.kept b3).kept e7
  replace om := (om.below b3).below e7
  have S4 := (S3.below b3 S3.lt).alloc (Obj.cells #[.slice B1 m.cs.length d1, .slice B2 m.mem.length d2] 27)
  have BB5 := (BB4.trans (b3.mono BB4.size)).trans (e7.mono (by have := BB4.size; omega))
  obtain ⟨U, hU⟩ : ∃ U, U = w3.alloc (Obj.cells #[.slice B1 m.cs.length d1, .slice B2 m.mem.length d2] 27) := ⟨_, rfl⟩
  obtain ⟨p6, hp⟩ : ∃ p6, p6 = w3.heap.size := ⟨_, rfl⟩
  rw [← hU] at DB k5 kr ko S4 om BB5
  rw [← hp] at DB
  have hp6 : p5 < base ∧ base ≤ p6 := by omega
  have HU := hide hU
  have HP6 := hide hp
  have HBASE := hide hbase
  clear hU hp e7 b3 S3 BB4 ob hbase
  go_upto_region 4 with fail
  rw [← HU.out, ← HP6.out]
  go_wp2_with fail
  refine (l1Next_any gs _ 4 A c l U S4 (by omega) (by omega) (by omega)).mono ?_
  rintro e w4 ⟨s, rfl, hs0, hs1, S5, g4⟩
  replace kr := kr.grown g4 (by simp; omega)
  replace ko := ko.grown g4 (by simp; omega)
  replace k5 := k5.grown g4 (by simp; omega)
  replace om := om.drawn0 g4 (by omega)
  have DB4 := DB.drawn g4 (by omega)
  have BB6 := grown_from BB5 g4 BB5.size (by omega)
  have zb : base ≤ w4.heap.size := by have := DB4.box.lt; omega
  clear g4 BB5 S4 S5 hs0 hs1 DB
  have h0 : 0 < m.cs.length := by omega
  by_cases e0 : s = 0
  · subst e0
    have y1 := (DB4.box.cell 1).trans (rfl : _ = some (Value.slice B2 m.mem.length d2))
    have D5 := DB4.below ((Below.refl w4.heap.size w4).alloc (Nat.le_refl _) (Obj.cells #[.int .i64 0, .int .i64 0] 120))
    have e8 := (Below.refl w4.heap.size w4).alloc (Nat.le_refl _) (Obj.cells #[.int .i64 0, .int .i64 0] 120)
    have hBl := RdC.one_new w4 ⟨0, 0⟩ 120
    have hmem := D5.mem
    have zb2 : base ≤ (w4.alloc (Obj.cells #[.int .i64 0, .int .i64 0] 120)).heap.size := by simp; omega
    clear DB4
    go_upto_region 9 with (at_builtin; refine wpList_append_rc _ rfl (.tmp 17) (.tmp 19) 25 rfl base 120 i0 (.agg #[.int .i64 0, .int .i64 0]) 16 Try.underlying25 hi hz0 hz1 hz2 rfl _ _ _ rfl hmem (some ⟨w4.heap.size, 0, none⟩) [⟨0, 0⟩] 1 (w4.heap.size + 1) rfl hBl (by unfold maxLen; simp only [List.length_cons, List.length_nil]; omega) (by simp only [List.length_cons, List.length_nil]; omega) zb2 ?_; intro v5 w5 o5 g5 hat5; obtain ⟨D6, t6⟩ := D5.grewM (y := ⟨0, 0⟩) o5 g5 zb2; obtain ⟨B5, d5, hv5⟩ := own_shape o5; simp only [List.length_cons, List.length_nil] at hv5; subst hv5; have s1 := (D6.box.cell 1).trans (rfl : _ = some (Value.slice B2 m.mem.length d2)); have sf := D6.box.frozen 1; have HD7 := hide (D6.store 1 (.slice B5 (m.mem.length + 1) d5) _ _ rfl); have HT6 := hide t6; clear o5 g5 hat5 hBl hmem D5 D6 t6 y1)
    have b7 := (e8.mono zb).trans (HT6.out.trans HD7.out.2)
    have D7 := HD7.out.1
    clear HD7 HT6 s1 sf e8
    replace kr := kr.below b7 (by omega)
    replace ko := ko.below b7 (by omega)
    replace k5 := k5.below b7 (by omega)
    replace om := om.low HLOW.out b7
    have BB7 := BB6.trans (b7.mono (by omega))
    clear b7 BB6
    generalize w5.setCell ⟨p6, 1, none⟩ (.slice B5 (m.mem.length + 1) d5) = Y at *
    go_wp2_with fail
    replace kr := kr.kept (Below.refl Y.heap.size Y).drew
    replace ko := ko.kept (Below.refl Y.heap.size Y).drew
    replace k5 := k5.kept (Below.refl Y.heap.size Y).drew
    replace om := om.below (Below.refl Y.heap.size Y).drew
    have DD := D7.below (Below.refl Y.heap.size Y).drew
    have B9 := BB7.trans ((Below.refl Y.heap.size Y).drew.mono BB7.size)
    clear D7 BB7
    have a0 := (k5.cell 0).trans (rfl : _ = some (Value.slice A1 m.cs.length c1))
    have a1 := (k5.cell 1).trans (rfl : _ = some (Value.slice A2 m.mem.length c2))
    have a2 := (DD.box.cell 0).trans (rfl : _ = some (Value.slice B1 m.cs.length d1))
    have a3 := (DD.box.cell 1).trans (rfl : _ = some (Value.slice B5 (m.mem.length + 1) d5))
    refine wp_region_F 99 (fun w' => w'.cell? ⟨p5, 0, none⟩ = some (Value.slice A1 m.cs.length c1) ∧ w'.cell? ⟨p5, 1, none⟩ = some (Value.slice A2 m.mem.length c2) ∧ w'.cell? ⟨p6, 0, none⟩ = some (Value.slice B1 m.cs.length d1) ∧ w'.cell? ⟨p6, 1, none⟩ = some (Value.slice B5 (m.mem.length + 1) d5)) (fun w' => True) (by kernel_rfl) ⟨⟨a0, a1, a2, a3⟩, trivial⟩ (fun hHeld => ?_)
    try simp only [Act.put, List.setIfInBounds_toArray, List.set_cons_zero, List.set_cons_succ]
    clear a0 a1 a2 a3
    generalize Y.drew = Z at *
    refine wpAnyF_keep (i := 0) (v := ?_) (by (simp only [List.getElem?_toArray, List.getElem?_cons_zero]; rfl)) (by kernel_rfl) (by kernel_rfl) (by kernel_rfl) (by decide) (by exact fun _ _ _ h => h) ⟨hHeld.1, .inr hHeld.2⟩ (Or.inl ⟨by rfl, ?_⟩) ?_
    rotate_left
    · (intro w' hSw; (try dsimp only at hSw); obtain ⟨hSa0, hSa1, hSa2, hSa3⟩ := hSw; go_simp <;> with_reducible rfl)
    try simp only [Act.put, List.setIfInBounds_toArray, List.set_cons_zero, List.set_cons_succ]
    refine wpAnyF_keep (i := 1) (v := ?_) (by (simp only [List.getElem?_toArray, List.getElem?_cons_succ, List.getElem?_cons_zero]; rfl)) (by kernel_rfl) (by kernel_rfl) (by kernel_rfl) (by decide) (by exact fun _ _ _ h => h) ⟨hHeld.1, .inr hHeld.2⟩ (Or.inl ⟨by rfl, ?_⟩) ?_
    rotate_left
    · (intro w' hSw; (try dsimp only at hSw); obtain ⟨hSa0, hSa1, hSa2, hSa3⟩ := hSw; go_simp <;> with_reducible rfl)
    try simp only [Act.put, List.setIfInBounds_toArray, List.set_cons_zero, List.set_cons_succ]
    refine wpAnyF_ready (rs := [2]) (by kernel_rfl) (by simp) ?_
    refine AllReadyF.cons (by (simp only [List.getElem?_toArray, List.getElem?_cons_succ, List.getElem?_cons_zero]; rfl)) (fun K hK => ?_) AllReadyF.nil
    have z0 := (kr.cell 0).trans (rfl : _ = some (Value.slice none 0 0))
    have z1' := (kr.cell 1).trans (rfl : _ = some (Value.slice none 0 0))
    have f0 := kr.frozen 0
    have f1 := kr.frozen 1
    go_simp
    clear z0 z1' f0 f1
    replace kr := (kr.set_ 0 (.slice A1 m.cs.length c1)).set_ 1 (.slice A2 m.mem.length c2)
    simp only [List.setIfInBounds_toArray, List.set_cons_zero, List.set_cons_succ] at kr
    replace ko := (ko.far (p := ⟨w.heap.size, 0, none⟩) (by simp only; omega) (.slice A1 m.cs.length c1)).far (p := ⟨w.heap.size, 1, none⟩) (by simp only; omega) (.slice A2 m.mem.length c2)
    replace k5 := (k5.far (p := ⟨w.heap.size, 0, none⟩) (by simp only; omega) (.slice A1 m.cs.length c1)).far (p := ⟨w.heap.size, 1, none⟩) (by simp only; omega) (.slice A2 m.mem.length c2)
    replace om := (om.set_ (b := w.heap.size) (i := 0) (by omega) (.slice A1 m.cs.length c1)).set_ (b := w.heap.size) (i := 1) (by omega) (.slice A2 m.mem.length c2)
    replace DD := (DD.far (q := w.heap.size) (i := 0) (by omega) (.slice A1 m.cs.length c1)).far (q := w.heap.size) (i := 1) (by omega) (.slice A2 m.mem.length c2)
    replace B9 := (B9.setCell (p := ⟨w.heap.size, 0, none⟩) (by simp only; omega) (.slice A1 m.cs.length c1)).setCell (p := ⟨w.heap.size, 1, none⟩) (by simp only; omega) (.slice A2 m.mem.length c2)
    refine hK.out _ _ ⟨⟨(k5.cell 0).trans rfl, (k5.cell 1).trans rfl, (DD.box.cell 0).trans rfl, (DD.box.cell 1).trans rfl⟩, trivial⟩ (fun hNew => ?_)
    clear hK K hHeld
    have hHeld := hNew
    clear hNew
    try simp only [Act.put, List.setIfInBounds_toArray, List.set_cons_zero, List.set_cons_succ]
    generalize (Z.setCell ⟨w.heap.size, 0, none⟩ (.slice A1 m.cs.length c1)).setCell ⟨w.heap.size, 1, none⟩ (.slice A2 m.mem.length c2) = Z2 at *
    refine wpAnyF_ready (rs := [3]) (by kernel_rfl) (by simp) ?_
    refine AllReadyF.cons (by (simp only [List.getElem?_toArray, List.getElem?_cons_succ, List.getElem?_cons_zero]; rfl)) (fun K hK => ?_) AllReadyF.nil
    have z0 := (ko.cell 0).trans (rfl : _ = some (Value.slice none 0 0))
    have z1' := (ko.cell 1).trans (rfl : _ = some (Value.slice none 0 0))
    have f0 := ko.frozen 0
    have f1 := ko.frozen 1
    go_simp
    clear z0 z1' f0 f1
    replace ko := (ko.set_ 0 (.slice B1 m.cs.length d1)).set_ 1 (.slice B5 (m.mem.length + 1) d5)
    simp only [List.setIfInBounds_toArray, List.set_cons_zero, List.set_cons_succ] at ko
    replace kr := (kr.far (p := ⟨w.heap.size + 1, 0, none⟩) (by simp only; omega) (.slice B1 m.cs.length d1)).far (p := ⟨w.heap.size + 1, 1, none⟩) (by simp only; omega) (.slice B5 (m.mem.length + 1) d5)
    replace k5 := (k5.far (p := ⟨w.heap.size + 1, 0, none⟩) (by simp only; omega) (.slice B1 m.cs.length d1)).far (p := ⟨w.heap.size + 1, 1, none⟩) (by simp only; omega) (.slice B5 (m.mem.length + 1) d5)
    replace om := (om.set_ (b := w.heap.size + 1) (i := 0) (by omega) (.slice B1 m.cs.length d1)).set_ (b := w.heap.size + 1) (i := 1) (by omega) (.slice B5 (m.mem.length + 1) d5)
    replace DD := (DD.far (q := w.heap.size + 1) (i := 0) (by omega) (.slice B1 m.cs.length d1)).far (q := w.heap.size + 1) (i := 1) (by omega) (.slice B5 (m.mem.length + 1) d5)
    replace B9 := (B9.setCell (p := ⟨w.heap.size + 1, 0, none⟩) (by simp only; omega) (.slice B1 m.cs.length d1)).setCell (p := ⟨w.heap.size + 1, 1, none⟩) (by simp only; omega) (.slice B5 (m.mem.length + 1) d5)
    refine hK.out _ _ ⟨⟨(k5.cell 0).trans rfl, (k5.cell 1).trans rfl, (DD.box.cell 0).trans rfl, (DD.box.cell 1).trans rfl⟩, trivial⟩ (fun hNew => ?_)
    clear hK K hHeld
    have hHeld := hNew
    clear hNew
    try simp only [Act.put, List.setIfInBounds_toArray, List.set_cons_zero, List.set_cons_succ]
    generalize (Z2.setCell ⟨w.heap.size + 1, 0, none⟩ (.slice B1 m.cs.length d1)).setCell ⟨w.heap.size + 1, 1, none⟩ (.slice B5 (m.mem.length + 1) d5) = Z3 at *
    refine wpAnyF_done (by kernel_rfl) ?_ _
    have m0 := (kr.cell 0).trans (rfl : _ = some (Value.slice A1 m.cs.length c1))
    have m1 := (kr.cell 1).trans (rfl : _ = some (Value.slice A2 m.mem.length c2))
    have x0 := (ko.cell 0).trans (rfl : _ = some (Value.slice B1 m.cs.length d1))
    have x1 := (ko.cell 1).trans (rfl : _ = some (Value.slice B5 (m.mem.length + 1) d5))
    have HO := hide om
    have HD := hide DD
    have HB := hide B9
    clear kr ko k5 om DD B9 hHeld
    go_wp2
    refine bodyPost_ret (v := .tuple #[macV A1 m.cs.length c1 A2 m.mem.length c2, macV B1 m.cs.length d1 B5 (m.mem.length + 1) d5]) (by simp [results, Try.results21, go_sem, m0, m1, x0, x1]) rfl ?_
    refine ⟨m, ⟨m.cs, m.mem ++ [⟨0, 0⟩]⟩, A1, c1, A2, c2, B1, d1, B5, d5, ?_, ⟨by omega, by omega⟩, ⟨by simp only; omega, by simp only [List.length_append, List.length_singleton]; omega⟩, HO.out.rd, HD.out.rd rfl (by simp), HB.out⟩
    simp only [List.length_append, List.length_singleton]
  by_cases e1 : s = 1
  · subst e1
    clear e0
    obtain ⟨gv, hB1⟩ : ∃ gv, B1 = some ⟨gv, 0, none⟩ := by
      obtain ⟨gv, cap, cur, hA, _⟩ := own_open DB4.cs.row h0
      simp only [Value.slice.injEq, true_and] at hA
      exact ⟨gv, hA.1⟩
    subst hB1
    obtain ⟨u0, hu, hown, _⟩ := DB4.cs.rows 0 h0
    obtain ⟨L, hL⟩ : ∃ L, L = m.cs[0].length := ⟨_, rfl⟩
    rw [← hL] at hown
    have hL1 : 1 ≤ L := by rw [hL, ← getD_zero h0]; exact hmc.2.2.1
    obtain ⟨b0, cu, cur, rfl, _, hcu, hLcu, hcm, hrest⟩ := own_open hown (by omega)
    obtain ⟨y, r', hyr⟩ : ∃ y r', m.cs[0] = y :: r' := by
      match h9 : m.cs[0] with
      | [] => rw [h9] at hL; simp at hL; omega
      | y :: r' => exact ⟨y, r', rfl⟩
    have hr'L : r'.length + 1 = L := by rw [hL, hyr]; simp
    obtain ⟨z, hzv⟩ : ∃ z, IntKind.i64.wrap (y.v + 1) = z := ⟨_, rfl⟩
    have c0 := (DB4.box.cell 0).trans (rfl : _ = some (Value.slice (some ⟨gv, 0, none⟩) m.cs.length d1))
    have cg : w4.cell? ⟨gv, 0, none⟩ = some (Value.slice (some ⟨b0, 0, none⟩) L cu) := by rw [DB4.cs.row.cellAt 0 (by omega)]; exact hu
    have cv : w4.cell? ⟨b0, 2, none⟩ = some (Value.int .i64 y.v) := by rw [hown.cellAt 2 (by omega), hyr]; rfl
    have cf := hown.frozenAt 2
    have hL0 : ¬ L ≤ 0 := by omega
    have hL0' : ¬ m.cs.length ≤ 0 := by omega
    obtain ⟨D7, t7⟩ := DB4.line hu 2 (.int .i64 z) (⟨y.k, y.a, z⟩ :: r') (by simpa using hr'L) (fun _ => by rw [hyr]; rfl)
    have HD7 := hide D7
    have HT7 := hide t7
    clear DB4 D7 t7 hcu hrest cur hown hyr hL hu
    go_upto_region 9 with fail
    have b7 := HT7.out
    have D7 := HD7.out
    clear HD7 HT7 c0 cg cv cf hzv
    replace kr := kr.below b7 (by omega)
    replace ko := ko.below b7 (by omega)
    replace k5 := k5.below b7 (by omega)
    replace om := om.low HLOW.out b7
    have BB7 := BB6.trans (b7.mono (by omega))
    clear b7 BB6
    generalize w4.setCell ⟨b0, 2, none⟩ (.int .i64 z) = Y at *
    go_wp2_with fail
    replace kr := kr.kept (Below.refl Y.heap.size Y).drew
    replace ko := ko.kept (Below.refl Y.heap.size Y).drew
    replace k5 := k5.kept (Below.refl Y.heap.size Y).drew
    replace om := om.below (Below.refl Y.heap.size Y).drew
    have DD := D7.below (Below.refl Y.heap.size Y).drew
    have B9 := BB7.trans ((Below.refl Y.heap.size Y).drew.mono BB7.size)
    clear D7 BB7
    have a0 := (k5.cell 0).trans (rfl : _ = some (Value.slice A1 m.cs.length c1))
    have a1 := (k5.cell 1).trans (rfl : _ = some (Value.slice A2 m.mem.length c2))
    have a2 := (DD.box.cell 0).trans (rfl : _ = some (Value.slice (some ⟨gv, 0, none⟩) m.cs.length d1))
    have a3 := (DD.box.cell 1).trans (rfl : _ = some (Value.slice B2 m.mem.length d2))
    refine wp_region_F 99 (fun w' => w'.cell? ⟨p5, 0, none⟩ = some (Value.slice A1 m.cs.length c1) ∧ w'.cell? ⟨p5, 1, none⟩ = some (Value.slice A2 m.mem.length c2) ∧ w'.cell? ⟨p6, 0, none⟩ = some (Value.slice (some ⟨gv, 0, none⟩) m.cs.length d1) ∧ w'.cell? ⟨p6, 1, none⟩ = some (Value.slice B2 m.mem.length d2)) (fun w' => True) (by kernel_rfl) ⟨⟨a0, a1, a2, a3⟩, trivial⟩ (fun hHeld => ?_)
    try simp only [Act.put, List.setIfInBounds_toArray, List.set_cons_zero, List.set_cons_succ]
    clear a0 a1 a2 a3
    generalize Y.drew = Z at *
    refine wpAnyF_keep (i := 0) (v := ?_) (by (simp only [List.getElem?_toArray, List.getElem?_cons_zero]; rfl)) (by kernel_rfl) (by kernel_rfl) (by kernel_rfl) (by decide) (by exact fun _ _ _ h => h) ⟨hHeld.1, .inr hHeld.2⟩ (Or.inl ⟨by rfl, ?_⟩) ?_
    rotate_left
    · (intro w' hSw; (try dsimp only at hSw); obtain ⟨hSa0, hSa1, hSa2, hSa3⟩ := hSw; go_simp <;> with_reducible rfl)
    try simp only [Act.put, List.setIfInBounds_toArray, List.set_cons_zero, List.set_cons_succ]
    refine wpAnyF_keep (i := 1) (v := ?_) (by (simp only [List.getElem?_toArray, List.getElem?_cons_succ, List.getElem?_cons_zero]; rfl)) (by kernel_rfl) (by kernel_rfl) (by kernel_rfl) (by decide) (by exact fun _ _ _ h => h) ⟨hHeld.1, .inr hHeld.2⟩ (Or.inl ⟨by rfl, ?_⟩) ?_
    rotate_left
    · (intro w' hSw; (try dsimp only at hSw); obtain ⟨hSa0, hSa1, hSa2, hSa3⟩ := hSw; go_simp <;> with_reducible rfl)
    try simp only [Act.put, List.setIfInBounds_toArray, List.set_cons_zero, List.set_cons_succ]
    refine wpAnyF_ready (rs := [2]) (by kernel_rfl) (by simp) ?_
    refine AllReadyF.cons (by (simp only [List.getElem?_toArray, List.getElem?_cons_succ, List.getElem?_cons_zero]; rfl)) (fun K hK => ?_) AllReadyF.nil
    have z0 := (kr.cell 0).trans (rfl : _ = some (Value.slice none 0 0))
    have z1' := (kr.cell 1).trans (rfl : _ = some (Value.slice none 0 0))
    have f0 := kr.frozen 0
    have f1 := kr.frozen 1
    go_simp
    clear z0 z1' f0 f1
    replace kr := (kr.set_ 0 (.slice A1 m.cs.length c1)).set_ 1 (.slice A2 m.mem.length c2)
    simp only [List.setIfInBounds_toArray, List.set_cons_zero, List.set_cons_succ] at kr
    replace ko := (ko.far (p := ⟨w.heap.size, 0, none⟩) (by simp only; omega) (.slice A1 m.cs.length c1)).far (p := ⟨w.heap.size, 1, none⟩) (by simp only; omega) (.slice A2 m.mem.length c2)
    replace k5 := (k5.far (p := ⟨w.heap.size, 0, none⟩) (by simp only; omega) (.slice A1 m.cs.length c1)).far (p := ⟨w.heap.size, 1, none⟩) (by simp only; omega) (.slice A2 m.mem.length c2)
    replace om := (om.set_ (b := w.heap.size) (i := 0) (by omega) (.slice A1 m.cs.length c1)).set_ (b := w.heap.size) (i := 1) (by omega) (.slice A2 m.mem.length c2)
    replace DD := (DD.far (q := w.heap.size) (i := 0) (by omega) (.slice A1 m.cs.length c1)).far (q := w.heap.size) (i := 1) (by omega) (.slice A2 m.mem.length c2)
    replace B9 := (B9.setCell (p := ⟨w.heap.size, 0, none⟩) (by simp only; omega) (.slice A1 m.cs.length c1)).setCell (p := ⟨w.heap.size, 1, none⟩) (by simp only; omega) (.slice A2 m.mem.length c2)
    refine hK.out _ _ ⟨⟨(k5.cell 0).trans rfl, (k5.cell 1).trans rfl, (DD.box.cell 0).trans rfl, (DD.box.cell 1).trans rfl⟩, trivial⟩ (fun hNew => ?_)
    clear hK K hHeld
    have hHeld := hNew
    clear hNew
    try simp only [Act.put, List.setIfInBounds_toArray, List.set_cons_zero, List.set_cons_succ]
    generalize (Z.setCell ⟨w.heap.size, 0, none⟩ (.slice A1 m.cs.length c1)).setCell ⟨w.heap.size, 1, none⟩ (.slice A2 m.mem.length c2) = Z2 at *
    refine wpAnyF_ready (rs := [3]) (by kernel_rfl) (by simp) ?_
    refine AllReadyF.cons (by (simp only [List.getElem?_toArray, List.getElem?_cons_succ, List.getElem?_cons_zero]; rfl)) (fun K hK => ?_) AllReadyF.nil
    have z0 := (ko.cell 0).trans (rfl : _ = some (Value.slice none 0 0))
    have z1' := (ko.cell 1).trans (rfl : _ = some (Value.slice none 0 0))
    have f0 := ko.frozen 0
    have f1 := ko.frozen 1
    go_simp
    clear z0 z1' f0 f1
    replace ko := (ko.set_ 0 (.slice (some ⟨gv, 0, none⟩) m.cs.length d1)).set_ 1 (.slice B2 m.mem.length d2)
    simp only [List.setIfInBounds_toArray, List.set_cons_zero, List.set_cons_succ] at ko
    replace kr := (kr.far (p := ⟨w.heap.size + 1, 0, none⟩) (by simp only; omega) (.slice (some ⟨gv, 0, none⟩) m.cs.length d1)).far (p := ⟨w.heap.size + 1, 1, none⟩) (by simp only; omega) (.slice B2 m.mem.length d2)
    replace k5 := (k5.far (p := ⟨w.heap.size + 1, 0, none⟩) (by simp only; omega) (.slice (some ⟨gv, 0, none⟩) m.cs.length d1)).far (p := ⟨w.heap.size + 1, 1, none⟩) (by simp only; omega) (.slice B2 m.mem.length d2)
    replace om := (om.set_ (b := w.heap.size + 1) (i := 0) (by omega) (.slice (some ⟨gv, 0, none⟩) m.cs.length d1)).set_ (b := w.heap.size + 1) (i := 1) (by omega) (.slice B2 m.mem.length d2)
    replace DD := (DD.far (q := w.heap.size + 1) (i := 0) (by omega) (.slice (some ⟨gv, 0, none⟩) m.cs.length d1)).far (q := w.heap.size + 1) (i := 1) (by omega) (.slice B2 m.mem.length d2)
    replace B9 := (B9.setCell (p := ⟨w.heap.size + 1, 0, none⟩) (by simp only; omega) (.slice (some ⟨gv, 0, none⟩) m.cs.length d1)).setCell (p := ⟨w.heap.size + 1, 1, none⟩) (by simp only; omega) (.slice B2 m.mem.length d2)
    refine hK.out _ _ ⟨⟨(k5.cell 0).trans rfl, (k5.cell 1).trans rfl, (DD.box.cell 0).trans rfl, (DD.box.cell 1).trans rfl⟩, trivial⟩ (fun hNew => ?_)
    clear hK K hHeld
    have hHeld := hNew
    clear hNew
    try simp only [Act.put, List.setIfInBounds_toArray, List.set_cons_zero, List.set_cons_succ]
    generalize (Z2.setCell ⟨w.heap.size + 1, 0, none⟩ (.slice (some ⟨gv, 0, none⟩) m.cs.length d1)).setCell ⟨w.heap.size + 1, 1, none⟩ (.slice B2 m.mem.length d2) = Z3 at *
    refine wpAnyF_done (by kernel_rfl) ?_ _
    have m0 := (kr.cell 0).trans (rfl : _ = some (Value.slice A1 m.cs.length c1))
    have m1 := (kr.cell 1).trans (rfl : _ = some (Value.slice A2 m.mem.length c2))
    have x0 := (ko.cell 0).trans (rfl : _ = some (Value.slice (some ⟨gv, 0, none⟩) m.cs.length d1))
    have x1 := (ko.cell 1).trans (rfl : _ = some (Value.slice B2 m.mem.length d2))
    have HO := hide om
    have HD := hide DD
    have HB := hide B9
    clear kr ko k5 om DD B9 hHeld
    go_wp2
    refine bodyPost_ret (v := .tuple #[macV A1 m.cs.length c1 A2 m.mem.length c2, macV (some ⟨gv, 0, none⟩) m.cs.length d1 B2 m.mem.length d2]) (by simp [results, Try.results21, go_sem, m0, m1, x0, x1]) rfl ?_
    refine ⟨m, ⟨m.cs.set 0 (⟨y.k, y.a, z⟩ :: r'), m.mem⟩, A1, c1, A2, c2, (some ⟨gv, 0, none⟩), d1, B2, d2, ?_, ⟨by omega, by omega⟩, ⟨by rw [List.length_set]; omega, by simp only; omega⟩, HO.out.rd, HD.out.rd (by rw [List.length_set]) rfl, HB.out⟩
    simp only [List.length_set]
  have q0 : (s == 0) = false := beq_eq_false_iff_ne.2 e0
  have q1 : (s == 1) = false := beq_eq_false_iff_ne.2 e1
  clear e0 e1
  go_upto_region 9 with fail
  clear q0 q1
  go_wp2_with fail
  replace kr := kr.kept (Below.refl w4.heap.size w4).drew
  replace ko := ko.kept (Below.refl w4.heap.size w4).drew
  replace k5 := k5.kept (Below.refl w4.heap.size w4).drew
  replace om := om.below (Below.refl w4.heap.size w4).drew
  have DD := DB4.below (Below.refl w4.heap.size w4).drew
  have B9 := BB6.trans ((Below.refl w4.heap.size w4).drew.mono BB6.size)
  clear DB4 BB6
  have a0 := (k5.cell 0).trans (rfl : _ = some (Value.slice A1 m.cs.length c1))
  have a1 := (k5.cell 1).trans (rfl : _ = some (Value.slice A2 m.mem.length c2))
  have a2 := (DD.box.cell 0).trans (rfl : _ = some (Value.slice B1 m.cs.length d1))
  have a3 := (DD.box.cell 1).trans (rfl : _ = some (Value.slice B2 m.mem.length d2))
  refine wp_region_F 99 (fun w' => w'.cell? ⟨p5, 0, none⟩ = some (Value.slice A1 m.cs.length c1) ∧ w'.cell? ⟨p5, 1, none⟩ = some (Value.slice A2 m.mem.length c2) ∧ w'.cell? ⟨p6, 0, none⟩ = some (Value.slice B1 m.cs.length d1) ∧ w'.cell? ⟨p6, 1, none⟩ = some (Value.slice B2 m.mem.length d2)) (fun w' => True) (by kernel_rfl) ⟨⟨a0, a1, a2, a3⟩, trivial⟩ (fun hHeld => ?_)
  try simp only [Act.put, List.setIfInBounds_toArray, List.set_cons_zero, List.set_cons_succ]
  clear a0 a1 a2 a3
  generalize w4.drew = Z at *
  refine wpAnyF_keep (i := 0) (v := ?_) (by (simp only [List.getElem?_toArray, List.getElem?_cons_zero]; rfl)) (by kernel_rfl) (by kernel_rfl) (by kernel_rfl) (by decide) (by exact fun _ _ _ h => h) ⟨hHeld.1, .inr hHeld.2⟩ (Or.inl ⟨by rfl, ?_⟩) ?_
  rotate_left
  · (intro w' hSw; (try dsimp only at hSw); obtain ⟨hSa0, hSa1, hSa2, hSa3⟩ := hSw; go_simp <;> with_reducible rfl)
  try simp only [Act.put, List.setIfInBounds_toArray, List.set_cons_zero, List.set_cons_succ]
  refine wpAnyF_keep (i := 1) (v := ?_) (by (simp only [List.getElem?_toArray, List.getElem?_cons_succ, List.getElem?_cons_zero]; rfl)) (by kernel_rfl) (by kernel_rfl) (by kernel_rfl) (by decide) (by exact fun _ _ _ h => h) ⟨hHeld.1, .inr hHeld.2⟩ (Or.inl ⟨by rfl, ?_⟩) ?_
  rotate_left
  · (intro w' hSw; (try dsimp only at hSw); obtain ⟨hSa0, hSa1, hSa2, hSa3⟩ := hSw; go_simp <;> with_reducible rfl)
  try simp only [Act.put, List.setIfInBounds_toArray, List.set_cons_zero, List.set_cons_succ]
  refine wpAnyF_ready (rs := [2]) (by kernel_rfl) (by simp) ?_
  refine AllReadyF.cons (by (simp only [List.getElem?_toArray, List.getElem?_cons_succ, List.getElem?_cons_zero]; rfl)) (fun K hK => ?_) AllReadyF.nil
  have z0 := (kr.cell 0).trans (rfl : _ = some (Value.slice none 0 0))
  have z1' := (kr.cell 1).trans (rfl : _ = some (Value.slice none 0 0))
  have f0 := kr.frozen 0
  have f1 := kr.frozen 1
  go_simp
  clear z0 z1' f0 f1
  replace kr := (kr.set_ 0 (.slice A1 m.cs.length c1)).set_ 1 (.slice A2 m.mem.length c2)
  simp only [List.setIfInBounds_toArray, List.set_cons_zero, List.set_cons_succ] at kr
  replace ko := (ko.far (p := ⟨w.heap.size, 0, none⟩) (by simp only; omega) (.slice A1 m.cs.length c1)).far (p := ⟨w.heap.size, 1, none⟩) (by simp only; omega) (.slice A2 m.mem.length c2)
  replace k5 := (k5.far (p := ⟨w.heap.size, 0, none⟩) (by simp only; omega) (.slice A1 m.cs.length c1)).far (p := ⟨w.heap.size, 1, none⟩) (by simp only; omega) (.slice A2 m.mem.length c2)
  replace om := (om.set_ (b := w.heap.size) (i := 0) (by omega) (.slice A1 m.cs.length c1)).set_ (b := w.heap.size) (i := 1) (by omega) (.slice A2 m.mem.length c2)
  replace DD := (DD.far (q := w.heap.size) (i := 0) (by omega) (.slice A1 m.cs.length c1)).far (q := w.heap.size) (i := 1) (by omega) (.slice A2 m.mem.length c2)
  replace B9 := (B9.setCell (p := ⟨w.heap.size, 0, none⟩) (by simp only; omega) (.slice A1 m.cs.length c1)).setCell (p := ⟨w.heap.size, 1, none⟩) (by simp only; omega) (.slice A2 m.mem.length c2)
  refine hK.out _ _ ⟨⟨(k5.cell 0).trans rfl, (k5.cell 1).trans rfl, (DD.box.cell 0).trans rfl, (DD.box.cell 1).trans rfl⟩, trivial⟩ (fun hNew => ?_)
  clear hK K hHeld
  have hHeld := hNew
  clear hNew
  try simp only [Act.put, List.setIfInBounds_toArray, List.set_cons_zero, List.set_cons_succ]
  generalize (Z.setCell ⟨w.heap.size, 0, none⟩ (.slice A1 m.cs.length c1)).setCell ⟨w.heap.size, 1, none⟩ (.slice A2 m.mem.length c2) = Z2 at *
  refine wpAnyF_ready (rs := [3]) (by kernel_rfl) (by simp) ?_
  refine AllReadyF.cons (by (simp only [List.getElem?_toArray, List.getElem?_cons_succ, List.getElem?_cons_zero]; rfl)) (fun K hK => ?_) AllReadyF.nil
  have z0 := (ko.cell 0).trans (rfl : _ = some (Value.slice none 0 0))
  have z1' := (ko.cell 1).trans (rfl : _ = some (Value.slice none 0 0))
  have f0 := ko.frozen 0
  have f1 := ko.frozen 1
  go_simp
  clear z0 z1' f0 f1
  replace ko := (ko.set_ 0 (.slice B1 m.cs.length d1)).set_ 1 (.slice B2 m.mem.length d2)
  simp only [List.setIfInBounds_toArray, List.set_cons_zero, List.set_cons_succ] at ko
  replace kr := (kr.far (p := ⟨w.heap.size + 1, 0, none⟩) (by simp only; omega) (.slice B1 m.cs.length d1)).far (p := ⟨w.heap.size + 1, 1, none⟩) (by simp only; omega) (.slice B2 m.mem.length d2)
  replace k5 := (k5.far (p := ⟨w.heap.size + 1, 0, none⟩) (by simp only; omega) (.slice B1 m.cs.length d1)).far (p := ⟨w.heap.size + 1, 1, none⟩) (by simp only; omega) (.slice B2 m.mem.length d2)
  replace om := (om.set_ (b := w.heap.size + 1) (i := 0) (by omega) (.slice B1 m.cs.length d1)).set_ (b := w.heap.size + 1) (i := 1) (by omega) (.slice B2 m.mem.length d2)
  replace DD := (DD.far (q := w.heap.size + 1) (i := 0) (by omega) (.slice B1 m.cs.length d1)).far (q := w.heap.size + 1) (i := 1) (by omega) (.slice B2 m.mem.length d2)
  replace B9 := (B9.setCell (p := ⟨w.heap.size + 1, 0, none⟩) (by simp only; omega) (.slice B1 m.cs.length d1)).setCell (p := ⟨w.heap.size + 1, 1, none⟩) (by simp only; omega) (.slice B2 m.mem.length d2)
  refine hK.out _ _ ⟨⟨(k5.cell 0).trans rfl, (k5.cell 1).trans rfl, (DD.box.cell 0).trans rfl, (DD.box.cell 1).trans rfl⟩, trivial⟩ (fun hNew => ?_)
  clear hK K hHeld
  have hHeld := hNew
  clear hNew
  try simp only [Act.put, List.setIfInBounds_toArray, List.set_cons_zero, List.set_cons_succ]
  generalize (Z2.setCell ⟨w.heap.size + 1, 0, none⟩ (.slice B1 m.cs.length d1)).setCell ⟨w.heap.size + 1, 1, none⟩ (.slice B2 m.mem.length d2) = Z3 at *
  refine wpAnyF_done (by kernel_rfl) ?_ _
  have m0 := (kr.cell 0).trans (rfl : _ = some (Value.slice A1 m.cs.length c1))
  have m1 := (kr.cell 1).trans (rfl : _ = some (Value.slice A2 m.mem.length c2))
  have x0 := (ko.cell 0).trans (rfl : _ = some (Value.slice B1 m.cs.length d1))
  have x1 := (ko.cell 1).trans (rfl : _ = some (Value.slice B2 m.mem.length d2))
  have HO := hide om
  have HD := hide DD
  have HB := hide B9
  clear kr ko k5 om DD B9 hHeld
  go_wp2
  refine bodyPost_ret (v := .tuple #[macV A1 m.cs.length c1 A2 m.mem.length c2, macV B1 m.cs.length d1 B2 m.mem.length d2]) (by simp [results, Try.results21, go_sem, m0, m1, x0, x1]) rfl ?_
  refine ⟨m, ⟨m.cs, m.mem⟩, A1, c1, A2, c2, B1, d1, B2, d2, ?_, ⟨by omega, by omega⟩, ⟨by simp only; omega, by simp only; omega⟩, HO.out.rd, HD.out.rd rfl rfl, HB.out⟩
  rfl
end Go.Proofs.Ytifijhfeeammkaa
