/- What the laws' walks rest upon, part 23. -/
import Derived.Test.YtnnfkmjhaljplaaM10
import Derived.Test.YtnnfkmjhaljplaaM19
import Derived.Test.YtnnfkmjhaljplaaM20
import Derived.Test.YtnnfkmjhaljplaaM21
import Derived.Test.YtnnfkmjhaljplaaM22
import Derived.Deep.RegionHeld3
import Derived.Deep.DeepCutAuto
import Derived.Test.YtnnfkmjhaljplaaM11
import Derived.Test.YtnnfkmjhaljplaaM12
import Derived.Test.YtnnfkmjhaljplaaM04
import Derived.Test.YtnnfkmjhaljplaaM06
import Derived.StillTailTactics
import Derived.Lib.Hide
namespace Go.Proofs.Ytnnfkmjhaljplaa
open Go.RowKit
theorem keep2o {W w w' : World} {a0 a1 : Addr} {v0 v1 : Value} (hb : Below w.heap.size w w') (h : w.cell? a0 = some v0 ∧ w.cell? a1 = some v1 ∧ Below W.heap.size W w) :
  w'.cell? a0 = some v0 ∧ w'.cell? a1 = some v1 ∧ Below W.heap.size W w' :=
 ⟨cell_kept hb h.1, cell_kept hb h.2.1, h.2.2.trans (hb.mono h.2.2.size)⟩
theorem odO_few (ss : List Stp) (n : Int) : (odL ss n).length ≤ 32 := by
 by_cases h : logF ss n = 0
 ·obtain ⟨_, h2, _, _⟩ := logF_zero h
  obtain ⟨h3, h4⟩ := ordW_len ss
  rw [odL_ok h]
  omega
 ·rw [odL_bad h]; simp
theorem field_odC (a : Int) (D : Option Addr) (n d : Nat) (W : World) : (Instr.field 29 (.agg #[.int .i64 a, .slice D n d]) 0).run Try.prog W = .ok (.int .i64 a) W := by kernel_rfl
theorem field_odD (a : Int) (D : Option Addr) (n d : Nat) (W : World) : (Instr.field 29 (.agg #[.int .i64 a, .slice D n d]) 1).run Try.prog W = .ok (.slice D n d) W := by kernel_rfl
theorem field_lg1 (a : Int) (D : Option Addr) (n d : Nat) (W : World) : (Instr.field 39 (.agg #[.int .i64 a, .slice D n d]) 1).run Try.prog W = .ok (.slice D n d) W := by kernel_rfl
set_option maxRecDepth 100000 in
set_option maxHeartbeats 6400000 in
theorem FnOrders_walk (HB : LdOk) (l : List Int) (A : Option Addr) (c : Nat) (w : World) (hl : l.length ≤ maxLen) (h : Rd .u8 w w.heap.size A l) (b8 : B8 l) :
  Calls Try.prog 3 #[.slice A l.length c] w fun e w' => e = .returned (.bool true) ∧ Below w.heap.size w w' := by
 by_cases hL : l.length ≤ 1048576
 ·clear hl
  go_enter Try.func3, Try.ntmps3
  go_wp2_with fail
  refine (lwBig_no l A c w hL).mono ?_
  rintro e w0 ⟨rfl, rfl⟩
  go_wp2_with fail
  refine (DrawOrdersOf_any l A c w hL h b8).mono ?_
  rintro e w1 ⟨ss, D1, d1, n, rfl, hss, r1, B⟩
  have R := h.below B
  have zB := B.size
  clear h
  have lt : ss.length ≤ maxLen := by unfold maxLen; omega
  have hof := odO_few ss n
  obtain ⟨O, hO⟩ : ∃ x, x = odL ss n := ⟨_, rfl⟩
  obtain ⟨C, hC⟩ : ∃ x, x = logF ss n := ⟨_, rfl⟩
  have IO := hide (fun W hW => implOd_any ss n D1 d1 W lt hW)
  have SO := hide (fun W hW => specOd_any ss n D1 d1 W lt hW)
  have IS := hide (fun W hW => implSp_any ss n D1 d1 W lt hW)
  unfold OdPost at IO SO
  unfold SlPost at IS
  rw [← hO, ← hC] at IO SO
  rw [← hC] at IS
  rw [← hO] at hof
  have HO := hide hO
  have HC := hide hC
  clear hO hC
  go_wp2_with fail
  refine (IO.out _ r1).mono ?_
  rintro e w2 ⟨Ae, ce, ue, rfl, o2, b2⟩
  have z_1 := Below.size b2
  replace r1 := (r1.below b2).lt
  replace R := R.below (b2.mono (by omega))
  replace B := B.trans (b2.mono B.size)
  clear b2
  have ro := o2.rd
  clear o2 IO
  have e_ := (Below.refl w2.heap.size w2).alloc (Nat.le_refl _) (Obj.cells #[Value.int .i64 C, .slice Ae O.length ce] 29)
  have zz_1 : (w2.alloc (Obj.cells #[Value.int .i64 C, .slice Ae O.length ce] 29)).heap.size = w2.heap.size + 1 := by simp
  have z_2 := Below.size e_
  replace r1 := (r1.below e_).lt
  replace R := R.below (e_.mono (by omega))
  replace B := B.trans (e_.mono B.size)
  replace ro := (ro.below e_).lt
  clear e_
  have k5 := Bk.new w2 #[Value.int .i64 C, .slice Ae O.length ce] 29
  go_wp2_with fail
  refine (DrawOrderFault_any HB l A c _ hL (R.more (by omega)) b8).mono ?_
  rintro e w3 ⟨t, os, D3, E3, d3, ec3, rfl, ht5, ht, ho, hid, rt, rw3, b3⟩
  have z_3 := Below.size b3
  replace r1 := (r1.below b3).lt
  replace R := R.below (b3.mono (by omega))
  replace B := B.trans (b3.mono B.size)
  replace ro := (ro.below b3).lt
  replace k5 := k5.kept b3
  clear b3
  clear ht hid
  go_wp2_with fail
  refine (DrawSameOrders_any HB l A c _ hL (R.more (by omega)) b8).mono ?_
  rintro e w4 ⟨a, b, D4, E4, d4, ec4, rfl, ha, hb, ra, rb, b4⟩
  have z_4 := Below.size b4
  replace r1 := (r1.below b4).lt
  replace R := R.below (b4.mono (by omega))
  replace B := B.trans (b4.mono B.size)
  replace ro := (ro.below b4).lt
  replace k5 := k5.kept b4
  replace rt := (rt.below b4).lt
  replace rw3 := (rw3.below b4).lt
  clear b4
  have hOO : sameO O O = true := if_pos rfl
  have IA := hide (fun W A' c' h h' => implSO_any O O Ae A' ce c' W (by unfold maxLen; omega) h h')
  rw [hOO] at IA
  have IF := hide (fun W h h' => implOrF_any t os D3 E3 d3 ec3 W (by unfold maxLen; omega) (by unfold maxLen; omega) h h')
  have SF := hide (fun W h h' => specOrF_any t os D3 E3 d3 ec3 W (by unfold maxLen; omega) (by unfold maxLen; omega) h h')
  have IB := hide (fun W h h' => implSO_any a b D4 E4 d4 ec4 W (by unfold maxLen; omega) h h')
  have SB := hide (fun W h h' => specSO_any a b D4 E4 d4 ec4 W (by unfold maxLen; omega) h h')
  obtain ⟨f, hf⟩ : ∃ x, x = odF t os := ⟨_, rfl⟩
  obtain ⟨sb, hsb⟩ : ∃ x, x = sameO a b := ⟨_, rfl⟩
  rw [← hf] at IF SF
  rw [← hsb] at IB SB
  clear hf hsb hOO
  go_upto_region 7 with fail
  have HKK := hide k5
  have c0 : w4.drew.cell? ⟨w2.heap.size, 0, none⟩ = some (.int .i64 C) := (k5.cell 0).trans rfl
  have c1 : w4.drew.cell? ⟨w2.heap.size, 1, none⟩ = some (.slice Ae O.length ce) := (k5.cell 1).trans rfl
  have bD : Below w4.heap.size w4 w4.drew := (Below.refl _ _).drew
  have hfi0 := fun D n d W => field_odC C D n d W
  have hfi1 := fun D n d W => field_odD C D n d W
  have hCC : (C != C) = false := by simp
  have hff : (f != f) = false := by simp
  have hss2 : (sb != sb) = false := by simp
  refine wp_region_F 32 (fun w' => w'.cell? ⟨w2.heap.size, 0, none⟩ = some (.int .i64 C) ∧ w'.cell? ⟨w2.heap.size, 1, none⟩ = some (.slice Ae O.length ce) ∧ Below w4.heap.size w4 w') (fun w' => True) (by kernel_rfl) ⟨⟨c0, c1, bD⟩, trivial⟩ (fun hHeld => ?_)
  try simp only [Act.put, List.setIfInBounds_toArray, List.set_cons_zero, List.set_cons_succ]
  refine wpAnyF_take (i := 0) (v := ?_) (by (simp only [List.getElem?_toArray, List.getElem?_cons_zero]; rfl)) (by kernel_rfl) (by kernel_rfl) (by kernel_rfl) (by decide) (by exact fun _ _ _ h => h) ⟨hHeld.1, .inr hHeld.2⟩ (Or.inl ⟨by rfl, ?_⟩) ?_
  rotate_left
  ·(intro w' _; go_simp <;> with_reducible rfl)
  try simp only [Act.put, List.setIfInBounds_toArray, List.set_cons_zero, List.set_cons_succ]
  refine wpAnyF_keep (i := 1) (v := ?_) (by (simp only [List.getElem?_toArray, List.getElem?_cons_succ, List.getElem?_cons_zero]; rfl)) (by kernel_rfl) (by kernel_rfl) (by kernel_rfl) (by decide) (by exact fun _ _ _ h => h) ⟨hHeld.1, .inr hHeld.2⟩ (Or.inl ⟨by rfl, ?_⟩) ?_
  rotate_left
  ·(intro w' hSw; (try dsimp only at hSw); obtain ⟨hSa0, hSa1, hSa2⟩ := hSw; go_simp <;> with_reducible rfl)
  try simp only [Act.put, List.setIfInBounds_toArray, List.set_cons_zero, List.set_cons_succ]
  refine wpAnyF_take (i := 2) (v := ?_) (by (simp only [List.getElem?_toArray, List.getElem?_cons_succ, List.getElem?_cons_zero]; rfl)) (by kernel_rfl) (by kernel_rfl) (by kernel_rfl) (by decide) (by exact fun _ _ _ h => h) ⟨hHeld.1, .inr hHeld.2⟩ (Or.inl ⟨by rfl, ?_⟩) ?_
  rotate_left
  ·(intro w' _; go_simp <;> with_reducible rfl)
  try simp only [Act.put, List.setIfInBounds_toArray, List.set_cons_zero, List.set_cons_succ]
  refine wpAnyF_take (i := 3) (v := ?_) (by (simp only [List.getElem?_toArray, List.getElem?_cons_succ, List.getElem?_cons_zero]; rfl)) (by kernel_rfl) (by kernel_rfl) (by kernel_rfl) (by decide) (by exact fun _ _ _ h => h) ⟨hHeld.1, .inr hHeld.2⟩ (Or.inl ⟨by rfl, ?_⟩) ?_
  rotate_left
  ·(intro w' _; go_simp <;> with_reducible rfl)
  try simp only [Act.put, List.setIfInBounds_toArray, List.set_cons_zero, List.set_cons_succ]
  refine wpAnyF_ready (rs := [4]) (by kernel_rfl) (by simp) ?_
  refine AllReadyF.cons (by (simp only [List.getElem?_toArray, List.getElem?_cons_succ, List.getElem?_cons_zero]; rfl)) (fun K hK => ?_) AllReadyF.nil
  go_simp
  go_at_call 11
  refine (SO.out _ (r1.below hHeld.1.2.2).lt).mono ?_
  rintro e wa ⟨Aa, ca, ua, rfl, oa, ba⟩
  refine hK.out _ _ ⟨keep2o ba hHeld.1, trivial⟩ (fun hNew => ?_)
  clear hK K hHeld
  have hHeld := hNew
  clear hNew
  try simp only [Act.put, List.setIfInBounds_toArray, List.set_cons_zero, List.set_cons_succ]
  refine wpAnyF_take (i := 5) (v := ?_) (by (simp only [List.getElem?_toArray, List.getElem?_cons_succ, List.getElem?_cons_zero]; rfl)) (by kernel_rfl) (by kernel_rfl) (by kernel_rfl) (by decide) (by exact fun _ _ _ h => h) ⟨hHeld.1, .inr hHeld.2⟩ (Or.inl ⟨by rfl, ?_⟩) ?_
  rotate_left
  ·(intro w' _; go_simp <;> with_reducible rfl)
  try simp only [Act.put, List.setIfInBounds_toArray, List.set_cons_zero, List.set_cons_succ]
  refine wpAnyF_take (i := 6) (v := ?_) (by (simp only [List.getElem?_toArray, List.getElem?_cons_succ, List.getElem?_cons_zero]; rfl)) (by kernel_rfl) (by kernel_rfl) (by kernel_rfl) (by decide) (by exact fun _ _ _ h => h) ⟨hHeld.1, .inr hHeld.2⟩ (Or.inl ⟨by rfl, ?_⟩) ?_
  rotate_left
  ·(intro w' _; go_simp <;> with_reducible rfl)
  try simp only [Act.put, List.setIfInBounds_toArray, List.set_cons_zero, List.set_cons_succ]
  refine wpAnyF_take (i := 7) (v := ?_) (by (simp only [List.getElem?_toArray, List.getElem?_cons_succ, List.getElem?_cons_zero]; rfl)) (by kernel_rfl) (by kernel_rfl) (by kernel_rfl) (by decide) (by exact fun _ _ _ h => h) ⟨hHeld.1, .inr hHeld.2⟩ (Or.inl ⟨by rfl, ?_⟩) ?_
  rotate_left
  ·(intro w' _; go_simp <;> with_reducible rfl)
  try simp only [Act.put, List.setIfInBounds_toArray, List.set_cons_zero, List.set_cons_succ]
  refine wpAnyF_take (i := 8) (v := ?_) (by (simp only [List.getElem?_toArray, List.getElem?_cons_succ, List.getElem?_cons_zero]; rfl)) (by kernel_rfl) (by kernel_rfl) (by kernel_rfl) (by decide) (by exact fun _ _ _ h => h) ⟨hHeld.1, .inr hHeld.2⟩ (Or.inl ⟨by rfl, ?_⟩) ?_
  rotate_left
  ·(intro w' _; go_simp <;> with_reducible rfl)
  try simp only [Act.put, List.setIfInBounds_toArray, List.set_cons_zero, List.set_cons_succ]
  refine wpAnyF_keep (i := 9) (v := ?_) (by (simp only [List.getElem?_toArray, List.getElem?_cons_succ, List.getElem?_cons_zero]; rfl)) (by kernel_rfl) (by kernel_rfl) (by kernel_rfl) (by decide) (by exact fun _ _ _ h => h) ⟨hHeld.1, .inr hHeld.2⟩ (Or.inl ⟨by rfl, ?_⟩) ?_
  rotate_left
  ·(intro w' hSw; (try dsimp only at hSw); obtain ⟨hSa0, hSa1, hSa2⟩ := hSw; go_simp <;> with_reducible rfl)
  try simp only [Act.put, List.setIfInBounds_toArray, List.set_cons_zero, List.set_cons_succ]
  refine wpAnyF_take (i := 10) (v := ?_) (by (simp only [List.getElem?_toArray, List.getElem?_cons_succ, List.getElem?_cons_zero]; rfl)) (by kernel_rfl) (by kernel_rfl) (by kernel_rfl) (by decide) (by exact fun _ _ _ h => h) ⟨hHeld.1, .inr hHeld.2⟩ (Or.inl ⟨by rfl, ?_⟩) ?_
  rotate_left
  ·(intro w' _; go_simp <;> with_reducible rfl)
  try simp only [Act.put, List.setIfInBounds_toArray, List.set_cons_zero, List.set_cons_succ]
  refine wpAnyF_take (i := 11) (v := ?_) (by (simp only [List.getElem?_toArray, List.getElem?_cons_succ, List.getElem?_cons_zero]; rfl)) (by kernel_rfl) (by kernel_rfl) (by kernel_rfl) (by decide) (by exact fun _ _ _ h => h) ⟨hHeld.1, .inr hHeld.2⟩ (Or.inl ⟨by rfl, ?_⟩) ?_
  rotate_left
  ·(intro w' _; go_simp <;> with_reducible rfl)
  try simp only [Act.put, List.setIfInBounds_toArray, List.set_cons_zero, List.set_cons_succ]
  refine wpAnyF_ready (rs := [12]) (by kernel_rfl) (by simp) ?_
  refine AllReadyF.cons (by (simp only [List.getElem?_toArray, List.getElem?_cons_succ, List.getElem?_cons_zero]; rfl)) (fun K hK => ?_) AllReadyF.nil
  go_simp
  go_at_call 11
  refine (SO.out _ (r1.below hHeld.1.2.2).lt).mono ?_
  rintro e wb ⟨Ab, cb, ub, rfl, ob, bb⟩
  have rob := ob.rd
  refine hK.out _ _ ⟨keep2o bb hHeld.1, trivial⟩ (fun hNew => ?_)
  clear hK K hHeld
  have hHeld := hNew
  clear hNew
  try simp only [Act.put, List.setIfInBounds_toArray, List.set_cons_zero, List.set_cons_succ]
  refine wpAnyF_take (i := 13) (v := ?_) (by (simp only [List.getElem?_toArray, List.getElem?_cons_succ, List.getElem?_cons_zero]; rfl)) (by kernel_rfl) (by kernel_rfl) (by kernel_rfl) (by decide) (by exact fun _ _ _ h => h) ⟨hHeld.1, .inr hHeld.2⟩ (Or.inl ⟨by rfl, ?_⟩) ?_
  rotate_left
  ·(intro w' _; go_simp <;> with_reducible rfl)
  try simp only [Act.put, List.setIfInBounds_toArray, List.set_cons_zero, List.set_cons_succ]
  refine wpAnyF_ready (rs := [14]) (by kernel_rfl) (by simp) ?_
  refine AllReadyF.cons (by (simp only [List.getElem?_toArray, List.getElem?_cons_succ, List.getElem?_cons_zero]; rfl)) (fun K hK => ?_) AllReadyF.nil
  go_simp
  go_at_call 12
  refine (IA.out _ Ab cb (ro.below hHeld.1.2.2).lt rob).mono ?_
  rintro e wc ⟨rfl, bc⟩
  refine hK.out _ _ ⟨keep2o bc hHeld.1, trivial⟩ (fun hNew => ?_)
  clear hK K hHeld
  have hHeld := hNew
  clear hNew
  try simp only [Act.put, List.setIfInBounds_toArray, List.set_cons_zero, List.set_cons_succ]
  refine wpAnyF_take (i := 15) (v := ?_) (by (simp only [List.getElem?_toArray, List.getElem?_cons_succ, List.getElem?_cons_zero]; rfl)) (by kernel_rfl) (by kernel_rfl) (by kernel_rfl) (by decide) (by exact fun _ _ _ h => h) ⟨hHeld.1, .inr hHeld.2⟩ (Or.inl ⟨by rfl, ?_⟩) ?_
  rotate_left
  ·(intro w' _; go_simp <;> with_reducible rfl)
  try simp only [Act.put, List.setIfInBounds_toArray, List.set_cons_zero, List.set_cons_succ]
  refine wpAnyF_take (i := 16) (v := ?_) (by (simp only [List.getElem?_toArray, List.getElem?_cons_succ, List.getElem?_cons_zero]; rfl)) (by kernel_rfl) (by kernel_rfl) (by kernel_rfl) (by decide) (by exact fun _ _ _ h => h) ⟨hHeld.1, .inr hHeld.2⟩ (Or.inl ⟨by rfl, ?_⟩) ?_
  rotate_left
  ·(intro w' _; go_simp <;> with_reducible rfl)
  try simp only [Act.put, List.setIfInBounds_toArray, List.set_cons_zero, List.set_cons_succ]
  refine wpAnyF_take (i := 17) (v := ?_) (by (simp only [List.getElem?_toArray, List.getElem?_cons_succ, List.getElem?_cons_zero]; rfl)) (by kernel_rfl) (by kernel_rfl) (by kernel_rfl) (by decide) (by exact fun _ _ _ h => h) ⟨hHeld.1, .inr hHeld.2⟩ (Or.inl ⟨by rfl, ?_⟩) ?_
  rotate_left
  ·(intro w' _; go_simp <;> with_reducible rfl)
  try simp only [Act.put, List.setIfInBounds_toArray, List.set_cons_zero, List.set_cons_succ]
  refine wpAnyF_take (i := 18) (v := ?_) (by (simp only [List.getElem?_toArray, List.getElem?_cons_succ, List.getElem?_cons_zero]; rfl)) (by kernel_rfl) (by kernel_rfl) (by kernel_rfl) (by decide) (by exact fun _ _ _ h => h) ⟨hHeld.1, .inr hHeld.2⟩ (Or.inl ⟨by rfl, ?_⟩) ?_
  rotate_left
  ·(intro w' _; go_simp <;> with_reducible rfl)
  try simp only [Act.put, List.setIfInBounds_toArray, List.set_cons_zero, List.set_cons_succ]
  refine wpAnyF_take (i := 19) (v := ?_) (by (simp only [List.getElem?_toArray, List.getElem?_cons_succ, List.getElem?_cons_zero]; rfl)) (by kernel_rfl) (by kernel_rfl) (by kernel_rfl) (by decide) (by exact fun _ _ _ h => h) ⟨hHeld.1, .inr hHeld.2⟩ (Or.inl ⟨by rfl, ?_⟩) ?_
  rotate_left
  ·(intro w' _; go_simp <;> with_reducible rfl)
  try simp only [Act.put, List.setIfInBounds_toArray, List.set_cons_zero, List.set_cons_succ]
  refine wpAnyF_take (i := 21) (v := ?_) (by (simp only [List.getElem?_toArray, List.getElem?_cons_succ, List.getElem?_cons_zero]; rfl)) (by kernel_rfl) (by kernel_rfl) (by kernel_rfl) (by decide) (by exact fun _ _ _ h => h) ⟨hHeld.1, .inr hHeld.2⟩ (Or.inl ⟨by rfl, ?_⟩) ?_
  rotate_left
  ·(intro w' _; go_simp <;> with_reducible rfl)
  try simp only [Act.put, List.setIfInBounds_toArray, List.set_cons_zero, List.set_cons_succ]
  refine wpAnyF_take (i := 22) (v := ?_) (by (simp only [List.getElem?_toArray, List.getElem?_cons_succ, List.getElem?_cons_zero]; rfl)) (by kernel_rfl) (by kernel_rfl) (by kernel_rfl) (by decide) (by exact fun _ _ _ h => h) ⟨hHeld.1, .inr hHeld.2⟩ (Or.inl ⟨by rfl, ?_⟩) ?_
  rotate_left
  ·(intro w' _; go_simp <;> with_reducible rfl)
  try simp only [Act.put, List.setIfInBounds_toArray, List.set_cons_zero, List.set_cons_succ]
  refine wpAnyF_ready (rs := [20]) (by kernel_rfl) (by simp) ?_
  refine AllReadyF.cons (by (simp only [List.getElem?_toArray, List.getElem?_cons_succ, List.getElem?_cons_zero]; rfl)) (fun K hK => ?_) AllReadyF.nil
  go_simp
  go_at_call 13
  refine (IF.out _ (rt.below hHeld.1.2.2).lt (rw3.below hHeld.1.2.2).lt).mono ?_
  rintro e wd ⟨rfl, bd⟩
  refine hK.out _ _ ⟨keep2o bd hHeld.1, trivial⟩ (fun hNew => ?_)
  clear hK K hHeld
  have hHeld := hNew
  clear hNew
  try simp only [Act.put, List.setIfInBounds_toArray, List.set_cons_zero, List.set_cons_succ]
  refine wpAnyF_ready (rs := [23]) (by kernel_rfl) (by simp) ?_
  refine AllReadyF.cons (by (simp only [List.getElem?_toArray, List.getElem?_cons_succ, List.getElem?_cons_zero]; rfl)) (fun K hK => ?_) AllReadyF.nil
  go_simp
  go_at_call 14
  refine (SF.out _ (rt.below hHeld.1.2.2).lt (rw3.below hHeld.1.2.2).lt).mono ?_
  rintro e we ⟨rfl, be⟩
  refine hK.out _ _ ⟨keep2o be hHeld.1, trivial⟩ (fun hNew => ?_)
  clear hK K hHeld
  have hHeld := hNew
  clear hNew
  try simp only [Act.put, List.setIfInBounds_toArray, List.set_cons_zero, List.set_cons_succ]
  refine wpAnyF_take (i := 24) (v := ?_) (by (simp only [List.getElem?_toArray, List.getElem?_cons_succ, List.getElem?_cons_zero]; rfl)) (by kernel_rfl) (by kernel_rfl) (by kernel_rfl) (by decide) (by exact fun _ _ _ h => h) ⟨hHeld.1, .inr hHeld.2⟩ (Or.inl ⟨by rfl, ?_⟩) ?_
  rotate_left
  ·(intro w' _; go_simp <;> with_reducible rfl)
  try simp only [Act.put, List.setIfInBounds_toArray, List.set_cons_zero, List.set_cons_succ]
  refine wpAnyF_take (i := 25) (v := ?_) (by (simp only [List.getElem?_toArray, List.getElem?_cons_succ, List.getElem?_cons_zero]; rfl)) (by kernel_rfl) (by kernel_rfl) (by kernel_rfl) (by decide) (by exact fun _ _ _ h => h) ⟨hHeld.1, .inr hHeld.2⟩ (Or.inl ⟨by rfl, ?_⟩) ?_
  rotate_left
  ·(intro w' _; go_simp <;> with_reducible rfl)
  try simp only [Act.put, List.setIfInBounds_toArray, List.set_cons_zero, List.set_cons_succ]
  refine wpAnyF_take (i := 26) (v := ?_) (by (simp only [List.getElem?_toArray, List.getElem?_cons_succ, List.getElem?_cons_zero]; rfl)) (by kernel_rfl) (by kernel_rfl) (by kernel_rfl) (by decide) (by exact fun _ _ _ h => h) ⟨hHeld.1, .inr hHeld.2⟩ (Or.inl ⟨by rfl, ?_⟩) ?_
  rotate_left
  ·(intro w' _; go_simp <;> with_reducible rfl)
  try simp only [Act.put, List.setIfInBounds_toArray, List.set_cons_zero, List.set_cons_succ]
  refine wpAnyF_take (i := 27) (v := ?_) (by (simp only [List.getElem?_toArray, List.getElem?_cons_succ, List.getElem?_cons_zero]; rfl)) (by kernel_rfl) (by kernel_rfl) (by kernel_rfl) (by decide) (by exact fun _ _ _ h => h) ⟨hHeld.1, .inr hHeld.2⟩ (Or.inl ⟨by rfl, ?_⟩) ?_
  rotate_left
  ·(intro w' _; go_simp <;> with_reducible rfl)
  try simp only [Act.put, List.setIfInBounds_toArray, List.set_cons_zero, List.set_cons_succ]
  refine wpAnyF_take (i := 28) (v := ?_) (by (simp only [List.getElem?_toArray, List.getElem?_cons_succ, List.getElem?_cons_zero]; rfl)) (by kernel_rfl) (by kernel_rfl) (by kernel_rfl) (by decide) (by exact fun _ _ _ h => h) ⟨hHeld.1, .inr hHeld.2⟩ (Or.inl ⟨by rfl, ?_⟩) ?_
  rotate_left
  ·(intro w' _; go_simp <;> with_reducible rfl)
  try simp only [Act.put, List.setIfInBounds_toArray, List.set_cons_zero, List.set_cons_succ]
  refine wpAnyF_take (i := 30) (v := ?_) (by (simp only [List.getElem?_toArray, List.getElem?_cons_succ, List.getElem?_cons_zero]; rfl)) (by kernel_rfl) (by kernel_rfl) (by kernel_rfl) (by decide) (by exact fun _ _ _ h => h) ⟨hHeld.1, .inr hHeld.2⟩ (Or.inl ⟨by rfl, ?_⟩) ?_
  rotate_left
  ·(intro w' _; go_simp <;> with_reducible rfl)
  try simp only [Act.put, List.setIfInBounds_toArray, List.set_cons_zero, List.set_cons_succ]
  refine wpAnyF_take (i := 31) (v := ?_) (by (simp only [List.getElem?_toArray, List.getElem?_cons_succ, List.getElem?_cons_zero]; rfl)) (by kernel_rfl) (by kernel_rfl) (by kernel_rfl) (by decide) (by exact fun _ _ _ h => h) ⟨hHeld.1, .inr hHeld.2⟩ (Or.inl ⟨by rfl, ?_⟩) ?_
  rotate_left
  ·(intro w' _; go_simp <;> with_reducible rfl)
  try simp only [Act.put, List.setIfInBounds_toArray, List.set_cons_zero, List.set_cons_succ]
  refine wpAnyF_ready (rs := [29]) (by kernel_rfl) (by simp) ?_
  refine AllReadyF.cons (by (simp only [List.getElem?_toArray, List.getElem?_cons_succ, List.getElem?_cons_zero]; rfl)) (fun K hK => ?_) AllReadyF.nil
  go_simp
  go_at_call 12
  refine (IB.out _ (ra.below hHeld.1.2.2).lt (rb.below hHeld.1.2.2).lt).mono ?_
  rintro e wf ⟨rfl, bf⟩
  refine hK.out _ _ ⟨keep2o bf hHeld.1, trivial⟩ (fun hNew => ?_)
  clear hK K hHeld
  have hHeld := hNew
  clear hNew
  try simp only [Act.put, List.setIfInBounds_toArray, List.set_cons_zero, List.set_cons_succ]
  refine wpAnyF_ready (rs := [32]) (by kernel_rfl) (by simp) ?_
  refine AllReadyF.last (by (simp only [List.getElem?_toArray, List.getElem?_cons_succ, List.getElem?_cons_zero]; rfl)) (by kernel_rfl) (fun K hK => ?_) AllReadyF.nil
  go_simp
  go_at_call 15
  refine (SB.out _ (ra.below hHeld.1.2.2).lt (rb.below hHeld.1.2.2).lt).mono ?_
  rintro e wg ⟨rfl, bg⟩
  refine hK.out _ _ (keep2o bg hHeld.1) ?_
  clear hK K
  try simp only [Act.put, List.setIfInBounds_toArray, List.set_cons_zero, List.set_cons_succ]
  refine wpAnyF_take (i := 33) (v := ?_) (by (simp only [List.getElem?_toArray, List.getElem?_cons_succ, List.getElem?_cons_zero]; rfl)) (by kernel_rfl) (by kernel_rfl) (by kernel_rfl) (by decide) (by exact fun _ _ _ h => h) ⟨(keep2o bg hHeld.1), .inl (by kernel_rfl)⟩ (Or.inl ⟨by rfl, ?_⟩) ?_
  rotate_left
  ·(intro w' _; go_simp <;> with_reducible rfl)
  try simp only [Act.put, List.setIfInBounds_toArray, List.set_cons_zero, List.set_cons_succ]
  refine wpAnyF_take (i := 34) (v := ?_) (by (simp only [List.getElem?_toArray, List.getElem?_cons_succ, List.getElem?_cons_zero]; rfl)) (by kernel_rfl) (by kernel_rfl) (by kernel_rfl) (by decide) (by exact fun _ _ _ h => h) ⟨(keep2o bg hHeld.1), .inl (by kernel_rfl)⟩ (Or.inl ⟨by rfl, ?_⟩) ?_
  rotate_left
  ·(intro w' _; go_simp <;> with_reducible rfl)
  try simp only [Act.put, List.setIfInBounds_toArray, List.set_cons_zero, List.set_cons_succ]
  refine wpAnyF_done (by kernel_rfl) ?_ _
  have b9 := (keep2o bg hHeld.1).2.2
  clear c0 c1 bD hHeld HKK SO IA IF SF IB SB rob oa ob ba bb bc bd be bf bg hfi0 hfi1 hCC hff hss2
  clear rt rw3 ra rb
  clear R
  have z_5 := Below.size b9
  replace r1 := (r1.below b9).lt
  replace B := B.trans (b9.mono B.size)
  replace ro := (ro.below b9).lt
  replace k5 := k5.kept b9
  clear b9
  go_upto_region 9 with fail
  have c0 : wg.drew.cell? ⟨w2.heap.size, 0, none⟩ = some (.int .i64 C) := (k5.cell 0).trans rfl
  have c1 : wg.drew.cell? ⟨w2.heap.size, 1, none⟩ = some (.slice Ae O.length ce) := (k5.cell 1).trans rfl
  have bD : Below wg.heap.size wg wg.drew := (Below.refl _ _).drew
  by_cases hC0 : C = 0
  ·have h0 : logF ss n = 0 := by rw [← HC.out]; exact hC0
   have hz : odF (slT ss n) O = 0 := by rw [HO.out, odL_ok h0]; exact odF_log h0
   obtain ⟨T, hT⟩ : ∃ x, x = slT ss n := ⟨_, rfl⟩
   rw [← hT] at IS hz
   have HZ := hide hz
   have hfl := fun D n d W => field_lg1 0 D n d W
   subst hC0
   clear h0 hz hT HO HC
   refine wp_region_F 10 (fun w' => w'.cell? ⟨w2.heap.size, 0, none⟩ = some (.int .i64 0) ∧ w'.cell? ⟨w2.heap.size, 1, none⟩ = some (.slice Ae O.length ce) ∧ Below wg.heap.size wg w') (fun w' => True) (by kernel_rfl) ⟨⟨c0, c1, bD⟩, trivial⟩ (fun hHeld => ?_)
   try simp only [Act.put, List.setIfInBounds_toArray, List.set_cons_zero, List.set_cons_succ]
   refine wpAnyF_take (i := 0) (v := ?_) (by (simp only [List.getElem?_toArray, List.getElem?_cons_zero]; rfl)) (by kernel_rfl) (by kernel_rfl) (by kernel_rfl) (by decide) (by exact fun _ _ _ h => h) ⟨hHeld.1, .inr hHeld.2⟩ (Or.inl ⟨by rfl, ?_⟩) ?_
   rotate_left
   ·(intro w' _; go_simp <;> with_reducible rfl)
   try simp only [Act.put, List.setIfInBounds_toArray, List.set_cons_zero, List.set_cons_succ]
   refine wpAnyF_keep (i := 1) (v := ?_) (by (simp only [List.getElem?_toArray, List.getElem?_cons_succ, List.getElem?_cons_zero]; rfl)) (by kernel_rfl) (by kernel_rfl) (by kernel_rfl) (by decide) (by exact fun _ _ _ h => h) ⟨hHeld.1, .inr hHeld.2⟩ (Or.inl ⟨by rfl, ?_⟩) ?_
   rotate_left
   ·(intro w' hSw; (try dsimp only at hSw); obtain ⟨hSa0, hSa1, hSa2⟩ := hSw; go_simp <;> with_reducible rfl)
   try simp only [Act.put, List.setIfInBounds_toArray, List.set_cons_zero, List.set_cons_succ]
   refine wpAnyF_take (i := 2) (v := ?_) (by (simp only [List.getElem?_toArray, List.getElem?_cons_succ, List.getElem?_cons_zero]; rfl)) (by kernel_rfl) (by kernel_rfl) (by kernel_rfl) (by decide) (by exact fun _ _ _ h => h) ⟨hHeld.1, .inr hHeld.2⟩ (Or.inl ⟨by rfl, ?_⟩) ?_
   rotate_left
   ·(intro w' _; go_simp <;> with_reducible rfl)
   try simp only [Act.put, List.setIfInBounds_toArray, List.set_cons_zero, List.set_cons_succ]
   refine wpAnyF_take (i := 3) (v := ?_) (by (simp only [List.getElem?_toArray, List.getElem?_cons_succ, List.getElem?_cons_zero]; rfl)) (by kernel_rfl) (by kernel_rfl) (by kernel_rfl) (by decide) (by exact fun _ _ _ h => h) ⟨hHeld.1, .inr hHeld.2⟩ (Or.inl ⟨by rfl, ?_⟩) ?_
   rotate_left
   ·(intro w' _; go_simp <;> with_reducible rfl)
   try simp only [Act.put, List.setIfInBounds_toArray, List.set_cons_zero, List.set_cons_succ]
   refine wpAnyF_take (i := 4) (v := ?_) (by (simp only [List.getElem?_toArray, List.getElem?_cons_succ, List.getElem?_cons_zero]; rfl)) (by kernel_rfl) (by kernel_rfl) (by kernel_rfl) (by decide) (by exact fun _ _ _ h => h) ⟨hHeld.1, .inr hHeld.2⟩ (Or.inl ⟨by rfl, ?_⟩) ?_
   rotate_left
   ·(intro w' _; go_simp <;> with_reducible rfl)
   try simp only [Act.put, List.setIfInBounds_toArray, List.set_cons_zero, List.set_cons_succ]
   refine wpAnyF_take (i := 5) (v := ?_) (by (simp only [List.getElem?_toArray, List.getElem?_cons_succ, List.getElem?_cons_zero]; rfl)) (by kernel_rfl) (by kernel_rfl) (by kernel_rfl) (by decide) (by exact fun _ _ _ h => h) ⟨hHeld.1, .inr hHeld.2⟩ (Or.inl ⟨by rfl, ?_⟩) ?_
   rotate_left
   ·(intro w' _; go_simp <;> with_reducible rfl)
   try simp only [Act.put, List.setIfInBounds_toArray, List.set_cons_zero, List.set_cons_succ]
   refine wpAnyF_take (i := 8) (v := ?_) (by (simp only [List.getElem?_toArray, List.getElem?_cons_succ, List.getElem?_cons_zero]; rfl)) (by kernel_rfl) (by kernel_rfl) (by kernel_rfl) (by decide) (by exact fun _ _ _ h => h) ⟨hHeld.1, .inr hHeld.2⟩ (Or.inl ⟨by rfl, ?_⟩) ?_
   rotate_left
   ·(intro w' _; go_simp <;> with_reducible rfl)
   try simp only [Act.put, List.setIfInBounds_toArray, List.set_cons_zero, List.set_cons_succ]
   refine wpAnyF_keep (i := 9) (v := ?_) (by (simp only [List.getElem?_toArray, List.getElem?_cons_succ, List.getElem?_cons_zero]; rfl)) (by kernel_rfl) (by kernel_rfl) (by kernel_rfl) (by decide) (by exact fun _ _ _ h => h) ⟨hHeld.1, .inr hHeld.2⟩ (Or.inl ⟨by rfl, ?_⟩) ?_
   rotate_left
   ·(intro w' hSw; (try dsimp only at hSw); obtain ⟨hSa0, hSa1, hSa2⟩ := hSw; go_simp <;> with_reducible rfl)
   try simp only [Act.put, List.setIfInBounds_toArray, List.set_cons_zero, List.set_cons_succ]
   refine wpAnyF_ready (rs := [6]) (by kernel_rfl) (by simp) ?_
   refine AllReadyF.cons (by (simp only [List.getElem?_toArray, List.getElem?_cons_succ, List.getElem?_cons_zero]; rfl)) (fun K hK => ?_) AllReadyF.nil
   go_simp
   go_at_call 16
   refine (IS.out _ (r1.below hHeld.1.2.2).lt).mono ?_
   rintro e wh ⟨Ah, ch, uh, rfl, oh, bh⟩
   have rh := oh.rd
   have hTl := own_capE oh.row
   have hT0 : T.length ≤ maxLen := Nat.le_trans hTl.1 hTl.2
   have IF2 := hide (fun W h h' => implOrF_any T O Ah Ae ch ce W hT0 (by unfold maxLen; omega) h h')
   rw [HZ.out] at IF2
   refine hK.out _ _ ⟨keep2o bh hHeld.1, trivial⟩ (fun hNew => ?_)
   clear hK K hHeld
   have hHeld := hNew
   clear hNew
   try simp only [Act.put, List.setIfInBounds_toArray, List.set_cons_zero, List.set_cons_succ]
   refine wpAnyF_take (i := 7) (v := ?_) (by (simp only [List.getElem?_toArray, List.getElem?_cons_succ, List.getElem?_cons_zero]; rfl)) (by kernel_rfl) (by kernel_rfl) (by kernel_rfl) (by decide) (by exact fun _ _ _ h => h) ⟨hHeld.1, .inr hHeld.2⟩ (Or.inl ⟨by rfl, ?_⟩) ?_
   rotate_left
   ·(intro w' _; go_simp <;> with_reducible rfl)
   try simp only [Act.put, List.setIfInBounds_toArray, List.set_cons_zero, List.set_cons_succ]
   refine wpAnyF_ready (rs := [10]) (by kernel_rfl) (by simp) ?_
   refine AllReadyF.last (by (simp only [List.getElem?_toArray, List.getElem?_cons_succ, List.getElem?_cons_zero]; rfl)) (by kernel_rfl) (fun K hK => ?_) AllReadyF.nil
   go_simp
   go_at_call 13
   refine (IF2.out _ rh (ro.below hHeld.1.2.2).lt).mono ?_
   rintro e wi ⟨rfl, bi⟩
   refine hK.out _ _ (keep2o bi hHeld.1) ?_
   clear hK K
   try simp only [Act.put, List.setIfInBounds_toArray, List.set_cons_zero, List.set_cons_succ]
   refine wpAnyF_take (i := 11) (v := ?_) (by (simp only [List.getElem?_toArray, List.getElem?_cons_succ, List.getElem?_cons_zero]; rfl)) (by kernel_rfl) (by kernel_rfl) (by kernel_rfl) (by decide) (by exact fun _ _ _ h => h) ⟨(keep2o bi hHeld.1), .inl (by kernel_rfl)⟩ (Or.inl ⟨by rfl, ?_⟩) ?_
   rotate_left
   ·(intro w' _; go_simp <;> with_reducible rfl)
   try simp only [Act.put, List.setIfInBounds_toArray, List.set_cons_zero, List.set_cons_succ]
   refine wpAnyF_take (i := 12) (v := ?_) (by (simp only [List.getElem?_toArray, List.getElem?_cons_succ, List.getElem?_cons_zero]; rfl)) (by kernel_rfl) (by kernel_rfl) (by kernel_rfl) (by decide) (by exact fun _ _ _ h => h) ⟨(keep2o bi hHeld.1), .inl (by kernel_rfl)⟩ (Or.inl ⟨by rfl, ?_⟩) ?_
   rotate_left
   ·(intro w' _; go_simp <;> with_reducible rfl)
   try simp only [Act.put, List.setIfInBounds_toArray, List.set_cons_zero, List.set_cons_succ]
   refine wpAnyF_take (i := 13) (v := ?_) (by (simp only [List.getElem?_toArray, List.getElem?_cons_succ, List.getElem?_cons_zero]; rfl)) (by kernel_rfl) (by kernel_rfl) (by kernel_rfl) (by decide) (by exact fun _ _ _ h => h) ⟨(keep2o bi hHeld.1), .inl (by kernel_rfl)⟩ (Or.inl ⟨by rfl, ?_⟩) ?_
   rotate_left
   ·(intro w' _; go_simp <;> with_reducible rfl)
   try simp only [Act.put, List.setIfInBounds_toArray, List.set_cons_zero, List.set_cons_succ]
   refine wpAnyF_done (by kernel_rfl) ?_ _
   have b10 := (keep2o bi hHeld.1).2.2
   go_wp2
   go_ret
   exact ⟨rfl, B.trans (b10.mono B.size)⟩
  ·have u0 : (C != 0) = true := bne_iff_ne.2 hC0
   clear hC0 HO HC IS
   refine wp_region_F 99 (fun w' => w'.cell? ⟨w2.heap.size, 0, none⟩ = some (.int .i64 C) ∧ w'.cell? ⟨w2.heap.size, 1, none⟩ = some (.slice Ae O.length ce) ∧ Below wg.heap.size wg w') (fun w' => True) (by kernel_rfl) ⟨⟨c0, c1, bD⟩, trivial⟩ (fun hHeld => ?_)
   try simp only [Act.put, List.setIfInBounds_toArray, List.set_cons_zero, List.set_cons_succ]
   refine wpAnyF_take (i := 0) (v := ?_) (by (simp only [List.getElem?_toArray, List.getElem?_cons_zero]; rfl)) (by kernel_rfl) (by kernel_rfl) (by kernel_rfl) (by decide) (by exact fun _ _ _ h => h) ⟨hHeld.1, .inr hHeld.2⟩ (Or.inl ⟨by rfl, ?_⟩) ?_
   rotate_left
   ·(intro w' _; go_simp <;> with_reducible rfl)
   try simp only [Act.put, List.setIfInBounds_toArray, List.set_cons_zero, List.set_cons_succ]
   refine wpAnyF_keep (i := 1) (v := ?_) (by (simp only [List.getElem?_toArray, List.getElem?_cons_succ, List.getElem?_cons_zero]; rfl)) (by kernel_rfl) (by kernel_rfl) (by kernel_rfl) (by decide) (by exact fun _ _ _ h => h) ⟨hHeld.1, .inr hHeld.2⟩ (Or.inl ⟨by rfl, ?_⟩) ?_
   rotate_left
   ·(intro w' hSw; (try dsimp only at hSw); obtain ⟨hSa0, hSa1, hSa2⟩ := hSw; go_simp <;> with_reducible rfl)
   try simp only [Act.put, List.setIfInBounds_toArray, List.set_cons_zero, List.set_cons_succ]
   refine wpAnyF_take (i := 2) (v := ?_) (by (simp only [List.getElem?_toArray, List.getElem?_cons_succ, List.getElem?_cons_zero]; rfl)) (by kernel_rfl) (by kernel_rfl) (by kernel_rfl) (by decide) (by exact fun _ _ _ h => h) ⟨hHeld.1, .inr hHeld.2⟩ (Or.inl ⟨by rfl, ?_⟩) ?_
   rotate_left
   ·(intro w' _; go_simp <;> with_reducible rfl)
   try simp only [Act.put, List.setIfInBounds_toArray, List.set_cons_zero, List.set_cons_succ]
   refine wpAnyF_take (i := 3) (v := ?_) (by (simp only [List.getElem?_toArray, List.getElem?_cons_succ, List.getElem?_cons_zero]; rfl)) (by kernel_rfl) (by kernel_rfl) (by kernel_rfl) (by decide) (by exact fun _ _ _ h => h) ⟨hHeld.1, .inr hHeld.2⟩ (Or.inl ⟨by rfl, ?_⟩) ?_
   rotate_left
   ·(intro w' _; go_simp <;> with_reducible rfl)
   try simp only [Act.put, List.setIfInBounds_toArray, List.set_cons_zero, List.set_cons_succ]
   refine wpAnyF_take (i := 4) (v := undef) (by (simp only [List.getElem?_toArray, List.getElem?_cons_succ, List.getElem?_cons_zero]; rfl)) (by kernel_rfl) (by kernel_rfl) (by kernel_rfl) (by decide) (by exact fun _ _ _ h => h) ⟨hHeld.1, .inr hHeld.2⟩ (Or.inr ⟨by rfl, rfl⟩) ?_
   try simp only [Act.put, List.setIfInBounds_toArray, List.set_cons_zero, List.set_cons_succ]
   refine wpAnyF_take (i := 5) (v := undef) (by (simp only [List.getElem?_toArray, List.getElem?_cons_succ, List.getElem?_cons_zero]; rfl)) (by kernel_rfl) (by kernel_rfl) (by kernel_rfl) (by decide) (by exact fun _ _ _ h => h) ⟨hHeld.1, .inr hHeld.2⟩ (Or.inr ⟨by rfl, rfl⟩) ?_
   try simp only [Act.put, List.setIfInBounds_toArray, List.set_cons_zero, List.set_cons_succ]
   refine wpAnyF_take (i := 6) (v := undef) (by (simp only [List.getElem?_toArray, List.getElem?_cons_succ, List.getElem?_cons_zero]; rfl)) (by kernel_rfl) (by kernel_rfl) (by kernel_rfl) (by decide) (by exact fun _ _ _ h => h) ⟨hHeld.1, .inr hHeld.2⟩ (Or.inr ⟨by rfl, rfl⟩) ?_
   try simp only [Act.put, List.setIfInBounds_toArray, List.set_cons_zero, List.set_cons_succ]
   refine wpAnyF_take (i := 7) (v := undef) (by (simp only [List.getElem?_toArray, List.getElem?_cons_succ, List.getElem?_cons_zero]; rfl)) (by kernel_rfl) (by kernel_rfl) (by kernel_rfl) (by decide) (by exact fun _ _ _ h => h) ⟨hHeld.1, .inr hHeld.2⟩ (Or.inr ⟨by rfl, rfl⟩) ?_
   try simp only [Act.put, List.setIfInBounds_toArray, List.set_cons_zero, List.set_cons_succ]
   refine wpAnyF_take (i := 8) (v := undef) (by (simp only [List.getElem?_toArray, List.getElem?_cons_succ, List.getElem?_cons_zero]; rfl)) (by kernel_rfl) (by kernel_rfl) (by kernel_rfl) (by decide) (by exact fun _ _ _ h => h) ⟨hHeld.1, .inr hHeld.2⟩ (Or.inr ⟨by rfl, rfl⟩) ?_
   try simp only [Act.put, List.setIfInBounds_toArray, List.set_cons_zero, List.set_cons_succ]
   refine wpAnyF_take (i := 9) (v := undef) (by (simp only [List.getElem?_toArray, List.getElem?_cons_succ, List.getElem?_cons_zero]; rfl)) (by kernel_rfl) (by kernel_rfl) (by kernel_rfl) (by decide) (by exact fun _ _ _ h => h) ⟨hHeld.1, .inr hHeld.2⟩ (Or.inr ⟨by rfl, rfl⟩) ?_
   try simp only [Act.put, List.setIfInBounds_toArray, List.set_cons_zero, List.set_cons_succ]
   refine wpAnyF_take (i := 10) (v := undef) (by (simp only [List.getElem?_toArray, List.getElem?_cons_succ, List.getElem?_cons_zero]; rfl)) (by kernel_rfl) (by kernel_rfl) (by kernel_rfl) (by decide) (by exact fun _ _ _ h => h) ⟨hHeld.1, .inr hHeld.2⟩ (Or.inr ⟨by rfl, rfl⟩) ?_
   try simp only [Act.put, List.setIfInBounds_toArray, List.set_cons_zero, List.set_cons_succ]
   refine wpAnyF_take (i := 11) (v := undef) (by (simp only [List.getElem?_toArray, List.getElem?_cons_succ, List.getElem?_cons_zero]; rfl)) (by kernel_rfl) (by kernel_rfl) (by kernel_rfl) (by decide) (by exact fun _ _ _ h => h) ⟨hHeld.1, .inr hHeld.2⟩ (Or.inr ⟨by rfl, rfl⟩) ?_
   try simp only [Act.put, List.setIfInBounds_toArray, List.set_cons_zero, List.set_cons_succ]
   refine wpAnyF_take (i := 12) (v := ?_) (by (simp only [List.getElem?_toArray, List.getElem?_cons_succ, List.getElem?_cons_zero]; rfl)) (by kernel_rfl) (by kernel_rfl) (by kernel_rfl) (by decide) (by exact fun _ _ _ h => h) ⟨hHeld.1, .inr hHeld.2⟩ (Or.inl ⟨by rfl, ?_⟩) ?_
   rotate_left
   ·(intro w' _; go_simp <;> with_reducible rfl)
   try simp only [Act.put, List.setIfInBounds_toArray, List.set_cons_zero, List.set_cons_succ]
   refine wpAnyF_take (i := 13) (v := ?_) (by (simp only [List.getElem?_toArray, List.getElem?_cons_succ, List.getElem?_cons_zero]; rfl)) (by kernel_rfl) (by kernel_rfl) (by kernel_rfl) (by decide) (by exact fun _ _ _ h => h) ⟨hHeld.1, .inr hHeld.2⟩ (Or.inl ⟨by rfl, ?_⟩) ?_
   rotate_left
   ·(intro w' _; go_simp <;> with_reducible rfl)
   try simp only [Act.put, List.setIfInBounds_toArray, List.set_cons_zero, List.set_cons_succ]
   refine wpAnyF_done (by kernel_rfl) ?_ _
   go_wp2
   go_ret
   exact ⟨rfl, B.trans (bD.mono B.size)⟩
 ·go_enter Try.func3, Try.ntmps3
  go_wp2_with fail
  refine (lwBig_yes l A c w hL hl).mono ?_
  rintro e w0 ⟨rfl, rfl⟩
  go_wp2
  go_ret
  exact ⟨rfl, Below.refl _ _⟩
end Go.Proofs.Ytnnfkmjhaljplaa
namespace Go.Proofs.Ytnnfkmjhaljplaa
open Go.RowKit
/-- A machine as a value. -/
abbrev macV (A : Option Addr) (n c : Nat) (A' : Option Addr) (n' c' : Nat) : Value := .agg #[.slice A n c, .slice A' n' c']
structure RdMac (w : World) (B : Nat) (A A' : Option Addr) (m : Mac) : Prop where
 cs : RdT w B A m.cs
 mem : RdC w B A' m.mem
section
variable {w w' : World} {B B' : Nat} {A A' : Option Addr} {m : Mac}
theorem RdMac.keep (h : RdMac w B A A' m) (hk : ∀ p : Addr, p.block < B → w'.cell? p = w.cell? p) : RdMac w' B A A' m := ⟨h.cs.keep hk, h.mem.keep hk⟩
theorem RdMac.more (h : RdMac w B A A' m) (hB : B ≤ B') : RdMac w B' A A' m := ⟨h.cs.more hB, h.mem.more hB⟩
theorem RdMac.below (h : RdMac w B A A' m) (hb : Below B w w') : RdMac w' B A A' m := ⟨h.cs.below hb, h.mem.below hb⟩
theorem RdMac.alloc (h : RdMac w B A A' m) (hB : B ≤ w.heap.size) (o : Obj) : RdMac (w.alloc o) B A A' m := ⟨h.cs.alloc hB o, h.mem.alloc hB o⟩
theorem RdMac.lt (h : RdMac w B A A' m) : RdMac w w.heap.size A A' m := ⟨h.cs.lt, h.mem.lt⟩
end
/-- A machine of the call's own: its rows and its memory apart. -/
structure OwnMac (w : World) (base : Nat) (v v' : Value) (m : Mac) (us : List Value) : Prop where
 cs : OwnTLine w base v m.cs us
 mem : w.ownsRow base 200 2 v' m.mem.length (cels m.mem)
 far : ∀ b, v'.ownBlock = some b → v.ownBlock ≠ some b ∧ ∀ u ∈ us, u.ownBlock ≠ some b
theorem OwnTLine.only {w w' : World} {base : Nat} {v : Value} {t : List (List Ev)} {us vs : List Value} (h : OwnTLine w base v t us) (ho : Only vs w w') (hf : ∀ x ∈ vs, ∀ b, x.ownBlock = some b → v.ownBlock ≠ some b ∧ ∀ u ∈ us, u.ownBlock ≠ some b) : OwnTLine w' base v t us :=
 ⟨ho.own _ _ _ _ _ _ h.row fun b hb x hx e => (hf x hx b e).1 hb, fun i hi => by
  obtain ⟨u, h1, h2, h3⟩ := h.rows i hi
  exact ⟨u, h1, ho.own _ _ _ _ _ _ h2 fun b hb x hx e => (hf x hx b e).2 u (List.mem_of_getElem? h1) hb, h3⟩, h.apart⟩
theorem OwnMac.alloc {w : World} {base : Nat} {v v' : Value} {m : Mac} {us : List Value} (h : OwnMac w base v v' m us) (o : Obj) : OwnMac (w.alloc o) base v v' m us := ⟨h.cs.alloc o, h.mem.alloc o, h.far⟩
theorem OwnMac.below {w w' : World} {base : Nat} {v v' : Value} {m : Mac} {us : List Value} (h : OwnMac w base v v' m us) (hb : Below w.heap.size w w') : OwnMac w' base v v' m us := ⟨h.cs.below hb, own_below h.mem hb (Nat.le_refl _), h.far⟩
theorem OwnMac.set_ {w : World} {base b i : Nat} {v v' : Value} {m : Mac} {us : List Value} (h : OwnMac w base v v' m us) (hb : b < base) (u : Value) : OwnMac (w.setCell ⟨b, i, none⟩ u) base v v' m us :=
 ⟨h.cs.kept (grown_set w b i u) (fun x e => by cases e; exact hb), ownsRow_setCell_below h.mem (a := ⟨b, i, none⟩) hb u, h.far⟩
theorem OwnMac.mono {w : World} {base b' : Nat} {v v' : Value} {m : Mac} {us : List Value} (h : OwnMac w base v v' m us) (hb : b' ≤ base) : OwnMac w b' v v' m us := ⟨h.cs.mono hb, own_mono h.mem hb, h.far⟩
theorem OwnMac.rd {w : World} {base : Nat} {A A' : Option Addr} {c c' : Nat} {m : Mac} {us : List Value} (h : OwnMac w base (.slice A m.cs.length c) (.slice A' m.mem.length c') m us) : RdMac w w.heap.size A A' m := ⟨h.cs.rd, RdC.of_own h.mem⟩
end Go.Proofs.Ytnnfkmjhaljplaa
namespace Go.Proofs.Ytnnfkmjhaljplaa
open Go.RowKit
theorem OwnMac.only {w w' : World} {base : Nat} {v v' : Value} {m : Mac} {us vs : List Value} (h : OwnMac w base v v' m us) (ho : Only vs w w') (hf : ∀ x ∈ vs, ∀ b, x.ownBlock = some b → v.ownBlock ≠ some b ∧ v'.ownBlock ≠ some b ∧ ∀ u ∈ us, u.ownBlock ≠ some b) : OwnMac w' base v v' m us :=
 ⟨h.cs.only ho fun x hx b hb => ⟨(hf x hx b hb).1, (hf x hx b hb).2.2⟩, ho.own _ _ _ _ _ _ h.mem fun b hb x hx e => (hf x hx b e).2.1 hb, h.far⟩
end Go.Proofs.Ytnnfkmjhaljplaa
