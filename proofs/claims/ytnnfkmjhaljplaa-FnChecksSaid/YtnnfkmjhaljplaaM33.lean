/- What the laws' walks rest upon, part 33. -/
import Derived.Test.YtnnfkmjhaljplaaM32
import Derived.Test.YtnnfkmjhaljplaaM21
import Derived.Test.YtnnfkmjhaljplaaM23
import Derived.Test.YtnnfkmjhaljplaaM22
import Derived.Deep.RegionHeld3
import Derived.Deep.DeepCutAuto
namespace Go.Proofs.Ytnnfkmjhaljplaa
open Go.RowKit
theorem keep9c {W w w' : World} {a0 a1 a2 a3 a4 a5 a6 a7 a8 : Addr} {v0 v1 v2 v3 v4 v5 v6 v7 v8 : Value} (hb : Below w.heap.size w w') (h : w.cell? a0 = some v0 ∧ w.cell? a1 = some v1 ∧ w.cell? a2 = some v2 ∧ w.cell? a3 = some v3 ∧ w.cell? a4 = some v4 ∧ w.cell? a5 = some v5 ∧ w.cell? a6 = some v6 ∧ w.cell? a7 = some v7 ∧ w.cell? a8 = some v8 ∧ Below W.heap.size W w) :
  w'.cell? a0 = some v0 ∧ w'.cell? a1 = some v1 ∧ w'.cell? a2 = some v2 ∧ w'.cell? a3 = some v3 ∧ w'.cell? a4 = some v4 ∧ w'.cell? a5 = some v5 ∧ w'.cell? a6 = some v6 ∧ w'.cell? a7 = some v7 ∧ w'.cell? a8 = some v8 ∧ Below W.heap.size W w' := by
 obtain ⟨h0, h1, h2, h3, h4, h5, h6, h7, h8, h9⟩ := h
 exact ⟨cell_kept hb h0, cell_kept hb h1, cell_kept hb h2, cell_kept hb h3, cell_kept hb h4, cell_kept hb h5, cell_kept hb h6, cell_kept hb h7, cell_kept hb h8, h9.trans (hb.mono h9.size)⟩
open Classical in
theorem witB_true {t : List (List Ev)} {os : List Wls} {l : List Int} (e : witB t os l = true) : witP t os l := by
 unfold witB at e
 exact of_decide_eq_true e
open Classical in
theorem witB_of {t : List (List Ev)} {os : List Wls} {l : List Int} (h : witP t os l) : witB t os l = true := by
 unfold witB
 exact decide_eq_true h
theorem field_ckC (a : Int) (b : Bool) (D : Option Addr) (n d : Nat) (W : World) : (Instr.field 43 (.agg #[.int .i64 a, .bool b, .slice D n d]) 0).run Try.prog W = .ok (.int .i64 a) W := by kernel_rfl
set_option maxRecDepth 100000 in
set_option maxHeartbeats 6400000 in
theorem FnChecks_walk (HB : LdOk) (l : List Int) (A : Option Addr) (c : Nat) (w : World) (hl : l.length ≤ maxLen) (h : Rd .u8 w w.heap.size A l) (b8 : B8 l) :
  Calls Try.prog 4 #[.slice A l.length c] w fun e w' => e = .returned (.bool true) ∧ Below w.heap.size w w' := by
 by_cases hL : l.length ≤ 1048576
 ·clear hl
  go_enter Try.func4, Try.ntmps4
  go_wp2_with fail
  refine (lwBig_no l A c w hL).mono ?_
  rintro e w0 ⟨rfl, rfl⟩
  go_wp2_with fail
  refine (DrawCheckTrace_any HB l A c w hL h b8).mono ?_
  rintro e w1 ⟨t, os, D, E, d, ec, rfl, ht5, ht, ho, hid, rt, ro, B⟩
  have R := h.below B
  have zB := B.size
  clear h ht hid
  have lt : t.length ≤ maxLen := by unfold maxLen; omega
  have lo : os.length ≤ maxLen := by unfold maxLen; omega
  have IK := hide (fun W h h' => implChk_any t os D E d ec W lt lo h h')
  have SK := hide (fun W h h' => specChk_any t os D E d ec W lt lo h h')
  have IF := hide (fun W h h' => implOrF_any t os D E d ec W lt lo h h')
  unfold ChkPost at IK SK
  have IW := hide (fun W x V vc h h' h'' (hx : x.length ≤ maxLen) => implWit_any t os x D E V d ec vc W lt lo hx h h' h'')
  have hc1 := chk_code t os
  have hwt := fun W C h => chk_wit (t := t) (os := os) (W := W) (C := C) h
  have hlx := chkR_len t os
  obtain ⟨R1, hR1⟩ : ∃ x, x = chkR t os := ⟨_, rfl⟩
  rw [← hR1] at IK SK hc1 hwt hlx
  obtain ⟨c1, y1, x1⟩ := R1
  dsimp only at IK SK hc1 hlx
  rw [← hc1.1] at IF
  have HY := hide hc1.2.1
  have HN := hide hc1.2.2
  have HW := hide hwt
  clear hc1 hwt hR1
  go_wp2_with fail
  refine (IK.out _ rt ro).mono ?_
  rintro e w2 ⟨V1, v1, rfl, o2, b2⟩
  have z_1 := Below.size b2
  replace rt := (rt.below b2).lt
  replace ro := (ro.below b2).lt
  replace R := R.below (b2.mono (by omega))
  replace B := B.trans (b2.mono B.size)
  clear b2
  have rx := Rd.of_own (k := .i64) o2
  clear o2 IK
  have e_ := (Below.refl w2.heap.size w2).alloc (Nat.le_refl _) (Obj.cells #[Value.int .i64 c1, .bool y1, .slice V1 x1.length v1] 43)
  have zz_1 : (w2.alloc (Obj.cells #[Value.int .i64 c1, .bool y1, .slice V1 x1.length v1] 43)).heap.size = w2.heap.size + 1 := by simp
  have z_2 := Below.size e_
  replace rt := (rt.below e_).lt
  replace ro := (ro.below e_).lt
  replace R := R.below (e_.mono (by omega))
  replace B := B.trans (e_.mono B.size)
  replace rx := (rx.below e_).lt
  clear e_
  have k5 := Bk.new w2 #[Value.int .i64 c1, .bool y1, .slice V1 x1.length v1] 43
  go_wp2_with fail
  refine (SK.out _ rt ro).mono ?_
  rintro e w3 ⟨V2, v2, rfl, o3, b3⟩
  have z_3 := Below.size b3
  replace rt := (rt.below b3).lt
  replace ro := (ro.below b3).lt
  replace R := R.below (b3.mono (by omega))
  replace B := B.trans (b3.mono B.size)
  replace rx := (rx.below b3).lt
  replace k5 := k5.kept b3
  clear b3
  have ry := Rd.of_own (k := .i64) o3
  clear o3 SK
  have e_ := (Below.refl w3.heap.size w3).alloc (Nat.le_refl _) (Obj.cells #[Value.int .i64 c1, .bool y1, .slice V2 x1.length v2] 43)
  have zz_3 : (w3.alloc (Obj.cells #[Value.int .i64 c1, .bool y1, .slice V2 x1.length v2] 43)).heap.size = w3.heap.size + 1 := by simp
  have z_4 := Below.size e_
  replace rt := (rt.below e_).lt
  replace ro := (ro.below e_).lt
  replace R := R.below (e_.mono (by omega))
  replace B := B.trans (e_.mono B.size)
  replace rx := (rx.below e_).lt
  replace k5 := k5.kept e_
  replace ry := (ry.below e_).lt
  clear e_
  have k6 := Bk.new w3 #[Value.int .i64 c1, .bool y1, .slice V2 x1.length v2] 43
  go_wp2_with fail
  refine (DrawIsWitness_any HB l A c _ hL (R.more (by omega)) b8).mono ?_
  rintro e w4 ⟨t2, os2, xs, D2, E2, F2, d2, e2, f2, rfl, hu5, hu, hp, hpi, hxs, rt2, ro2, rf, b4⟩
  have z_5 := Below.size b4
  replace rt := (rt.below b4).lt
  replace ro := (ro.below b4).lt
  replace R := R.below (b4.mono (by omega))
  replace B := B.trans (b4.mono B.size)
  replace rx := (rx.below b4).lt
  replace k5 := k5.kept b4
  replace ry := (ry.below b4).lt
  replace k6 := k6.kept b4
  clear b4
  clear hu hpi
  have lt2 : t2.length ≤ maxLen := by unfold maxLen; omega
  have lo2 : os2.length ≤ maxLen := by unfold maxLen; omega
  have lx2 : xs.length ≤ maxLen := by unfold maxLen; omega
  have IW2 := hide (fun W h h' h'' => implWit_any t2 os2 xs D2 E2 F2 d2 e2 f2 W lt2 lo2 lx2 h h' h'')
  have SW2 := hide (fun W h h' h'' => specWit_any t2 os2 xs D2 E2 F2 d2 e2 f2 W lt2 lo2 lx2 h h' h'')
  have IK2 := hide (fun W h h' => implChk_any t2 os2 D2 E2 d2 e2 W lt2 lo2 h h')
  have SK2 := hide (fun W h h' => specChk_any t2 os2 D2 E2 d2 e2 W lt2 lo2 h h')
  unfold ChkPost at IK2 SK2
  have hw2 := fun h => wit_chk (t := t2) (os := os2) (row := xs) h
  have hl2 := chkR_len t2 os2
  obtain ⟨R2, hR2⟩ : ∃ x, x = chkR t2 os2 := ⟨_, rfl⟩
  rw [← hR2] at IK2 SK2 hl2 hw2
  obtain ⟨c2, y2, x2⟩ := R2
  dsimp only at IK2 SK2 hl2
  obtain ⟨wb, hwb⟩ : ∃ x, x = witB t2 os2 xs := ⟨_, rfl⟩
  rw [← hwb] at IW2 SW2
  have HQ := hide (show wb = true → y2 = true ∧ lexLe x2 xs = true from fun e => by
   obtain ⟨Wt, e1, e2⟩ := hw2 (witB_true (hwb.symm.trans e))
   injection e1 with _ e1
   injection e1 with e1 e3
   subst e3
   exact ⟨e1, lexLe_of e2⟩)
  clear hw2 hR2 hwb
  go_wp2_with fail
  refine (IW2.out _ rt2 ro2 rf).mono ?_
  rintro e w5 ⟨rfl, b5⟩
  have z_6 := Below.size b5
  replace rt := (rt.below b5).lt
  replace ro := (ro.below b5).lt
  replace R := R.below (b5.mono (by omega))
  replace B := B.trans (b5.mono B.size)
  replace rx := (rx.below b5).lt
  replace k5 := k5.kept b5
  replace ry := (ry.below b5).lt
  replace k6 := k6.kept b5
  replace rt2 := (rt2.below b5).lt
  replace ro2 := (ro2.below b5).lt
  replace rf := (rf.below b5).lt
  clear b5
  go_wp2_with fail
  refine (IK2.out _ rt2 ro2).mono ?_
  rintro e w6 ⟨V3, v3, rfl, o6, b6⟩
  have z_7 := Below.size b6
  replace rt := (rt.below b6).lt
  replace ro := (ro.below b6).lt
  replace R := R.below (b6.mono (by omega))
  replace B := B.trans (b6.mono B.size)
  replace rx := (rx.below b6).lt
  replace k5 := k5.kept b6
  replace ry := (ry.below b6).lt
  replace k6 := k6.kept b6
  replace rt2 := (rt2.below b6).lt
  replace ro2 := (ro2.below b6).lt
  replace rf := (rf.below b6).lt
  clear b6
  have rz := Rd.of_own (k := .i64) o6
  clear o6 IK2 IW2
  have e_ := (Below.refl w6.heap.size w6).alloc (Nat.le_refl _) (Obj.cells #[Value.int .i64 c2, .bool y2, .slice V3 x2.length v3] 43)
  have zz_7 : (w6.alloc (Obj.cells #[Value.int .i64 c2, .bool y2, .slice V3 x2.length v3] 43)).heap.size = w6.heap.size + 1 := by simp
  have z_8 := Below.size e_
  replace rt := (rt.below e_).lt
  replace ro := (ro.below e_).lt
  replace R := R.below (e_.mono (by omega))
  replace B := B.trans (e_.mono B.size)
  replace rx := (rx.below e_).lt
  replace k5 := k5.kept e_
  replace ry := (ry.below e_).lt
  replace k6 := k6.kept e_
  replace rt2 := (rt2.below e_).lt
  replace ro2 := (ro2.below e_).lt
  replace rf := (rf.below e_).lt
  replace rz := (rz.below e_).lt
  clear e_
  have k11 := Bk.new w6 #[Value.int .i64 c2, .bool y2, .slice V3 x2.length v3] 43
  go_upto_region 9 with fail
  generalize w6.alloc (Obj.cells #[Value.int .i64 c2, .bool y2, .slice V3 x2.length v3] 43) = V at *
  have c_0 : V.drew.cell? ⟨w2.heap.size, 0, none⟩ = some (.int .i64 c1) := (k5.cell 0).trans rfl
  have c_1 : V.drew.cell? ⟨w2.heap.size, 1, none⟩ = some (.bool y1) := (k5.cell 1).trans rfl
  have c_2 : V.drew.cell? ⟨w2.heap.size, 2, none⟩ = some (.slice V1 x1.length v1) := (k5.cell 2).trans rfl
  have c_3 : V.drew.cell? ⟨w3.heap.size, 0, none⟩ = some (.int .i64 c1) := (k6.cell 0).trans rfl
  have c_4 : V.drew.cell? ⟨w3.heap.size, 1, none⟩ = some (.bool y1) := (k6.cell 1).trans rfl
  have c_5 : V.drew.cell? ⟨w3.heap.size, 2, none⟩ = some (.slice V2 x1.length v2) := (k6.cell 2).trans rfl
  have c_6 : V.drew.cell? ⟨w6.heap.size, 0, none⟩ = some (.int .i64 c2) := (k11.cell 0).trans rfl
  have c_7 : V.drew.cell? ⟨w6.heap.size, 1, none⟩ = some (.bool y2) := (k11.cell 1).trans rfl
  have c_8 : V.drew.cell? ⟨w6.heap.size, 2, none⟩ = some (.slice V3 x2.length v3) := (k11.cell 2).trans rfl
  have bD : Below V.heap.size V V.drew := (Below.refl _ _).drew
  have u1 : (c1 != c1) = false := by simp
  have u2 : (y1 != y1) = false := by simp
  have u3 : (wb != wb) = false := by simp
  have u4 : (c2 != c2) = false := by simp
  have hfc := fun D n d W => field_ckC c2 y2 D n d W
  refine wp_region_F 33 (fun w' => w'.cell? ⟨w2.heap.size, 0, none⟩ = some (.int .i64 c1) ∧ w'.cell? ⟨w2.heap.size, 1, none⟩ = some (.bool y1) ∧ w'.cell? ⟨w2.heap.size, 2, none⟩ = some (.slice V1 x1.length v1) ∧ w'.cell? ⟨w3.heap.size, 0, none⟩ = some (.int .i64 c1) ∧ w'.cell? ⟨w3.heap.size, 1, none⟩ = some (.bool y1) ∧ w'.cell? ⟨w3.heap.size, 2, none⟩ = some (.slice V2 x1.length v2) ∧ w'.cell? ⟨w6.heap.size, 0, none⟩ = some (.int .i64 c2) ∧ w'.cell? ⟨w6.heap.size, 1, none⟩ = some (.bool y2) ∧ w'.cell? ⟨w6.heap.size, 2, none⟩ = some (.slice V3 x2.length v3) ∧ Below V.heap.size V w') (fun w' => True) (by kernel_rfl) ⟨⟨c_0, c_1, c_2, c_3, c_4, c_5, c_6, c_7, c_8, bD⟩, trivial⟩ (fun hHeld => ?_)
  try simp only [Act.put, List.setIfInBounds_toArray, List.set_cons_zero, List.set_cons_succ]
  refine wpAnyF_take (i := 0) (v := ?_) (by (simp only [List.getElem?_toArray, List.getElem?_cons_zero]; rfl)) (by kernel_rfl) (by kernel_rfl) (by kernel_rfl) (by decide) (by exact fun _ _ _ h => h) ⟨hHeld.1, .inr hHeld.2⟩ (Or.inl ⟨by rfl, ?_⟩) ?_
  rotate_left
  ·(intro w' _; go_simp <;> with_reducible rfl)
  try simp only [Act.put, List.setIfInBounds_toArray, List.set_cons_zero, List.set_cons_succ]
  refine wpAnyF_keep (i := 1) (v := ?_) (by (simp only [List.getElem?_toArray, List.getElem?_cons_succ, List.getElem?_cons_zero]; rfl)) (by kernel_rfl) (by kernel_rfl) (by kernel_rfl) (by decide) (by exact fun _ _ _ h => h) ⟨hHeld.1, .inr hHeld.2⟩ (Or.inl ⟨by rfl, ?_⟩) ?_
  rotate_left
  ·(intro w' hSw; (try dsimp only at hSw); obtain ⟨hSa0, hSa1, hSa2, hSa3, hSa4, hSa5, hSa6, hSa7, hSa8, hSa9⟩ := hSw; go_simp <;> with_reducible rfl)
  try simp only [Act.put, List.setIfInBounds_toArray, List.set_cons_zero, List.set_cons_succ]
  refine wpAnyF_take (i := 2) (v := ?_) (by (simp only [List.getElem?_toArray, List.getElem?_cons_succ, List.getElem?_cons_zero]; rfl)) (by kernel_rfl) (by kernel_rfl) (by kernel_rfl) (by decide) (by exact fun _ _ _ h => h) ⟨hHeld.1, .inr hHeld.2⟩ (Or.inl ⟨by rfl, ?_⟩) ?_
  rotate_left
  ·(intro w' _; go_simp <;> with_reducible rfl)
  try simp only [Act.put, List.setIfInBounds_toArray, List.set_cons_zero, List.set_cons_succ]
  refine wpAnyF_keep (i := 3) (v := ?_) (by (simp only [List.getElem?_toArray, List.getElem?_cons_succ, List.getElem?_cons_zero]; rfl)) (by kernel_rfl) (by kernel_rfl) (by kernel_rfl) (by decide) (by exact fun _ _ _ h => h) ⟨hHeld.1, .inr hHeld.2⟩ (Or.inl ⟨by rfl, ?_⟩) ?_
  rotate_left
  ·(intro w' hSw; (try dsimp only at hSw); obtain ⟨hSa0, hSa1, hSa2, hSa3, hSa4, hSa5, hSa6, hSa7, hSa8, hSa9⟩ := hSw; go_simp <;> with_reducible rfl)
  try simp only [Act.put, List.setIfInBounds_toArray, List.set_cons_zero, List.set_cons_succ]
  refine wpAnyF_take (i := 4) (v := ?_) (by (simp only [List.getElem?_toArray, List.getElem?_cons_succ, List.getElem?_cons_zero]; rfl)) (by kernel_rfl) (by kernel_rfl) (by kernel_rfl) (by decide) (by exact fun _ _ _ h => h) ⟨hHeld.1, .inr hHeld.2⟩ (Or.inl ⟨by rfl, ?_⟩) ?_
  rotate_left
  ·(intro w' _; go_simp <;> with_reducible rfl)
  try simp only [Act.put, List.setIfInBounds_toArray, List.set_cons_zero, List.set_cons_succ]
  refine wpAnyF_take (i := 5) (v := ?_) (by (simp only [List.getElem?_toArray, List.getElem?_cons_succ, List.getElem?_cons_zero]; rfl)) (by kernel_rfl) (by kernel_rfl) (by kernel_rfl) (by decide) (by exact fun _ _ _ h => h) ⟨hHeld.1, .inr hHeld.2⟩ (Or.inl ⟨by rfl, ?_⟩) ?_
  rotate_left
  ·(intro w' _; go_simp <;> with_reducible rfl)
  try simp only [Act.put, List.setIfInBounds_toArray, List.set_cons_zero, List.set_cons_succ]
  refine wpAnyF_take (i := 6) (v := ?_) (by (simp only [List.getElem?_toArray, List.getElem?_cons_succ, List.getElem?_cons_zero]; rfl)) (by kernel_rfl) (by kernel_rfl) (by kernel_rfl) (by decide) (by exact fun _ _ _ h => h) ⟨hHeld.1, .inr hHeld.2⟩ (Or.inl ⟨by rfl, ?_⟩) ?_
  rotate_left
  ·(intro w' _; go_simp <;> with_reducible rfl)
  try simp only [Act.put, List.setIfInBounds_toArray, List.set_cons_zero, List.set_cons_succ]
  refine wpAnyF_keep (i := 7) (v := ?_) (by (simp only [List.getElem?_toArray, List.getElem?_cons_succ, List.getElem?_cons_zero]; rfl)) (by kernel_rfl) (by kernel_rfl) (by kernel_rfl) (by decide) (by exact fun _ _ _ h => h) ⟨hHeld.1, .inr hHeld.2⟩ (Or.inl ⟨by rfl, ?_⟩) ?_
  rotate_left
  ·(intro w' hSw; (try dsimp only at hSw); obtain ⟨hSa0, hSa1, hSa2, hSa3, hSa4, hSa5, hSa6, hSa7, hSa8, hSa9⟩ := hSw; go_simp <;> with_reducible rfl)
  try simp only [Act.put, List.setIfInBounds_toArray, List.set_cons_zero, List.set_cons_succ]
  refine wpAnyF_take (i := 8) (v := ?_) (by (simp only [List.getElem?_toArray, List.getElem?_cons_succ, List.getElem?_cons_zero]; rfl)) (by kernel_rfl) (by kernel_rfl) (by kernel_rfl) (by decide) (by exact fun _ _ _ h => h) ⟨hHeld.1, .inr hHeld.2⟩ (Or.inl ⟨by rfl, ?_⟩) ?_
  rotate_left
  ·(intro w' _; go_simp <;> with_reducible rfl)
  try simp only [Act.put, List.setIfInBounds_toArray, List.set_cons_zero, List.set_cons_succ]
  refine wpAnyF_keep (i := 9) (v := ?_) (by (simp only [List.getElem?_toArray, List.getElem?_cons_succ, List.getElem?_cons_zero]; rfl)) (by kernel_rfl) (by kernel_rfl) (by kernel_rfl) (by decide) (by exact fun _ _ _ h => h) ⟨hHeld.1, .inr hHeld.2⟩ (Or.inl ⟨by rfl, ?_⟩) ?_
  rotate_left
  ·(intro w' hSw; (try dsimp only at hSw); obtain ⟨hSa0, hSa1, hSa2, hSa3, hSa4, hSa5, hSa6, hSa7, hSa8, hSa9⟩ := hSw; go_simp <;> with_reducible rfl)
  try simp only [Act.put, List.setIfInBounds_toArray, List.set_cons_zero, List.set_cons_succ]
  refine wpAnyF_take (i := 10) (v := ?_) (by (simp only [List.getElem?_toArray, List.getElem?_cons_succ, List.getElem?_cons_zero]; rfl)) (by kernel_rfl) (by kernel_rfl) (by kernel_rfl) (by decide) (by exact fun _ _ _ h => h) ⟨hHeld.1, .inr hHeld.2⟩ (Or.inl ⟨by rfl, ?_⟩) ?_
  rotate_left
  ·(intro w' _; go_simp <;> with_reducible rfl)
  try simp only [Act.put, List.setIfInBounds_toArray, List.set_cons_zero, List.set_cons_succ]
  refine wpAnyF_take (i := 11) (v := ?_) (by (simp only [List.getElem?_toArray, List.getElem?_cons_succ, List.getElem?_cons_zero]; rfl)) (by kernel_rfl) (by kernel_rfl) (by kernel_rfl) (by decide) (by exact fun _ _ _ h => h) ⟨hHeld.1, .inr hHeld.2⟩ (Or.inl ⟨by rfl, ?_⟩) ?_
  rotate_left
  ·(intro w' _; go_simp <;> with_reducible rfl)
  try simp only [Act.put, List.setIfInBounds_toArray, List.set_cons_zero, List.set_cons_succ]
  refine wpAnyF_take (i := 12) (v := ?_) (by (simp only [List.getElem?_toArray, List.getElem?_cons_succ, List.getElem?_cons_zero]; rfl)) (by kernel_rfl) (by kernel_rfl) (by kernel_rfl) (by decide) (by exact fun _ _ _ h => h) ⟨hHeld.1, .inr hHeld.2⟩ (Or.inl ⟨by rfl, ?_⟩) ?_
  rotate_left
  ·(intro w' _; go_simp <;> with_reducible rfl)
  try simp only [Act.put, List.setIfInBounds_toArray, List.set_cons_zero, List.set_cons_succ]
  refine wpAnyF_take (i := 13) (v := ?_) (by (simp only [List.getElem?_toArray, List.getElem?_cons_succ, List.getElem?_cons_zero]; rfl)) (by kernel_rfl) (by kernel_rfl) (by kernel_rfl) (by decide) (by exact fun _ _ _ h => h) ⟨hHeld.1, .inr hHeld.2⟩ (Or.inl ⟨by rfl, ?_⟩) ?_
  rotate_left
  ·(intro w' _; go_simp <;> with_reducible rfl)
  try simp only [Act.put, List.setIfInBounds_toArray, List.set_cons_zero, List.set_cons_succ]
  refine wpAnyF_keep (i := 14) (v := ?_) (by (simp only [List.getElem?_toArray, List.getElem?_cons_succ, List.getElem?_cons_zero]; rfl)) (by kernel_rfl) (by kernel_rfl) (by kernel_rfl) (by decide) (by exact fun _ _ _ h => h) ⟨hHeld.1, .inr hHeld.2⟩ (Or.inl ⟨by rfl, ?_⟩) ?_
  rotate_left
  ·(intro w' hSw; (try dsimp only at hSw); obtain ⟨hSa0, hSa1, hSa2, hSa3, hSa4, hSa5, hSa6, hSa7, hSa8, hSa9⟩ := hSw; go_simp <;> with_reducible rfl)
  try simp only [Act.put, List.setIfInBounds_toArray, List.set_cons_zero, List.set_cons_succ]
  refine wpAnyF_take (i := 15) (v := ?_) (by (simp only [List.getElem?_toArray, List.getElem?_cons_succ, List.getElem?_cons_zero]; rfl)) (by kernel_rfl) (by kernel_rfl) (by kernel_rfl) (by decide) (by exact fun _ _ _ h => h) ⟨hHeld.1, .inr hHeld.2⟩ (Or.inl ⟨by rfl, ?_⟩) ?_
  rotate_left
  ·(intro w' _; go_simp <;> with_reducible rfl)
  try simp only [Act.put, List.setIfInBounds_toArray, List.set_cons_zero, List.set_cons_succ]
  refine wpAnyF_keep (i := 16) (v := ?_) (by (simp only [List.getElem?_toArray, List.getElem?_cons_succ, List.getElem?_cons_zero]; rfl)) (by kernel_rfl) (by kernel_rfl) (by kernel_rfl) (by decide) (by exact fun _ _ _ h => h) ⟨hHeld.1, .inr hHeld.2⟩ (Or.inl ⟨by rfl, ?_⟩) ?_
  rotate_left
  ·(intro w' hSw; (try dsimp only at hSw); obtain ⟨hSa0, hSa1, hSa2, hSa3, hSa4, hSa5, hSa6, hSa7, hSa8, hSa9⟩ := hSw; go_simp <;> with_reducible rfl)
  try simp only [Act.put, List.setIfInBounds_toArray, List.set_cons_zero, List.set_cons_succ]
  refine wpAnyF_ready (rs := [17]) (by kernel_rfl) (by simp) ?_
  refine AllReadyF.cons (by (simp only [List.getElem?_toArray, List.getElem?_cons_succ, List.getElem?_cons_zero]; rfl)) (fun K hK => ?_) AllReadyF.nil
  go_simp
  go_at_call 22
  refine (lwNums_same x1 V1 V2 v1 v2 _ (by unfold maxLen; omega) (rx.below hHeld.1.2.2.2.2.2.2.2.2.2).lt (ry.below hHeld.1.2.2.2.2.2.2.2.2.2).lt).mono ?_
  rintro e wa ⟨rfl, ba⟩
  refine hK.out _ _ ⟨keep9c ba hHeld.1, trivial⟩ (fun hNew => ?_)
  clear hK K hHeld
  have hHeld := hNew
  clear hNew
  try simp only [Act.put, List.setIfInBounds_toArray, List.set_cons_zero, List.set_cons_succ]
  refine wpAnyF_take (i := 18) (v := ?_) (by (simp only [List.getElem?_toArray, List.getElem?_cons_succ, List.getElem?_cons_zero]; rfl)) (by kernel_rfl) (by kernel_rfl) (by kernel_rfl) (by decide) (by exact fun _ _ _ h => h) ⟨hHeld.1, .inr hHeld.2⟩ (Or.inl ⟨by rfl, ?_⟩) ?_
  rotate_left
  ·(intro w' _; go_simp <;> with_reducible rfl)
  try simp only [Act.put, List.setIfInBounds_toArray, List.set_cons_zero, List.set_cons_succ]
  refine wpAnyF_take (i := 19) (v := ?_) (by (simp only [List.getElem?_toArray, List.getElem?_cons_succ, List.getElem?_cons_zero]; rfl)) (by kernel_rfl) (by kernel_rfl) (by kernel_rfl) (by decide) (by exact fun _ _ _ h => h) ⟨hHeld.1, .inr hHeld.2⟩ (Or.inl ⟨by rfl, ?_⟩) ?_
  rotate_left
  ·(intro w' _; go_simp <;> with_reducible rfl)
  try simp only [Act.put, List.setIfInBounds_toArray, List.set_cons_zero, List.set_cons_succ]
  refine wpAnyF_take (i := 20) (v := ?_) (by (simp only [List.getElem?_toArray, List.getElem?_cons_succ, List.getElem?_cons_zero]; rfl)) (by kernel_rfl) (by kernel_rfl) (by kernel_rfl) (by decide) (by exact fun _ _ _ h => h) ⟨hHeld.1, .inr hHeld.2⟩ (Or.inl ⟨by rfl, ?_⟩) ?_
  rotate_left
  ·(intro w' _; go_simp <;> with_reducible rfl)
  try simp only [Act.put, List.setIfInBounds_toArray, List.set_cons_zero, List.set_cons_succ]
  refine wpAnyF_take (i := 21) (v := ?_) (by (simp only [List.getElem?_toArray, List.getElem?_cons_succ, List.getElem?_cons_zero]; rfl)) (by kernel_rfl) (by kernel_rfl) (by kernel_rfl) (by decide) (by exact fun _ _ _ h => h) ⟨hHeld.1, .inr hHeld.2⟩ (Or.inl ⟨by rfl, ?_⟩) ?_
  rotate_left
  ·(intro w' _; go_simp <;> with_reducible rfl)
  try simp only [Act.put, List.setIfInBounds_toArray, List.set_cons_zero, List.set_cons_succ]
  refine wpAnyF_take (i := 22) (v := ?_) (by (simp only [List.getElem?_toArray, List.getElem?_cons_succ, List.getElem?_cons_zero]; rfl)) (by kernel_rfl) (by kernel_rfl) (by kernel_rfl) (by decide) (by exact fun _ _ _ h => h) ⟨hHeld.1, .inr hHeld.2⟩ (Or.inl ⟨by rfl, ?_⟩) ?_
  rotate_left
  ·(intro w' _; go_simp <;> with_reducible rfl)
  try simp only [Act.put, List.setIfInBounds_toArray, List.set_cons_zero, List.set_cons_succ]
  refine wpAnyF_take (i := 23) (v := ?_) (by (simp only [List.getElem?_toArray, List.getElem?_cons_succ, List.getElem?_cons_zero]; rfl)) (by kernel_rfl) (by kernel_rfl) (by kernel_rfl) (by decide) (by exact fun _ _ _ h => h) ⟨hHeld.1, .inr hHeld.2⟩ (Or.inl ⟨by rfl, ?_⟩) ?_
  rotate_left
  ·(intro w' _; go_simp <;> with_reducible rfl)
  try simp only [Act.put, List.setIfInBounds_toArray, List.set_cons_zero, List.set_cons_succ]
  refine wpAnyF_take (i := 24) (v := ?_) (by (simp only [List.getElem?_toArray, List.getElem?_cons_succ, List.getElem?_cons_zero]; rfl)) (by kernel_rfl) (by kernel_rfl) (by kernel_rfl) (by decide) (by exact fun _ _ _ h => h) ⟨hHeld.1, .inr hHeld.2⟩ (Or.inl ⟨by rfl, ?_⟩) ?_
  rotate_left
  ·(intro w' _; go_simp <;> with_reducible rfl)
  try simp only [Act.put, List.setIfInBounds_toArray, List.set_cons_zero, List.set_cons_succ]
  refine wpAnyF_ready (rs := [25]) (by kernel_rfl) (by simp) ?_
  refine AllReadyF.cons (by (simp only [List.getElem?_toArray, List.getElem?_cons_succ, List.getElem?_cons_zero]; rfl)) (fun K hK => ?_) AllReadyF.nil
  go_simp
  go_at_call 23
  refine (SW2.out _ (rt2.below hHeld.1.2.2.2.2.2.2.2.2.2).lt (ro2.below hHeld.1.2.2.2.2.2.2.2.2.2).lt (rf.below hHeld.1.2.2.2.2.2.2.2.2.2).lt).mono ?_
  rintro e wc ⟨rfl, bc⟩
  refine hK.out _ _ ⟨keep9c bc hHeld.1, trivial⟩ (fun hNew => ?_)
  clear hK K hHeld
  have hHeld := hNew
  clear hNew
  try simp only [Act.put, List.setIfInBounds_toArray, List.set_cons_zero, List.set_cons_succ]
  refine wpAnyF_take (i := 26) (v := ?_) (by (simp only [List.getElem?_toArray, List.getElem?_cons_succ, List.getElem?_cons_zero]; rfl)) (by kernel_rfl) (by kernel_rfl) (by kernel_rfl) (by decide) (by exact fun _ _ _ h => h) ⟨hHeld.1, .inr hHeld.2⟩ (Or.inl ⟨by rfl, ?_⟩) ?_
  rotate_left
  ·(intro w' _; go_simp <;> with_reducible rfl)
  try simp only [Act.put, List.setIfInBounds_toArray, List.set_cons_zero, List.set_cons_succ]
  refine wpAnyF_take (i := 27) (v := ?_) (by (simp only [List.getElem?_toArray, List.getElem?_cons_succ, List.getElem?_cons_zero]; rfl)) (by kernel_rfl) (by kernel_rfl) (by kernel_rfl) (by decide) (by exact fun _ _ _ h => h) ⟨hHeld.1, .inr hHeld.2⟩ (Or.inl ⟨by rfl, ?_⟩) ?_
  rotate_left
  ·(intro w' _; go_simp <;> with_reducible rfl)
  try simp only [Act.put, List.setIfInBounds_toArray, List.set_cons_zero, List.set_cons_succ]
  refine wpAnyF_take (i := 28) (v := ?_) (by (simp only [List.getElem?_toArray, List.getElem?_cons_succ, List.getElem?_cons_zero]; rfl)) (by kernel_rfl) (by kernel_rfl) (by kernel_rfl) (by decide) (by exact fun _ _ _ h => h) ⟨hHeld.1, .inr hHeld.2⟩ (Or.inl ⟨by rfl, ?_⟩) ?_
  rotate_left
  ·(intro w' _; go_simp <;> with_reducible rfl)
  try simp only [Act.put, List.setIfInBounds_toArray, List.set_cons_zero, List.set_cons_succ]
  refine wpAnyF_take (i := 29) (v := ?_) (by (simp only [List.getElem?_toArray, List.getElem?_cons_succ, List.getElem?_cons_zero]; rfl)) (by kernel_rfl) (by kernel_rfl) (by kernel_rfl) (by decide) (by exact fun _ _ _ h => h) ⟨hHeld.1, .inr hHeld.2⟩ (Or.inl ⟨by rfl, ?_⟩) ?_
  rotate_left
  ·(intro w' _; go_simp <;> with_reducible rfl)
  try simp only [Act.put, List.setIfInBounds_toArray, List.set_cons_zero, List.set_cons_succ]
  refine wpAnyF_keep (i := 30) (v := ?_) (by (simp only [List.getElem?_toArray, List.getElem?_cons_succ, List.getElem?_cons_zero]; rfl)) (by kernel_rfl) (by kernel_rfl) (by kernel_rfl) (by decide) (by exact fun _ _ _ h => h) ⟨hHeld.1, .inr hHeld.2⟩ (Or.inl ⟨by rfl, ?_⟩) ?_
  rotate_left
  ·(intro w' hSw; (try dsimp only at hSw); obtain ⟨hSa0, hSa1, hSa2, hSa3, hSa4, hSa5, hSa6, hSa7, hSa8, hSa9⟩ := hSw; go_simp <;> with_reducible rfl)
  try simp only [Act.put, List.setIfInBounds_toArray, List.set_cons_zero, List.set_cons_succ]
  refine wpAnyF_take (i := 31) (v := ?_) (by (simp only [List.getElem?_toArray, List.getElem?_cons_succ, List.getElem?_cons_zero]; rfl)) (by kernel_rfl) (by kernel_rfl) (by kernel_rfl) (by decide) (by exact fun _ _ _ h => h) ⟨hHeld.1, .inr hHeld.2⟩ (Or.inl ⟨by rfl, ?_⟩) ?_
  rotate_left
  ·(intro w' _; go_simp <;> with_reducible rfl)
  try simp only [Act.put, List.setIfInBounds_toArray, List.set_cons_zero, List.set_cons_succ]
  refine wpAnyF_take (i := 32) (v := ?_) (by (simp only [List.getElem?_toArray, List.getElem?_cons_succ, List.getElem?_cons_zero]; rfl)) (by kernel_rfl) (by kernel_rfl) (by kernel_rfl) (by decide) (by exact fun _ _ _ h => h) ⟨hHeld.1, .inr hHeld.2⟩ (Or.inl ⟨by rfl, ?_⟩) ?_
  rotate_left
  ·(intro w' _; go_simp <;> with_reducible rfl)
  try simp only [Act.put, List.setIfInBounds_toArray, List.set_cons_zero, List.set_cons_succ]
  refine wpAnyF_ready (rs := [33]) (by kernel_rfl) (by simp) ?_
  refine AllReadyF.last (by (simp only [List.getElem?_toArray, List.getElem?_cons_succ, List.getElem?_cons_zero]; rfl)) (by kernel_rfl) (fun K hK => ?_) AllReadyF.nil
  go_simp
  go_at_call 19
  refine (SK2.out _ (rt2.below hHeld.1.2.2.2.2.2.2.2.2.2).lt (ro2.below hHeld.1.2.2.2.2.2.2.2.2.2).lt).mono ?_
  rintro e wd ⟨V4, v4, rfl, o4, bd⟩
  refine hK.out _ _ (keep9c bd hHeld.1) ?_
  clear hK K
  try simp only [Act.put, List.setIfInBounds_toArray, List.set_cons_zero, List.set_cons_succ]
  refine wpAnyF_take (i := 34) (v := ?_) (by (simp only [List.getElem?_toArray, List.getElem?_cons_succ, List.getElem?_cons_zero]; rfl)) (by kernel_rfl) (by kernel_rfl) (by kernel_rfl) (by decide) (by exact fun _ _ _ h => h) ⟨(keep9c bd hHeld.1), .inl (by kernel_rfl)⟩ (Or.inl ⟨by rfl, ?_⟩) ?_
  rotate_left
  ·(intro w' _; go_simp <;> with_reducible rfl)
  try simp only [Act.put, List.setIfInBounds_toArray, List.set_cons_zero, List.set_cons_succ]
  refine wpAnyF_take (i := 35) (v := ?_) (by (simp only [List.getElem?_toArray, List.getElem?_cons_succ, List.getElem?_cons_zero]; rfl)) (by kernel_rfl) (by kernel_rfl) (by kernel_rfl) (by decide) (by exact fun _ _ _ h => h) ⟨(keep9c bd hHeld.1), .inl (by kernel_rfl)⟩ (Or.inl ⟨by rfl, ?_⟩) ?_
  rotate_left
  ·(intro w' _; go_simp <;> with_reducible rfl)
  try simp only [Act.put, List.setIfInBounds_toArray, List.set_cons_zero, List.set_cons_succ]
  refine wpAnyF_take (i := 36) (v := ?_) (by (simp only [List.getElem?_toArray, List.getElem?_cons_succ, List.getElem?_cons_zero]; rfl)) (by kernel_rfl) (by kernel_rfl) (by kernel_rfl) (by decide) (by exact fun _ _ _ h => h) ⟨(keep9c bd hHeld.1), .inl (by kernel_rfl)⟩ (Or.inl ⟨by rfl, ?_⟩) ?_
  rotate_left
  ·(intro w' _; go_simp <;> with_reducible rfl)
  try simp only [Act.put, List.setIfInBounds_toArray, List.set_cons_zero, List.set_cons_succ]
  refine wpAnyF_done (by kernel_rfl) ?_ _
  have b9 := (keep9c bd hHeld.1).2.2.2.2.2.2.2.2.2
  clear c_0 c_1 c_2 c_3 c_4 c_5 c_6 c_7 c_8 bD hHeld SW2 SK2 ba bc bd o4 u1 u2 u3 u4 hfc
  clear k6 ry rt2 ro2
  clear R
  have z_9 := Below.size b9
  replace rt := (rt.below b9).lt
  replace ro := (ro.below b9).lt
  replace B := B.trans (b9.mono B.size)
  replace rx := (rx.below b9).lt
  replace k5 := k5.kept b9
  replace rf := (rf.below b9).lt
  replace rz := (rz.below b9).lt
  replace k11 := k11.kept b9
  clear b9
  go_upto_region 11 with fail
  cases y1
  ·skip
   have hx1 : x1 = [] := HY.out rfl
   subst hx1
   clear HY HW
   by_cases hc : c1 = 0
   ·subst hc
    clear HN
    have q0 : wd.drew.cell? ⟨w2.heap.size, 0, none⟩ = some (.int .i64 0) := (k5.cell 0).trans rfl
    have q1 : wd.drew.cell? ⟨w2.heap.size, 1, none⟩ = some (.bool false) := (k5.cell 1).trans rfl
    have bD : Below wd.heap.size wd wd.drew := (Below.refl _ _).drew
    refine wp_region_F 99 (fun w' => w'.cell? ⟨w2.heap.size, 0, none⟩ = some (.int .i64 0) ∧ w'.cell? ⟨w2.heap.size, 1, none⟩ = some (.bool false) ∧ Below wd.heap.size wd w') (fun w' => True) (by kernel_rfl) ⟨⟨q0, q1, bD⟩, trivial⟩ (fun hHeld => ?_)
    try simp only [Act.put, List.setIfInBounds_toArray, List.set_cons_zero, List.set_cons_succ]
    refine wpAnyF_take (i := 0) (v := ?_) (by (simp only [List.getElem?_toArray, List.getElem?_cons_zero]; rfl)) (by kernel_rfl) (by kernel_rfl) (by kernel_rfl) (by decide) (by exact fun _ _ _ h => h) ⟨hHeld.1, .inr hHeld.2⟩ (Or.inl ⟨by rfl, ?_⟩) ?_
    rotate_left
    ·(intro w' _; go_simp <;> with_reducible rfl)
    try simp only [Act.put, List.setIfInBounds_toArray, List.set_cons_zero, List.set_cons_succ]
    refine wpAnyF_keep (i := 1) (v := ?_) (by (simp only [List.getElem?_toArray, List.getElem?_cons_succ, List.getElem?_cons_zero]; rfl)) (by kernel_rfl) (by kernel_rfl) (by kernel_rfl) (by decide) (by exact fun _ _ _ h => h) ⟨hHeld.1, .inr hHeld.2⟩ (Or.inl ⟨by rfl, ?_⟩) ?_
    rotate_left
    ·(intro w' hSw; (try dsimp only at hSw); obtain ⟨hSa0, hSa1, hSa2⟩ := hSw; go_simp <;> with_reducible rfl)
    try simp only [Act.put, List.setIfInBounds_toArray, List.set_cons_zero, List.set_cons_succ]
    refine wpAnyF_take (i := 2) (v := ?_) (by (simp only [List.getElem?_toArray, List.getElem?_cons_succ, List.getElem?_cons_zero]; rfl)) (by kernel_rfl) (by kernel_rfl) (by kernel_rfl) (by decide) (by exact fun _ _ _ h => h) ⟨hHeld.1, .inr hHeld.2⟩ (Or.inl ⟨by rfl, ?_⟩) ?_
    rotate_left
    ·(intro w' _; go_simp <;> with_reducible rfl)
    try simp only [Act.put, List.setIfInBounds_toArray, List.set_cons_zero, List.set_cons_succ]
    refine wpAnyF_take (i := 3) (v := ?_) (by (simp only [List.getElem?_toArray, List.getElem?_cons_succ, List.getElem?_cons_zero]; rfl)) (by kernel_rfl) (by kernel_rfl) (by kernel_rfl) (by decide) (by exact fun _ _ _ h => h) ⟨hHeld.1, .inr hHeld.2⟩ (Or.inl ⟨by rfl, ?_⟩) ?_
    rotate_left
    ·(intro w' _; go_simp <;> with_reducible rfl)
    try simp only [Act.put, List.setIfInBounds_toArray, List.set_cons_zero, List.set_cons_succ]
    refine wpAnyF_take (i := 4) (v := undef) (by (simp only [List.getElem?_toArray, List.getElem?_cons_succ, List.getElem?_cons_zero]; rfl)) (by kernel_rfl) (by kernel_rfl) (by kernel_rfl) (by decide) (by exact fun _ _ _ h => h) ⟨hHeld.1, .inr hHeld.2⟩ (Or.inr ⟨by rfl, rfl⟩) ?_
    try simp only [Act.put, List.setIfInBounds_toArray, List.set_cons_zero, List.set_cons_succ]
    refine wpAnyF_take (i := 5) (v := undef) (by (simp only [List.getElem?_toArray, List.getElem?_cons_succ, List.getElem?_cons_zero]; rfl)) (by kernel_rfl) (by kernel_rfl) (by kernel_rfl) (by decide) (by exact fun _ _ _ h => h) ⟨hHeld.1, .inr hHeld.2⟩ (Or.inr ⟨by rfl, rfl⟩) ?_
    try simp only [Act.put, List.setIfInBounds_toArray, List.set_cons_zero, List.set_cons_succ]
    refine wpAnyF_take (i := 6) (v := undef) (by (simp only [List.getElem?_toArray, List.getElem?_cons_succ, List.getElem?_cons_zero]; rfl)) (by kernel_rfl) (by kernel_rfl) (by kernel_rfl) (by decide) (by exact fun _ _ _ h => h) ⟨hHeld.1, .inr hHeld.2⟩ (Or.inr ⟨by rfl, rfl⟩) ?_
    try simp only [Act.put, List.setIfInBounds_toArray, List.set_cons_zero, List.set_cons_succ]
    refine wpAnyF_take (i := 7) (v := undef) (by (simp only [List.getElem?_toArray, List.getElem?_cons_succ, List.getElem?_cons_zero]; rfl)) (by kernel_rfl) (by kernel_rfl) (by kernel_rfl) (by decide) (by exact fun _ _ _ h => h) ⟨hHeld.1, .inr hHeld.2⟩ (Or.inr ⟨by rfl, rfl⟩) ?_
    try simp only [Act.put, List.setIfInBounds_toArray, List.set_cons_zero, List.set_cons_succ]
    refine wpAnyF_take (i := 8) (v := undef) (by (simp only [List.getElem?_toArray, List.getElem?_cons_succ, List.getElem?_cons_zero]; rfl)) (by kernel_rfl) (by kernel_rfl) (by kernel_rfl) (by decide) (by exact fun _ _ _ h => h) ⟨hHeld.1, .inr hHeld.2⟩ (Or.inr ⟨by rfl, rfl⟩) ?_
    try simp only [Act.put, List.setIfInBounds_toArray, List.set_cons_zero, List.set_cons_succ]
    refine wpAnyF_take (i := 9) (v := undef) (by (simp only [List.getElem?_toArray, List.getElem?_cons_succ, List.getElem?_cons_zero]; rfl)) (by kernel_rfl) (by kernel_rfl) (by kernel_rfl) (by decide) (by exact fun _ _ _ h => h) ⟨hHeld.1, .inr hHeld.2⟩ (Or.inr ⟨by rfl, rfl⟩) ?_
    try simp only [Act.put, List.setIfInBounds_toArray, List.set_cons_zero, List.set_cons_succ]
    refine wpAnyF_take (i := 10) (v := undef) (by (simp only [List.getElem?_toArray, List.getElem?_cons_succ, List.getElem?_cons_zero]; rfl)) (by kernel_rfl) (by kernel_rfl) (by kernel_rfl) (by decide) (by exact fun _ _ _ h => h) ⟨hHeld.1, .inr hHeld.2⟩ (Or.inr ⟨by rfl, rfl⟩) ?_
    try simp only [Act.put, List.setIfInBounds_toArray, List.set_cons_zero, List.set_cons_succ]
    refine wpAnyF_take (i := 11) (v := undef) (by (simp only [List.getElem?_toArray, List.getElem?_cons_succ, List.getElem?_cons_zero]; rfl)) (by kernel_rfl) (by kernel_rfl) (by kernel_rfl) (by decide) (by exact fun _ _ _ h => h) ⟨hHeld.1, .inr hHeld.2⟩ (Or.inr ⟨by rfl, rfl⟩) ?_
    try simp only [Act.put, List.setIfInBounds_toArray, List.set_cons_zero, List.set_cons_succ]
    refine wpAnyF_take (i := 12) (v := undef) (by (simp only [List.getElem?_toArray, List.getElem?_cons_succ, List.getElem?_cons_zero]; rfl)) (by kernel_rfl) (by kernel_rfl) (by kernel_rfl) (by decide) (by exact fun _ _ _ h => h) ⟨hHeld.1, .inr hHeld.2⟩ (Or.inr ⟨by rfl, rfl⟩) ?_
    try simp only [Act.put, List.setIfInBounds_toArray, List.set_cons_zero, List.set_cons_succ]
    refine wpAnyF_take (i := 13) (v := undef) (by (simp only [List.getElem?_toArray, List.getElem?_cons_succ, List.getElem?_cons_zero]; rfl)) (by kernel_rfl) (by kernel_rfl) (by kernel_rfl) (by decide) (by exact fun _ _ _ h => h) ⟨hHeld.1, .inr hHeld.2⟩ (Or.inr ⟨by rfl, rfl⟩) ?_
    try simp only [Act.put, List.setIfInBounds_toArray, List.set_cons_zero, List.set_cons_succ]
    refine wpAnyF_take (i := 14) (v := ?_) (by (simp only [List.getElem?_toArray, List.getElem?_cons_succ, List.getElem?_cons_zero]; rfl)) (by kernel_rfl) (by kernel_rfl) (by kernel_rfl) (by decide) (by exact fun _ _ _ h => h) ⟨hHeld.1, .inr hHeld.2⟩ (Or.inl ⟨by rfl, ?_⟩) ?_
    rotate_left
    ·(intro w' _; go_simp <;> with_reducible rfl)
    try simp only [Act.put, List.setIfInBounds_toArray, List.set_cons_zero, List.set_cons_succ]
    refine wpAnyF_done (by kernel_rfl) ?_ _
    clear q0 q1
    replace rt := (rt.below bD).lt
    replace ro := (ro.below bD).lt
    replace rx := (rx.below bD).lt
    replace rz := (rz.below bD).lt
    replace rf := (rf.below bD).lt
    replace k5 := k5.kept bD
    replace k11 := k11.kept bD
    replace B := B.trans (bD.mono B.size)
    clear bD
    have p1 := (k5.cell 1).trans (rfl : _ = some (Value.bool false))
    have p2 := (k5.cell 2).trans (rfl : _ = some (Value.slice V1 ([] : List Int).length v1))
    have s1 := (k11.cell 1).trans (rfl : _ = some (Value.bool y2))
    have s2 := (k11.cell 2).trans (rfl : _ = some (Value.slice V3 x2.length v3))
    cases wb
    ·go_wp2
     go_ret
     exact ⟨rfl, B⟩
    ·obtain ⟨hy, hlx2⟩ := HQ.out rfl
     subst hy
     have LF := hide (fun W h h' => lwFirst_any x2 xs V3 F2 v3 f2 W (by unfold maxLen; omega) h h')
     rw [hlx2] at LF
     clear hlx2 HQ
     go_wp2_with fail
     refine (LF.out _ rz rf).mono ?_
     rintro e wz ⟨rfl, bz⟩
     clear LF
     go_wp2
     go_ret
     exact ⟨rfl, B.trans (bz.mono B.size)⟩
   ·have u0 : (c1 != 0) = true := bne_iff_ne.2 hc
    have u1 : (c1 != c1) = false := by simp
    clear hc HN
    have q0 : wd.drew.cell? ⟨w2.heap.size, 0, none⟩ = some (.int .i64 c1) := (k5.cell 0).trans rfl
    have q1 : wd.drew.cell? ⟨w2.heap.size, 1, none⟩ = some (.bool false) := (k5.cell 1).trans rfl
    have bD : Below wd.heap.size wd wd.drew := (Below.refl _ _).drew
    refine wp_region_F 9 (fun w' => w'.cell? ⟨w2.heap.size, 0, none⟩ = some (.int .i64 c1) ∧ w'.cell? ⟨w2.heap.size, 1, none⟩ = some (.bool false) ∧ Below wd.heap.size wd w') (fun w' => True) (by kernel_rfl) ⟨⟨q0, q1, bD⟩, trivial⟩ (fun hHeld => ?_)
    try simp only [Act.put, List.setIfInBounds_toArray, List.set_cons_zero, List.set_cons_succ]
    refine wpAnyF_take (i := 0) (v := ?_) (by (simp only [List.getElem?_toArray, List.getElem?_cons_zero]; rfl)) (by kernel_rfl) (by kernel_rfl) (by kernel_rfl) (by decide) (by exact fun _ _ _ h => h) ⟨hHeld.1, .inr hHeld.2⟩ (Or.inl ⟨by rfl, ?_⟩) ?_
    rotate_left
    ·(intro w' _; go_simp <;> with_reducible rfl)
    try simp only [Act.put, List.setIfInBounds_toArray, List.set_cons_zero, List.set_cons_succ]
    refine wpAnyF_keep (i := 1) (v := ?_) (by (simp only [List.getElem?_toArray, List.getElem?_cons_succ, List.getElem?_cons_zero]; rfl)) (by kernel_rfl) (by kernel_rfl) (by kernel_rfl) (by decide) (by exact fun _ _ _ h => h) ⟨hHeld.1, .inr hHeld.2⟩ (Or.inl ⟨by rfl, ?_⟩) ?_
    rotate_left
    ·(intro w' hSw; (try dsimp only at hSw); obtain ⟨hSa0, hSa1, hSa2⟩ := hSw; go_simp <;> with_reducible rfl)
    try simp only [Act.put, List.setIfInBounds_toArray, List.set_cons_zero, List.set_cons_succ]
    refine wpAnyF_take (i := 2) (v := ?_) (by (simp only [List.getElem?_toArray, List.getElem?_cons_succ, List.getElem?_cons_zero]; rfl)) (by kernel_rfl) (by kernel_rfl) (by kernel_rfl) (by decide) (by exact fun _ _ _ h => h) ⟨hHeld.1, .inr hHeld.2⟩ (Or.inl ⟨by rfl, ?_⟩) ?_
    rotate_left
    ·(intro w' _; go_simp <;> with_reducible rfl)
    try simp only [Act.put, List.setIfInBounds_toArray, List.set_cons_zero, List.set_cons_succ]
    refine wpAnyF_take (i := 3) (v := ?_) (by (simp only [List.getElem?_toArray, List.getElem?_cons_succ, List.getElem?_cons_zero]; rfl)) (by kernel_rfl) (by kernel_rfl) (by kernel_rfl) (by decide) (by exact fun _ _ _ h => h) ⟨hHeld.1, .inr hHeld.2⟩ (Or.inl ⟨by rfl, ?_⟩) ?_
    rotate_left
    ·(intro w' _; go_simp <;> with_reducible rfl)
    try simp only [Act.put, List.setIfInBounds_toArray, List.set_cons_zero, List.set_cons_succ]
    refine wpAnyF_take (i := 4) (v := ?_) (by (simp only [List.getElem?_toArray, List.getElem?_cons_succ, List.getElem?_cons_zero]; rfl)) (by kernel_rfl) (by kernel_rfl) (by kernel_rfl) (by decide) (by exact fun _ _ _ h => h) ⟨hHeld.1, .inr hHeld.2⟩ (Or.inl ⟨by rfl, ?_⟩) ?_
    rotate_left
    ·(intro w' _; go_simp <;> with_reducible rfl)
    try simp only [Act.put, List.setIfInBounds_toArray, List.set_cons_zero, List.set_cons_succ]
    refine wpAnyF_keep (i := 5) (v := ?_) (by (simp only [List.getElem?_toArray, List.getElem?_cons_succ, List.getElem?_cons_zero]; rfl)) (by kernel_rfl) (by kernel_rfl) (by kernel_rfl) (by decide) (by exact fun _ _ _ h => h) ⟨hHeld.1, .inr hHeld.2⟩ (Or.inl ⟨by rfl, ?_⟩) ?_
    rotate_left
    ·(intro w' hSw; (try dsimp only at hSw); obtain ⟨hSa0, hSa1, hSa2⟩ := hSw; go_simp <;> with_reducible rfl)
    try simp only [Act.put, List.setIfInBounds_toArray, List.set_cons_zero, List.set_cons_succ]
    refine wpAnyF_take (i := 6) (v := ?_) (by (simp only [List.getElem?_toArray, List.getElem?_cons_succ, List.getElem?_cons_zero]; rfl)) (by kernel_rfl) (by kernel_rfl) (by kernel_rfl) (by decide) (by exact fun _ _ _ h => h) ⟨hHeld.1, .inr hHeld.2⟩ (Or.inl ⟨by rfl, ?_⟩) ?_
    rotate_left
    ·(intro w' _; go_simp <;> with_reducible rfl)
    try simp only [Act.put, List.setIfInBounds_toArray, List.set_cons_zero, List.set_cons_succ]
    refine wpAnyF_take (i := 7) (v := ?_) (by (simp only [List.getElem?_toArray, List.getElem?_cons_succ, List.getElem?_cons_zero]; rfl)) (by kernel_rfl) (by kernel_rfl) (by kernel_rfl) (by decide) (by exact fun _ _ _ h => h) ⟨hHeld.1, .inr hHeld.2⟩ (Or.inl ⟨by rfl, ?_⟩) ?_
    rotate_left
    ·(intro w' _; go_simp <;> with_reducible rfl)
    try simp only [Act.put, List.setIfInBounds_toArray, List.set_cons_zero, List.set_cons_succ]
    refine wpAnyF_take (i := 8) (v := ?_) (by (simp only [List.getElem?_toArray, List.getElem?_cons_succ, List.getElem?_cons_zero]; rfl)) (by kernel_rfl) (by kernel_rfl) (by kernel_rfl) (by decide) (by exact fun _ _ _ h => h) ⟨hHeld.1, .inr hHeld.2⟩ (Or.inl ⟨by rfl, ?_⟩) ?_
    rotate_left
    ·(intro w' _; go_simp <;> with_reducible rfl)
    try simp only [Act.put, List.setIfInBounds_toArray, List.set_cons_zero, List.set_cons_succ]
    refine wpAnyF_take (i := 10) (v := ?_) (by (simp only [List.getElem?_toArray, List.getElem?_cons_succ, List.getElem?_cons_zero]; rfl)) (by kernel_rfl) (by kernel_rfl) (by kernel_rfl) (by decide) (by exact fun _ _ _ h => h) ⟨hHeld.1, .inr hHeld.2⟩ (Or.inl ⟨by rfl, ?_⟩) ?_
    rotate_left
    ·(intro w' _; go_simp <;> with_reducible rfl)
    try simp only [Act.put, List.setIfInBounds_toArray, List.set_cons_zero, List.set_cons_succ]
    refine wpAnyF_keep (i := 11) (v := ?_) (by (simp only [List.getElem?_toArray, List.getElem?_cons_succ, List.getElem?_cons_zero]; rfl)) (by kernel_rfl) (by kernel_rfl) (by kernel_rfl) (by decide) (by exact fun _ _ _ h => h) ⟨hHeld.1, .inr hHeld.2⟩ (Or.inl ⟨by rfl, ?_⟩) ?_
    rotate_left
    ·(intro w' hSw; (try dsimp only at hSw); obtain ⟨hSa0, hSa1, hSa2⟩ := hSw; go_simp <;> with_reducible rfl)
    try simp only [Act.put, List.setIfInBounds_toArray, List.set_cons_zero, List.set_cons_succ]
    refine wpAnyF_ready (rs := [9]) (by kernel_rfl) (by simp) ?_
    refine AllReadyF.last (by (simp only [List.getElem?_toArray, List.getElem?_cons_succ, List.getElem?_cons_zero]; rfl)) (by kernel_rfl) (fun K hK => ?_) AllReadyF.nil
    go_simp
    go_at_call 13
    refine (IF.out _ (rt.below hHeld.1.2.2).lt (ro.below hHeld.1.2.2).lt).mono ?_
    rintro e we ⟨rfl, be⟩
    refine hK.out _ _ (keep2o be hHeld.1) ?_
    clear hK K
    try simp only [Act.put, List.setIfInBounds_toArray, List.set_cons_zero, List.set_cons_succ]
    refine wpAnyF_take (i := 12) (v := ?_) (by (simp only [List.getElem?_toArray, List.getElem?_cons_succ, List.getElem?_cons_zero]; rfl)) (by kernel_rfl) (by kernel_rfl) (by kernel_rfl) (by decide) (by exact fun _ _ _ h => h) ⟨(keep2o be hHeld.1), .inl (by kernel_rfl)⟩ (Or.inl ⟨by rfl, ?_⟩) ?_
    rotate_left
    ·(intro w' _; go_simp <;> with_reducible rfl)
    try simp only [Act.put, List.setIfInBounds_toArray, List.set_cons_zero, List.set_cons_succ]
    refine wpAnyF_take (i := 13) (v := ?_) (by (simp only [List.getElem?_toArray, List.getElem?_cons_succ, List.getElem?_cons_zero]; rfl)) (by kernel_rfl) (by kernel_rfl) (by kernel_rfl) (by decide) (by exact fun _ _ _ h => h) ⟨(keep2o be hHeld.1), .inl (by kernel_rfl)⟩ (Or.inl ⟨by rfl, ?_⟩) ?_
    rotate_left
    ·(intro w' _; go_simp <;> with_reducible rfl)
    try simp only [Act.put, List.setIfInBounds_toArray, List.set_cons_zero, List.set_cons_succ]
    refine wpAnyF_take (i := 14) (v := ?_) (by (simp only [List.getElem?_toArray, List.getElem?_cons_succ, List.getElem?_cons_zero]; rfl)) (by kernel_rfl) (by kernel_rfl) (by kernel_rfl) (by decide) (by exact fun _ _ _ h => h) ⟨(keep2o be hHeld.1), .inl (by kernel_rfl)⟩ (Or.inl ⟨by rfl, ?_⟩) ?_
    rotate_left
    ·(intro w' _; go_simp <;> with_reducible rfl)
    try simp only [Act.put, List.setIfInBounds_toArray, List.set_cons_zero, List.set_cons_succ]
    refine wpAnyF_done (by kernel_rfl) ?_ _
    have b11 := (keep2o be hHeld.1).2.2
    clear q0 q1 hHeld be bD
    replace rt := (rt.below b11).lt
    replace ro := (ro.below b11).lt
    replace rx := (rx.below b11).lt
    replace rz := (rz.below b11).lt
    replace rf := (rf.below b11).lt
    replace k5 := k5.kept b11
    replace k11 := k11.kept b11
    replace B := B.trans (b11.mono B.size)
    clear b11
    have p1 := (k5.cell 1).trans (rfl : _ = some (Value.bool false))
    have p2 := (k5.cell 2).trans (rfl : _ = some (Value.slice V1 ([] : List Int).length v1))
    have s1 := (k11.cell 1).trans (rfl : _ = some (Value.bool y2))
    have s2 := (k11.cell 2).trans (rfl : _ = some (Value.slice V3 x2.length v3))
    cases wb
    ·go_wp2
     go_ret
     exact ⟨rfl, B⟩
    ·obtain ⟨hy, hlx2⟩ := HQ.out rfl
     subst hy
     have LF := hide (fun W h h' => lwFirst_any x2 xs V3 F2 v3 f2 W (by unfold maxLen; omega) h h')
     rw [hlx2] at LF
     clear hlx2 HQ
     go_wp2_with fail
     refine (LF.out _ rz rf).mono ?_
     rintro e wz ⟨rfl, bz⟩
     clear LF
     go_wp2
     go_ret
     exact ⟨rfl, B.trans (bz.mono B.size)⟩
  ·skip
   have hc : c1 = 0 := by
    by_cases h : c1 = 0
    ·exact h
    ·exact absurd (HN.out h) (by simp)
   subst hc
   have hwit : witB t os x1 = true := witB_of ((HW.out x1 0 rfl).2)
   have IV := hide (fun W h h' h'' => IW.out W x1 V1 v1 h h' h'' (by unfold maxLen; omega))
   rw [hwit] at IV
   clear HY HN HW hwit IW
   have q0 : wd.drew.cell? ⟨w2.heap.size, 0, none⟩ = some (.int .i64 0) := (k5.cell 0).trans rfl
   have q1 : wd.drew.cell? ⟨w2.heap.size, 1, none⟩ = some (.bool true) := (k5.cell 1).trans rfl
   have bD : Below wd.heap.size wd wd.drew := (Below.refl _ _).drew
   refine wp_region_F 99 (fun w' => w'.cell? ⟨w2.heap.size, 0, none⟩ = some (.int .i64 0) ∧ w'.cell? ⟨w2.heap.size, 1, none⟩ = some (.bool true) ∧ Below wd.heap.size wd w') (fun w' => True) (by kernel_rfl) ⟨⟨q0, q1, bD⟩, trivial⟩ (fun hHeld => ?_)
   try simp only [Act.put, List.setIfInBounds_toArray, List.set_cons_zero, List.set_cons_succ]
   refine wpAnyF_take (i := 0) (v := ?_) (by (simp only [List.getElem?_toArray, List.getElem?_cons_zero]; rfl)) (by kernel_rfl) (by kernel_rfl) (by kernel_rfl) (by decide) (by exact fun _ _ _ h => h) ⟨hHeld.1, .inr hHeld.2⟩ (Or.inl ⟨by rfl, ?_⟩) ?_
   rotate_left
   ·(intro w' _; go_simp <;> with_reducible rfl)
   try simp only [Act.put, List.setIfInBounds_toArray, List.set_cons_zero, List.set_cons_succ]
   refine wpAnyF_keep (i := 1) (v := ?_) (by (simp only [List.getElem?_toArray, List.getElem?_cons_succ, List.getElem?_cons_zero]; rfl)) (by kernel_rfl) (by kernel_rfl) (by kernel_rfl) (by decide) (by exact fun _ _ _ h => h) ⟨hHeld.1, .inr hHeld.2⟩ (Or.inl ⟨by rfl, ?_⟩) ?_
   rotate_left
   ·(intro w' hSw; (try dsimp only at hSw); obtain ⟨hSa0, hSa1, hSa2⟩ := hSw; go_simp <;> with_reducible rfl)
   try simp only [Act.put, List.setIfInBounds_toArray, List.set_cons_zero, List.set_cons_succ]
   refine wpAnyF_take (i := 2) (v := ?_) (by (simp only [List.getElem?_toArray, List.getElem?_cons_succ, List.getElem?_cons_zero]; rfl)) (by kernel_rfl) (by kernel_rfl) (by kernel_rfl) (by decide) (by exact fun _ _ _ h => h) ⟨hHeld.1, .inr hHeld.2⟩ (Or.inl ⟨by rfl, ?_⟩) ?_
   rotate_left
   ·(intro w' _; go_simp <;> with_reducible rfl)
   try simp only [Act.put, List.setIfInBounds_toArray, List.set_cons_zero, List.set_cons_succ]
   refine wpAnyF_take (i := 3) (v := ?_) (by (simp only [List.getElem?_toArray, List.getElem?_cons_succ, List.getElem?_cons_zero]; rfl)) (by kernel_rfl) (by kernel_rfl) (by kernel_rfl) (by decide) (by exact fun _ _ _ h => h) ⟨hHeld.1, .inr hHeld.2⟩ (Or.inl ⟨by rfl, ?_⟩) ?_
   rotate_left
   ·(intro w' _; go_simp <;> with_reducible rfl)
   try simp only [Act.put, List.setIfInBounds_toArray, List.set_cons_zero, List.set_cons_succ]
   refine wpAnyF_take (i := 4) (v := undef) (by (simp only [List.getElem?_toArray, List.getElem?_cons_succ, List.getElem?_cons_zero]; rfl)) (by kernel_rfl) (by kernel_rfl) (by kernel_rfl) (by decide) (by exact fun _ _ _ h => h) ⟨hHeld.1, .inr hHeld.2⟩ (Or.inr ⟨by rfl, rfl⟩) ?_
   try simp only [Act.put, List.setIfInBounds_toArray, List.set_cons_zero, List.set_cons_succ]
   refine wpAnyF_take (i := 5) (v := undef) (by (simp only [List.getElem?_toArray, List.getElem?_cons_succ, List.getElem?_cons_zero]; rfl)) (by kernel_rfl) (by kernel_rfl) (by kernel_rfl) (by decide) (by exact fun _ _ _ h => h) ⟨hHeld.1, .inr hHeld.2⟩ (Or.inr ⟨by rfl, rfl⟩) ?_
   try simp only [Act.put, List.setIfInBounds_toArray, List.set_cons_zero, List.set_cons_succ]
   refine wpAnyF_take (i := 6) (v := undef) (by (simp only [List.getElem?_toArray, List.getElem?_cons_succ, List.getElem?_cons_zero]; rfl)) (by kernel_rfl) (by kernel_rfl) (by kernel_rfl) (by decide) (by exact fun _ _ _ h => h) ⟨hHeld.1, .inr hHeld.2⟩ (Or.inr ⟨by rfl, rfl⟩) ?_
   try simp only [Act.put, List.setIfInBounds_toArray, List.set_cons_zero, List.set_cons_succ]
   refine wpAnyF_take (i := 7) (v := undef) (by (simp only [List.getElem?_toArray, List.getElem?_cons_succ, List.getElem?_cons_zero]; rfl)) (by kernel_rfl) (by kernel_rfl) (by kernel_rfl) (by decide) (by exact fun _ _ _ h => h) ⟨hHeld.1, .inr hHeld.2⟩ (Or.inr ⟨by rfl, rfl⟩) ?_
   try simp only [Act.put, List.setIfInBounds_toArray, List.set_cons_zero, List.set_cons_succ]
   refine wpAnyF_take (i := 8) (v := undef) (by (simp only [List.getElem?_toArray, List.getElem?_cons_succ, List.getElem?_cons_zero]; rfl)) (by kernel_rfl) (by kernel_rfl) (by kernel_rfl) (by decide) (by exact fun _ _ _ h => h) ⟨hHeld.1, .inr hHeld.2⟩ (Or.inr ⟨by rfl, rfl⟩) ?_
   try simp only [Act.put, List.setIfInBounds_toArray, List.set_cons_zero, List.set_cons_succ]
   refine wpAnyF_take (i := 9) (v := undef) (by (simp only [List.getElem?_toArray, List.getElem?_cons_succ, List.getElem?_cons_zero]; rfl)) (by kernel_rfl) (by kernel_rfl) (by kernel_rfl) (by decide) (by exact fun _ _ _ h => h) ⟨hHeld.1, .inr hHeld.2⟩ (Or.inr ⟨by rfl, rfl⟩) ?_
   try simp only [Act.put, List.setIfInBounds_toArray, List.set_cons_zero, List.set_cons_succ]
   refine wpAnyF_take (i := 10) (v := undef) (by (simp only [List.getElem?_toArray, List.getElem?_cons_succ, List.getElem?_cons_zero]; rfl)) (by kernel_rfl) (by kernel_rfl) (by kernel_rfl) (by decide) (by exact fun _ _ _ h => h) ⟨hHeld.1, .inr hHeld.2⟩ (Or.inr ⟨by rfl, rfl⟩) ?_
   try simp only [Act.put, List.setIfInBounds_toArray, List.set_cons_zero, List.set_cons_succ]
   refine wpAnyF_take (i := 11) (v := undef) (by (simp only [List.getElem?_toArray, List.getElem?_cons_succ, List.getElem?_cons_zero]; rfl)) (by kernel_rfl) (by kernel_rfl) (by kernel_rfl) (by decide) (by exact fun _ _ _ h => h) ⟨hHeld.1, .inr hHeld.2⟩ (Or.inr ⟨by rfl, rfl⟩) ?_
   try simp only [Act.put, List.setIfInBounds_toArray, List.set_cons_zero, List.set_cons_succ]
   refine wpAnyF_take (i := 12) (v := undef) (by (simp only [List.getElem?_toArray, List.getElem?_cons_succ, List.getElem?_cons_zero]; rfl)) (by kernel_rfl) (by kernel_rfl) (by kernel_rfl) (by decide) (by exact fun _ _ _ h => h) ⟨hHeld.1, .inr hHeld.2⟩ (Or.inr ⟨by rfl, rfl⟩) ?_
   try simp only [Act.put, List.setIfInBounds_toArray, List.set_cons_zero, List.set_cons_succ]
   refine wpAnyF_take (i := 13) (v := undef) (by (simp only [List.getElem?_toArray, List.getElem?_cons_succ, List.getElem?_cons_zero]; rfl)) (by kernel_rfl) (by kernel_rfl) (by kernel_rfl) (by decide) (by exact fun _ _ _ h => h) ⟨hHeld.1, .inr hHeld.2⟩ (Or.inr ⟨by rfl, rfl⟩) ?_
   try simp only [Act.put, List.setIfInBounds_toArray, List.set_cons_zero, List.set_cons_succ]
   refine wpAnyF_take (i := 14) (v := ?_) (by (simp only [List.getElem?_toArray, List.getElem?_cons_succ, List.getElem?_cons_zero]; rfl)) (by kernel_rfl) (by kernel_rfl) (by kernel_rfl) (by decide) (by exact fun _ _ _ h => h) ⟨hHeld.1, .inr hHeld.2⟩ (Or.inl ⟨by rfl, ?_⟩) ?_
   rotate_left
   ·(intro w' _; go_simp <;> with_reducible rfl)
   try simp only [Act.put, List.setIfInBounds_toArray, List.set_cons_zero, List.set_cons_succ]
   refine wpAnyF_done (by kernel_rfl) ?_ _
   clear q0 q1
   replace rt := (rt.below bD).lt
   replace ro := (ro.below bD).lt
   replace rx := (rx.below bD).lt
   replace rz := (rz.below bD).lt
   replace rf := (rf.below bD).lt
   replace k5 := k5.kept bD
   replace k11 := k11.kept bD
   replace B := B.trans (bD.mono B.size)
   clear bD
   have p1 := (k5.cell 1).trans (rfl : _ = some (Value.bool true))
   have p2 := (k5.cell 2).trans (rfl : _ = some (Value.slice V1 x1.length v1))
   have s1 := (k11.cell 1).trans (rfl : _ = some (Value.bool y2))
   have s2 := (k11.cell 2).trans (rfl : _ = some (Value.slice V3 x2.length v3))
   go_wp2_with fail
   refine (IV.out _ rt ro rx).mono ?_
   rintro e wy ⟨rfl, by_⟩
   clear p1 p2 s1 s2 IV
   replace rt := (rt.below by_).lt
   replace ro := (ro.below by_).lt
   replace rx := (rx.below by_).lt
   replace rz := (rz.below by_).lt
   replace rf := (rf.below by_).lt
   replace k5 := k5.kept by_
   replace k11 := k11.kept by_
   replace B := B.trans (by_.mono B.size)
   clear by_
   have p1 := (k5.cell 1).trans (rfl : _ = some (Value.bool true))
   have p2 := (k5.cell 2).trans (rfl : _ = some (Value.slice V1 x1.length v1))
   have s1 := (k11.cell 1).trans (rfl : _ = some (Value.bool y2))
   have s2 := (k11.cell 2).trans (rfl : _ = some (Value.slice V3 x2.length v3))
   cases wb
   ·go_wp2
    go_ret
    exact ⟨rfl, B⟩
   ·obtain ⟨hy, hlx2⟩ := HQ.out rfl
    subst hy
    have LF := hide (fun W h h' => lwFirst_any x2 xs V3 F2 v3 f2 W (by unfold maxLen; omega) h h')
    rw [hlx2] at LF
    clear hlx2 HQ
    go_wp2_with fail
    refine (LF.out _ rz rf).mono ?_
    rintro e wz ⟨rfl, bz⟩
    clear LF
    go_wp2
    go_ret
    exact ⟨rfl, B.trans (bz.mono B.size)⟩
 ·go_enter Try.func4, Try.ntmps4
  go_wp2_with fail
  refine (lwBig_yes l A c w hL hl).mono ?_
  rintro e w0 ⟨rfl, rfl⟩
  go_wp2
  go_ret
  exact ⟨rfl, Below.refl _ _⟩
end Go.Proofs.Ytnnfkmjhaljplaa
