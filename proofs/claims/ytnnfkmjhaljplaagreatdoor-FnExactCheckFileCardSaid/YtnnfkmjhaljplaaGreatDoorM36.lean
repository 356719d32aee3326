/- What the laws' walks rest upon, part 36. -/
import Derived.Test.YtnnfkmjhaljplaaGreatDoorM35
import Derived.Test.YtnnfkmjhaljplaaGreatDoorM21
import Derived.Test.YtnnfkmjhaljplaaGreatDoorM20
import Derived.Test.YtnnfkmjhaljplaaGreatDoorChecked
import Derived.Test.YtnnfkmjhaljplaaGreatDoorM01
import Derived.Deep.Slices
import Derived.Deep.Fields
import Derived.ProofKit
namespace Go.Proofs.YtnnfkmjhaljplaaGreatDoor
open Go.RowKit
theorem cfR_len (d : List Int) (os : List Wls) : (cfR d os).2.2.length ≤ 32 := by
  by_cases h : (dc d).1 = 0
  · rw [cfR_ok h]; exact chkR_len _ _
  · rw [cfR_bad h]; simp
set_option maxRecDepth 100000 in
set_option maxHeartbeats 3200000 in
theorem FnExactCheckFile_walk (d : List Int) (A : Option Addr) (c : Nat) (os : List Wls) (Ap : Option Addr) (cp : Nat) (w : World)
    (aN aS aE : Addr) (hn : d.length ≤ maxLen) (h : Rd .u8 w w.heap.size A d) (b8 : B8 d) (hT : Tab w) (hST : Sent aN aS aE w) (hon : os.length ≤ maxLen) (hp : RdW w w.heap.size Ap os) :
    Calls Tryz.prog 5 #[.slice A d.length c, .slice Ap os.length cp] w fun e w' => e = .returned (.bool true) ∧ Below w.heap.size w w' := by
  unfold maxLen at hn
  have HT := hide hT
  have HST := hide hST
  clear hT hST
  by_cases hS : d.length ≤ 1048576
  · by_cases hS2 : os.length + sumO os ≤ 1048576
    · have hend2 : endW (1 + d.length) os ≤ 1073741824 := by unfold endW; omega
      have hom : os.length ≤ 1048576 := by omega
      have hO : os.length + sumO os ≤ 1048576 := by omega
      have hlen := cfR_len d os
      have SP := hide (fun A Ap cp w hR hR' => specCF_any d os A Ap d.length cp w hS (Nat.le_refl _) hon hR b8 hR')
      have IM := hide (fun A Ap cp w hR hR' hT hS2 => implCF_any d os A Ap d.length cp aN aS aE w hS (Nat.le_refl _) hon hR b8 hR' hT hS2)
      unfold CfPost at SP IM
      obtain ⟨l, hl2⟩ : ∃ l, l = (cfR d os).2.2 := ⟨_, rfl⟩
      obtain ⟨a, ha⟩ : ∃ a, a = (cfR d os).1 := ⟨_, rfl⟩
      obtain ⟨f, hf⟩ : ∃ f, f = (cfR d os).2.1 := ⟨_, rfl⟩
      rw [← hl2, ← ha, ← hf] at SP IM
      rw [← hl2] at hlen
      have hlm : l.length ≤ maxLen := by unfold maxLen; omega
      clear hl2 ha hf
      go_enter Tryz.func5, Tryz.ntmps5
      go_wp2_with fail
      refine (szWriteListS_fit os Ap cp 1048576 _ hS2 (Nat.le_refl _) (hp.more (by omega))).mono ?_
      rintro e w0 ⟨rfl, B⟩
      have R := h.below B
      have RP := hp.below B
      have zB := B.size
      go_wp2_with fail
      refine (toByteS_any d A c _ hS (R.more (by omega))).mono ?_
      rintro e w1 ⟨g1, rfl, p1, b1⟩
      have x1 := Rd.of_own (k := .u8) p1
      clear p1
      have z_1 := Below.size b1
      replace R := R.below (b1.mono (by omega))
      replace RP := RP.below (b1.mono (by omega))
      replace B := B.trans (b1.mono B.size)
      clear b1
      go_wp2_with fail
      refine (toWriteListS_own os Ap cp _ hO (RP.more (by omega))).mono ?_
      rintro e w1b ⟨g1b, vs1, rfl, o1b, b1b⟩
      have z_2 := Below.size b1b
      replace R := R.below (b1b.mono (by omega))
      replace RP := RP.below (b1b.mono (by omega))
      replace B := B.trans (b1b.mono B.size)
      replace x1 := (x1.below b1b).lt
      clear b1b
      have y1 := o1b.rd
      clear o1b
      go_wp2_with fail
      refine (SP.out _ _ _ _ x1 y1).mono ?_
      rintro e w2 ⟨A0, c0, rfl, o2, b2⟩
      have z_3 := Below.size b2
      replace R := R.below (b2.mono (by omega))
      replace RP := RP.below (b2.mono (by omega))
      replace B := B.trans (b2.mono B.size)
      replace x1 := (x1.below b2).lt
      clear b2
      have r0 := Rd.of_own (k := .i64) o2
      clear o2 x1 y1
      have e_ := (Below.refl w2.heap.size w2).alloc (Nat.le_refl _) (Obj.cells #[Value.int .i64 a, .bool f, .slice A0 l.length c0] 62)
      have zz_3 : (w2.alloc (Obj.cells #[Value.int .i64 a, .bool f, .slice A0 l.length c0] 62)).heap.size = w2.heap.size + 1 := by simp
      have z_4 := Below.size e_
      replace R := R.below (e_.mono (by omega))
      replace RP := RP.below (e_.mono (by omega))
      replace B := B.trans (e_.mono B.size)
      replace r0 := r0.below (e_.mono (by omega))
      clear e_
      have k0 := Bk.new w2 #[Value.int .i64 a, .bool f, .slice A0 l.length c0] 62
      have qK := k0.cell
      go_wp2_with fail
      clear qK
      refine (toByteS_any d A c _ hS (R.more (by omega))).mono ?_
      rintro e w3 ⟨g3, rfl, o3, b3⟩
      have z_5 := Below.size b3
      replace R := R.below (b3.mono (by omega))
      replace RP := RP.below (b3.mono (by omega))
      replace B := B.trans (b3.mono B.size)
      replace r0 := r0.below (b3.mono (by omega))
      replace k0 := k0.kept b3
      clear b3
      replace o3 := own_mono o3 (show w2.heap.size + 1 ≤ _ by simp)
      have hus : ∀ b, (Value.slice (some ⟨g3, 0, none⟩) d.length d.length).ownBlock = some b → w2.heap.size + 1 ≤ b ∧ b < w3.heap.size := fun b hb => o3.lt b hb
      have x3 := Rd.of_own (k := .u8) o3
      have zk := k0.lt
      go_wp2_with fail
      refine (toWriteListS_own os Ap cp _ hO (RP.more (by omega))).mono ?_
      rintro e w3b ⟨g3b, vs3, rfl, o3b, b3b⟩
      have z_6 := Below.size b3b
      replace R := R.below (b3b.mono (by omega))
      replace RP := RP.below (b3b.mono (by omega))
      replace B := B.trans (b3b.mono B.size)
      replace r0 := r0.below (b3b.mono (by omega))
      replace k0 := k0.kept b3b
      replace x3 := (x3.below b3b).lt
      replace o3 := own_below o3 b3b (Nat.le_refl _)
      clear b3b
      replace o3b := o3b.mono (b' := w3.heap.size) (Nat.le_refl _)
      have y3 := o3b.rd
      have hub : ∀ u ∈ Value.slice (some ⟨g3b, 0, none⟩) os.length os.length :: vs3, ∀ b, u.ownBlock = some b → w3.heap.size ≤ b ∧ b < w3b.heap.size := fun u hu b hb => by
        rcases List.mem_cons.1 hu with rfl | hu
        · exact o3b.row.lt b hb
        · exact o3b.bound u hu b hb
      go_wp2_with fail
      refine (IM.out _ _ _ _ x3 y3 (HT.out.below B) (HST.out.below B)).mono ?_
      rintro e w4 ⟨A1, c1, rfl, o4, b4⟩
      have z_7 := Below.size b4
      replace R := R.below (b4.mono (by omega))
      replace RP := RP.below (b4.mono (by omega))
      replace B := B.trans (b4.mono B.size)
      replace r0 := r0.below (b4.mono (by omega))
      replace k0 := k0.kept b4
      replace x3 := (x3.below b4).lt
      replace y3 := (y3.below b4).lt
      replace o3 := own_below o3 b4 (Nat.le_refl _)
      replace o3b := o3b.below b4
      clear b4
      clear x3 y3
      have hne1 : some w4.heap.size ≠ (Value.slice A1 l.length c1).ownBlock := own_apart o4 _ (.inr (Nat.le_refl _))
      have e_ := (Below.refl w4.heap.size w4).alloc (Nat.le_refl _) (Obj.cells #[Value.int .i64 a, .bool f, .slice A1 l.length c1] 62)
      have zz_7 : (w4.alloc (Obj.cells #[Value.int .i64 a, .bool f, .slice A1 l.length c1] 62)).heap.size = w4.heap.size + 1 := by simp
      have z_8 := Below.size e_
      replace R := R.below (e_.mono (by omega))
      replace RP := RP.below (e_.mono (by omega))
      replace B := B.trans (e_.mono B.size)
      replace r0 := r0.below (e_.mono (by omega))
      replace k0 := k0.kept e_
      replace o4 := own_below o4 e_ (Nat.le_refl _)
      replace o3 := own_below o3 e_ (Nat.le_refl _)
      replace o3b := o3b.below e_
      clear e_
      have k1 := Bk.new w4 #[Value.int .i64 a, .bool f, .slice A1 l.length c1] 62
      have q_k0 := k0.cell
      have q_k1 := k1.cell
      go_wp2_with fail
      refine (eqCheckResult_same a f l _ _ _ _ _ hlm (Rd.of_own (k := .i64) o4) (r0.more (by omega))).mono ?_
      rintro e w5 ⟨rfl, b5⟩
      clear q_k0 q_k1
      have z_9 := Below.size b5
      replace R := R.below (b5.mono (by omega))
      replace RP := RP.below (b5.mono (by omega))
      replace B := B.trans (b5.mono B.size)
      replace r0 := r0.below (b5.mono (by omega))
      replace k0 := k0.kept b5
      replace o4 := own_below o4 b5 (Nat.le_refl _)
      replace k1 := k1.kept b5
      replace o3 := own_below o3 b5 (Nat.le_refl _)
      replace o3b := o3b.below b5
      clear b5
      go_wp2_with fail
      refine (toByteS_any d A c _ hS (R.more (by omega))).mono ?_
      rintro e w6 ⟨g6, rfl, p6, b6⟩
      have x6 := Rd.of_own (k := .u8) p6
      clear p6
      have z_10 := Below.size b6
      replace R := R.below (b6.mono (by omega))
      replace RP := RP.below (b6.mono (by omega))
      replace B := B.trans (b6.mono B.size)
      replace r0 := r0.below (b6.mono (by omega))
      replace k0 := k0.kept b6
      replace o4 := own_below o4 b6 (Nat.le_refl _)
      replace k1 := k1.kept b6
      replace o3 := own_below o3 b6 (Nat.le_refl _)
      replace o3b := o3b.below b6
      clear b6
      go_wp2_with fail
      refine (eqByteS_same d _ _ _ _ _ (by unfold maxLen; omega) (Rd.of_own (k := .u8) o3) x6).mono ?_
      rintro e w7 ⟨rfl, b7⟩
      have z_11 := Below.size b7
      replace R := R.below (b7.mono (by omega))
      replace RP := RP.below (b7.mono (by omega))
      replace B := B.trans (b7.mono B.size)
      replace r0 := r0.below (b7.mono (by omega))
      replace k0 := k0.kept b7
      replace o4 := own_below o4 b7 (Nat.le_refl _)
      replace k1 := k1.kept b7
      replace o3 := own_below o3 b7 (Nat.le_refl _)
      replace o3b := o3b.below b7
      clear b7
      clear x6
      go_wp2_with fail
      refine (toWriteListS_own os Ap cp _ hO (RP.more (by omega))).mono ?_
      rintro e w7b ⟨g7b, vs7, rfl, o7b, b7b⟩
      have z_12 := Below.size b7b
      replace R := R.below (b7b.mono (by omega))
      replace RP := RP.below (b7b.mono (by omega))
      replace B := B.trans (b7b.mono B.size)
      replace r0 := r0.below (b7b.mono (by omega))
      replace k0 := k0.kept b7b
      replace o4 := own_below o4 b7b (Nat.le_refl _)
      replace k1 := k1.kept b7b
      replace o3 := own_below o3 b7b (Nat.le_refl _)
      replace o3b := o3b.below b7b
      clear b7b
      have y7 := o7b.rd
      clear o7b
      go_wp2_with fail
      refine (eqWriteListS_same os _ _ _ _ _ hon o3b.rd y7).mono ?_
      rintro e w7c ⟨rfl, b7c⟩
      have z_13 := Below.size b7c
      replace R := R.below (b7c.mono (by omega))
      replace RP := RP.below (b7c.mono (by omega))
      replace B := B.trans (b7c.mono B.size)
      replace r0 := r0.below (b7c.mono (by omega))
      replace k0 := k0.kept b7c
      replace o4 := own_below o4 b7c (Nat.le_refl _)
      replace k1 := k1.kept b7c
      replace o3 := own_below o3 b7c (Nat.le_refl _)
      replace o3b := o3b.below b7c
      clear b7c
      clear y7
      go_wp2_with fail
      have MK := markByteS_any (w2.heap.size + 1) _ d.length _ 1 _ w7c (by omega) o3
      refine MK.mono ?_
      clear MK o3
      rintro e w8 ⟨rfl, o8, g8⟩
      have s8 := (Only.of_grown (us := [Value.slice (some ⟨g3, 0, none⟩) d.length d.length]) g8 (by simp)).spared (lo := w2.heap.size + 1) (hi := w3.heap.size) (by omega) (fun u hu b hb => by simp only [List.mem_cons, List.not_mem_nil, or_false] at hu; subst hu; exact hus b hb)
      clear g8
      clear o8
      have z_s := s8.size
      replace R := R.below (s8.below.mono (by omega))
      replace RP := RP.below (s8.below.mono (by omega))
      replace r0 := r0.below (s8.below.mono (by omega))
      replace B := B.trans (s8.below.mono (by omega))
      replace k0 := k0.below s8.below (by omega)
      replace k1 := s8.bk _ _ _ k1 (by omega)
      replace o4 := s8.own _ _ _ _ _ _ o4 (fun b hb => by have := (o4.lt b hb).1; omega)
      replace o3b := o3b.sparedT s8 (Nat.le_refl _)
      clear s8 hus
      go_wp2_with fail
      have MK := markWriteListS_any w3.heap.size (1 + d.length) os vs3 _ _ w8 hend2 hom o3b
      refine MK.mono ?_
      clear MK o3b
      rintro e w8b ⟨rfl, o8b, s8b⟩
      clear o8b
      replace s8b := s8b.spared (lo := w3.heap.size) (hi := w3b.heap.size) (by omega) hub
      have z_g := s8b.size
      replace R := R.below (s8b.below.mono (by omega))
      replace RP := RP.below (s8b.below.mono (by omega))
      replace r0 := r0.below (s8b.below.mono (by omega))
      replace B := B.trans (s8b.below.mono (by omega))
      replace k0 := k0.below s8b.below (by omega)
      replace k1 := s8b.bk _ _ _ k1 (by omega)
      replace o4 := s8b.own _ _ _ _ _ _ o4 (fun b hb => by have := (o4.lt b hb).1; omega)
      clear s8b hub
      have q_k0 := k0.cell
      have q_k1 := k1.cell
      go_wp2_with fail
      refine (eqCheckResult_same a f l _ _ _ _ _ hlm (Rd.of_own (k := .i64) o4) (r0.more (by omega))).mono ?_
      rintro e w9 ⟨rfl, b9⟩
      clear q_k0 q_k1
      have z_14 := Below.size b9
      replace R := R.below (b9.mono (by omega))
      replace RP := RP.below (b9.mono (by omega))
      replace B := B.trans (b9.mono B.size)
      replace r0 := r0.below (b9.mono (by omega))
      replace k0 := k0.kept b9
      replace o4 := own_below o4 b9 (Nat.le_refl _)
      replace k1 := k1.kept b9
      clear b9
      have q_k1 := k1.cell
      go_wp2_with fail
      have MK := markCheckResult_any w3b.heap.size a f A1 l.length c1 1 _ w9 (by omega) o4
      refine MK.mono ?_
      clear MK q_k1
      rintro e w10 ⟨rfl, o10, g10⟩
      have b_ := grown_below o4 g10 (B := w3b.heap.size) (by omega) (Nat.le_refl _)
      have z_15 := Below.size b_
      replace R := R.below (b_.mono (by omega))
      replace RP := RP.below (b_.mono (by omega))
      replace B := B.trans (b_.mono (by omega))
      replace r0 := r0.below (b_.mono (by omega))
      replace k0 := k0.grown g10 (own_apart o4 _ (by first | exact .inl (by omega) | exact .inr (by omega)))
      replace k1 := k1.grown g10 hne1
      clear b_ g10 o4
      have r1 := Rd.of_own (k := .i64) o10
      clear o10
      have q_k1 := k1.cell
      go_wp2_with fail
      refine (heldCheckResult_marked _ a f A1 l.length c1 1 w10 (by omega) (Nat.le_refl _) r1).mono ?_
      rintro e w11 ⟨rfl, b11⟩
      clear q_k1
      have z_16 := Below.size b11
      replace R := R.below (b11.mono (by omega))
      replace RP := RP.below (b11.mono (by omega))
      replace B := B.trans (b11.mono B.size)
      replace r0 := r0.below (b11.mono (by omega))
      replace k0 := k0.kept b11
      replace k1 := k1.kept b11
      replace r1 := (r1.below b11).lt
      clear b11
      go_wp2_with fail
      refine (toByteS_any d A c _ hS (R.more (by omega))).mono ?_
      rintro e w12 ⟨g12, rfl, p12, b12⟩
      have x12 := Rd.of_own (k := .u8) p12
      clear p12
      have z_17 := Below.size b12
      replace R := R.below (b12.mono (by omega))
      replace RP := RP.below (b12.mono (by omega))
      replace B := B.trans (b12.mono B.size)
      replace r0 := r0.below (b12.mono (by omega))
      replace k0 := k0.kept b12
      replace k1 := k1.kept b12
      replace r1 := (r1.below b12).lt
      clear b12
      go_wp2_with fail
      refine (toWriteListS_own os Ap cp _ hO (RP.more (by omega))).mono ?_
      rintro e w12b ⟨g12b, vs12, rfl, o12b, b12b⟩
      have z_18 := Below.size b12b
      replace R := R.below (b12b.mono (by omega))
      replace RP := RP.below (b12b.mono (by omega))
      replace B := B.trans (b12b.mono B.size)
      replace r0 := r0.below (b12b.mono (by omega))
      replace k0 := k0.kept b12b
      replace k1 := k1.kept b12b
      replace r1 := (r1.below b12b).lt
      replace x12 := (x12.below b12b).lt
      clear b12b
      have y12 := o12b.rd
      clear o12b
      go_wp2_with fail
      refine (IM.out _ _ _ _ x12 y12 (HT.out.below B) (HST.out.below B)).mono ?_
      rintro e w13 ⟨A2, c2, rfl, o13, b13⟩
      have z_19 := Below.size b13
      replace R := R.below (b13.mono (by omega))
      replace RP := RP.below (b13.mono (by omega))
      replace B := B.trans (b13.mono B.size)
      replace r0 := r0.below (b13.mono (by omega))
      replace k0 := k0.kept b13
      replace k1 := k1.kept b13
      replace r1 := (r1.below b13).lt
      replace x12 := (x12.below b13).lt
      clear b13
      have r2 := Rd.of_own (k := .i64) o13
      clear o13 x12 y12
      have e_ := (Below.refl w13.heap.size w13).alloc (Nat.le_refl _) (Obj.cells #[Value.int .i64 a, .bool f, .slice A2 l.length c2] 62)
      have zz_19 : (w13.alloc (Obj.cells #[Value.int .i64 a, .bool f, .slice A2 l.length c2] 62)).heap.size = w13.heap.size + 1 := by simp
      have z_20 := Below.size e_
      replace R := R.below (e_.mono (by omega))
      replace RP := RP.below (e_.mono (by omega))
      replace B := B.trans (e_.mono B.size)
      replace r0 := r0.below (e_.mono (by omega))
      replace k0 := k0.kept e_
      replace k1 := k1.kept e_
      replace r1 := (r1.below e_).lt
      replace r2 := (r2.below e_).lt
      clear e_
      have k2 := Bk.new w13 #[Value.int .i64 a, .bool f, .slice A2 l.length c2] 62
      have q_k0 := k0.cell
      have q_k2 := k2.cell
      go_wp2_with fail
      refine (eqCheckResult_same a f l _ _ _ _ _ hlm r2 (r0.more (by omega))).mono ?_
      rintro e w14 ⟨rfl, b14⟩
      clear q_k0 q_k2
      have z_21 := Below.size b14
      replace R := R.below (b14.mono (by omega))
      replace RP := RP.below (b14.mono (by omega))
      replace B := B.trans (b14.mono B.size)
      replace r0 := r0.below (b14.mono (by omega))
      replace k0 := k0.kept b14
      replace k1 := k1.kept b14
      replace r1 := (r1.below b14).lt
      replace r2 := (r2.below b14).lt
      replace k2 := k2.kept b14
      clear b14
      have q_k1 := k1.cell
      go_wp2_with fail
      refine (heldCheckResult_marked _ a f A1 l.length c1 1 w14 (by omega) (Nat.le_refl _) r1).mono ?_
      rintro e w15 ⟨rfl, b15⟩
      clear q_k1
      have z_22 := Below.size b15
      replace R := R.below (b15.mono (by omega))
      replace RP := RP.below (b15.mono (by omega))
      replace B := B.trans (b15.mono B.size)
      replace r0 := r0.below (b15.mono (by omega))
      replace k0 := k0.kept b15
      replace k1 := k1.kept b15
      replace r1 := (r1.below b15).lt
      replace r2 := (r2.below b15).lt
      replace k2 := k2.kept b15
      clear b15
      go_wp2
      go_ret
      exact ⟨rfl, B⟩
    · go_enter Tryz.func5, Tryz.ntmps5
      go_wp2_with fail
      refine (szWriteListS_not os Ap cp 1048576 _ (by omega) (Nat.le_refl _) hon (hp.more (by omega))).mono ?_
      rintro e w' ⟨rfl, B⟩
      go_wp2
      go_ret
      exact ⟨rfl, B⟩
  · go_enter Tryz.func5, Tryz.ntmps5
    go_wp2
    go_ret
    exact ⟨rfl, Below.refl _ _⟩
end Go.Proofs.YtnnfkmjhaljplaaGreatDoor
namespace Go.Proofs.YtnnfkmjhaljplaaGreatDoor
open Go.RowKit Go.Deep Go.ChangeShapes Go.WideShapes
set_option maxRecDepth 100000
section
variable {H : Type} {enc : TypeId × Value → H} {w : World} {base : Nat} {spare : Nat → Bool} {held : Bool}
instance : Inhabited Ev := ⟨⟨0, 0, 0⟩⟩
theorem cells_int64 : Tryz.prog.cellsOf 2 = 1 := by kernel_rfl
theorem one_int {fuel : Nat} {v : Value} {x : DataW H × List MemPlace} (h : DataW.trod enc Tryz.prog w base spare held fuel 2 [v] = some x) : ∃ n, v = .int .i64 n ∧ I64 n := by
  obtain ⟨n, hv, _, hw⟩ := DataW.trod_int Tryz.underlying2 h
  have hb := bounds_i64 hw
  have h1 : v = .int .i64 n := List.head_eq_of_cons_eq hv
  exact ⟨n, h1, hb⟩
end
end Go.Proofs.YtnnfkmjhaljplaaGreatDoor
