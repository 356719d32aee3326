/- The walk of the exact law of DecodeTrace, by the contract of the program's own (DecI). -/
import Derived.Test.YtmnpiakcppcmgaaDoorDecS
import Derived.Test.YtmnpiakcppcmgaaDoorGTrM
import Derived.Test.YtmnpiakcppcmgaaDoorDecI
import Derived.Test.YtmnpiakcppcmgaaDoorGMarks
namespace Go.Proofs.YtmnpiakcppcmgaaDoor
open Go.RowKit

theorem dcS_few : ∀ (f : Nat) (file : List Int) (at_ : Nat) (cs : List (List Ev)) (last : Int) (n : Nat), (∀ l ∈ cs, l.length ≤ 8) → (dcS f file at_ cs last n).2.length ≤ cs.length ∧ ∀ l ∈ (dcS f file at_ cs last n).2, l.length ≤ 8
  | 0, file, at_, cs, last, n, _ => by simp [dcS]
  | f + 1, file, at_, cs, last, n, h => by
    by_cases h1 : at_ < file.length ∧ (file.drop at_).getD 0 0 = 66
    · by_cases h2 : dcFrame (file.drop at_) cs last = 0
      · rw [dcS_frame h1 h2]
        have := dcS_few f file (at_ + (frZ (file.drop at_)).toNat) (dcNext (file.drop at_) cs) (frK (file.drop at_)) (n + 1) (dcNext_few h2 h)
        rw [dcNext_length] at this
        exact this
      · rw [dcS_stop h1 h2]; simp
    · rw [dcS_end h1]
      by_cases h3 : dcEnd file at_ cs n = 0
      · rw [if_pos h3]; exact ⟨Nat.le_refl _, h⟩
      · rw [if_neg h3]; simp
theorem dc_few (file : List Int) : (dc file).2.length ≤ 4 ∧ ∀ l ∈ (dc file).2, l.length ≤ 8 := by
  by_cases h : file.length ≤ 2000
  · by_cases h1 : dcHd file
    · rw [dc_go h h1]
      have := dcS_few (file.length + 1) file 2 (List.replicate (file.getD 1 0).toNat []) 0 0 (fun l hl => by rw [List.eq_of_mem_replicate hl]; simp)
      rw [List.length_replicate] at this
      obtain ⟨_, _, _, h4⟩ := h1
      exact ⟨by omega, this.2⟩
    · rw [dc_text h h1]; simp
  · rw [dc_many h]; simp
theorem sumT_bound : ∀ {t : List (List Ev)}, (∀ l ∈ t, l.length ≤ 8) → sumT t ≤ 8 * t.length
  | [], _ => by simp [sumT]
  | l :: r, h => by
    have h1 := sumT_bound fun x hx => h x (List.mem_cons_of_mem l hx)
    have := h l (List.mem_cons_self ..)
    simp only [sumT, List.length_cons]
    omega

set_option maxRecDepth 100000 in
set_option maxHeartbeats 1600000 in
theorem FnExactDecodeTrace_walk (d : List Int) (A : Option Addr) (c : Nat) (aN aS aE : Addr) (w : World)
    (hd : d.length ≤ maxLen) (h : Rd .u8 w w.heap.size A d) (b : B8 d) (hT : Tab w) (hS : Sent aN aS aE w) :
    Calls Tryd.prog 4 #[.slice A d.length c] w fun e w' => e = .returned (.bool true) ∧ Below w.heap.size w w' := by
  have hn := hd
  unfold maxLen at hd
  have HT := hide hT
  have HS := hide hS
  clear hT hS
  by_cases hL : d.length ≤ 1048576
  · obtain ⟨t, ht2⟩ : ∃ t, t = (dc d).2 := ⟨_, rfl⟩
    have hfew := dc_few d
    rw [← ht2] at hfew
    have hsum := sumT_bound hfew.2
    have hend : endT 1 t ≤ 1073741824 := by unfold endT; omega
    have ht : t.length ≤ 1048576 := by omega
    have hlm : t.length ≤ maxLen := by unfold maxLen; omega
    obtain ⟨a, ha⟩ : ∃ a, a = (dc d).1 := ⟨_, rfl⟩
    have SP := hide (fun A c w => specDec_any d A c w)
    have IM := hide (fun A c w h1 h2 h3 h4 => implDec_any d A c aN aS aE w hL h1 h2 b h3 h4)
    unfold DtPost at SP IM
    rw [← ht2, ← ha] at SP IM
    clear ht2 ha hfew hsum
    go_enter Tryd.func4, Tryd.ntmps4
    go_wp2_with fail
    refine (toByteS_any d A c _ hL h).mono ?_
    rintro e w1 ⟨g1, rfl, o1, B⟩
    have R := h.below B
    have x1 := Rd.of_own o1
    clear o1
    have zB := B.size
    go_wp2_with fail
    refine (SP.out _ _ _ hL (Nat.le_refl _) x1 b).mono ?_
    rintro e w2 ⟨A0, c0, us0, rfl, o2, b2⟩
    have z_1 := Below.size b2
    replace R := R.below (b2.mono (by omega))
    replace B := B.trans (b2.mono B.size)
    clear b2
    have r0 := o2.rd
    clear o2 x1
    have e_ := (Below.refl w2.heap.size w2).alloc (Nat.le_refl _) (Obj.cells #[Value.int .i64 a, .slice A0 t.length c0] 36)
    have zz_1 : (w2.alloc (Obj.cells #[Value.int .i64 a, .slice A0 t.length c0] 36)).heap.size = w2.heap.size + 1 := by simp
    have z_2 := Below.size e_
    replace R := R.below (e_.mono (by omega))
    replace B := B.trans (e_.mono B.size)
    replace r0 := r0.below (e_.mono (by omega))
    clear e_
    have k0 := Bk.new w2 #[Value.int .i64 a, .slice A0 t.length c0] 36
    have qK := k0.cell
    go_wp2_with fail
    clear qK
    refine (toByteS_any d A c _ hL (R.more (by omega))).mono ?_
    rintro e w3 ⟨g3, rfl, o3, b3⟩
    have z_3 := Below.size b3
    replace R := R.below (b3.mono (by omega))
    replace B := B.trans (b3.mono B.size)
    replace r0 := r0.below (b3.mono (by omega))
    replace k0 := k0.kept b3
    clear b3
    replace o3 := own_alloc' o3
    have hg3 := o3.lt g3 rfl
    have x3 := Rd.of_own o3
    have zk := k0.lt
    go_wp2_with fail
    refine (IM.out _ _ _ (Nat.le_refl _) x3 (HT.out.below B) (HS.out.below B)).mono ?_
    rintro e w4 ⟨A1, c1, us1, rfl, o4, b4⟩
    have z_4 := Below.size b4
    replace R := R.below (b4.mono (by omega))
    replace B := B.trans (b4.mono B.size)
    replace r0 := r0.below (b4.mono (by omega))
    replace k0 := k0.kept b4
    replace o3 := own_below o3 b4 (Nat.le_refl _)
    clear b4
    clear x3
    have hus := own_bound o4
    have e_ := (Below.refl w4.heap.size w4).alloc (Nat.le_refl _) (Obj.cells #[Value.int .i64 a, .slice A1 t.length c1] 36)
    have zz_4 : (w4.alloc (Obj.cells #[Value.int .i64 a, .slice A1 t.length c1] 36)).heap.size = w4.heap.size + 1 := by simp
    have z_5 := Below.size e_
    replace R := R.below (e_.mono (by omega))
    replace B := B.trans (e_.mono B.size)
    replace r0 := r0.below (e_.mono (by omega))
    replace k0 := k0.kept e_
    replace o3 := own_below o3 e_ (Nat.le_refl _)
    replace o4 := o4.below e_
    clear e_
    have k1 := Bk.new w4 #[Value.int .i64 a, .slice A1 t.length c1] 36
    have q_k0 := k0.cell
    have q_k1 := k1.cell
    go_wp2_with fail
    refine (eqTraceResult_same a t _ _ _ _ _ hlm o4.rd (r0.more (by omega))).mono ?_
    rintro e w5 ⟨rfl, b5⟩
    clear q_k0 q_k1
    have z_6 := Below.size b5
    replace R := R.below (b5.mono (by omega))
    replace B := B.trans (b5.mono B.size)
    replace r0 := r0.below (b5.mono (by omega))
    replace k0 := k0.kept b5
    replace o3 := own_below o3 b5 (Nat.le_refl _)
    replace k1 := k1.kept b5
    replace o4 := o4.below b5
    clear b5
    go_wp2_with fail
    refine (toByteS_any d A c _ hL (R.more (by omega))).mono ?_
    rintro e w6 ⟨g6, rfl, o6, b6⟩
    have z_7 := Below.size b6
    replace R := R.below (b6.mono (by omega))
    replace B := B.trans (b6.mono B.size)
    replace r0 := r0.below (b6.mono (by omega))
    replace k0 := k0.kept b6
    replace o3 := own_below o3 b6 (Nat.le_refl _)
    replace k1 := k1.kept b6
    replace o4 := o4.below b6
    clear b6
    have x6 := Rd.of_own o6
    clear o6
    go_wp2_with fail
    refine (eqByteS_same d _ _ _ _ _ hn (Rd.of_own o3) x6).mono ?_
    rintro e w7 ⟨rfl, b7⟩
    have z_8 := Below.size b7
    replace R := R.below (b7.mono (by omega))
    replace B := B.trans (b7.mono B.size)
    replace r0 := r0.below (b7.mono (by omega))
    replace k0 := k0.kept b7
    replace o3 := own_below o3 b7 (Nat.le_refl _)
    replace k1 := k1.kept b7
    replace o4 := o4.below b7
    clear b7
    clear x6
    go_wp2_with fail
    have MK := markByteS_any (w2.heap.size + 1) _ d.length _ 1 _ w7 (by omega) o3
    refine MK.mono ?_
    clear MK
    rintro e w8 ⟨rfl, o8, g8⟩
    clear o8
    replace o4 := o4.kept g8 (fun b e => by simp only [Value.ownBlock, Option.some.injEq] at e; omega)
    have b_ := grown_below o3 g8 (B := w2.heap.size + 1) (by omega) (Nat.le_refl _)
    have z_9 := Below.size b_
    replace R := R.below (b_.mono (by omega))
    replace B := B.trans (b_.mono (by omega))
    replace r0 := r0.below (b_.mono (by omega))
    replace k0 := k0.grown g8 (own_apart o3 _ (by first | exact .inl (by omega) | exact .inr (by omega)))
    replace k1 := k1.grown g8 (by simp only [Value.ownBlock, ne_eq, Option.some.injEq]; omega)
    clear b_ g8 o3
    have q_k0 := k0.cell
    have q_k1 := k1.cell
    go_wp2_with fail
    refine (eqTraceResult_same a t _ _ _ _ _ hlm o4.rd (r0.more (by omega))).mono ?_
    rintro e w9 ⟨rfl, b9⟩
    clear q_k0 q_k1
    have z_10 := Below.size b9
    replace R := R.below (b9.mono (by omega))
    replace B := B.trans (b9.mono B.size)
    replace r0 := r0.below (b9.mono (by omega))
    replace k0 := k0.kept b9
    replace k1 := k1.kept b9
    replace o4 := o4.below b9
    clear b9
    have q_k1 := k1.cell
    go_wp2_with fail
    have MK := markTraceResult_any w3.heap.size w4.heap.size 1 a t us1 A1 c1 w9 hend ht (by omega) hus o4
    refine MK.mono ?_
    clear MK q_k1 o4
    rintro e w10 ⟨rfl, o10, s10⟩
    have z_s := s10.size
    replace R := R.below (s10.below.mono (by omega))
    replace r0 := r0.below (s10.below.mono (by omega))
    replace B := B.trans (s10.below.mono (by omega))
    replace k0 := k0.below s10.below (by omega)
    replace k1 := s10.bk _ _ _ k1 (Nat.le_refl _)
    have r1 := (show OwnT w10 w3.heap.size (.slice A1 (mkT 1 t).length c1) (mkT 1 t) us1 by rw [mkT_length]; exact o10).rd
    clear s10 hus o10
    have q_k1 := k1.cell
    go_wp2_with fail
    refine (heldTraceResult_marked _ 1 a t A1 c1 w10 hend ht (Nat.le_refl _) r1).mono ?_
    rintro e w11 ⟨rfl, b11⟩
    clear q_k1
    have z_11 := Below.size b11
    replace R := R.below (b11.mono (by omega))
    replace B := B.trans (b11.mono B.size)
    replace r0 := r0.below (b11.mono (by omega))
    replace k0 := k0.kept b11
    replace k1 := k1.kept b11
    replace r1 := (r1.below b11).lt
    clear b11
    go_wp2_with fail
    refine (toByteS_any d A c _ hL (R.more (by omega))).mono ?_
    rintro e w12 ⟨g12, rfl, o12, b12⟩
    have z_12 := Below.size b12
    replace R := R.below (b12.mono (by omega))
    replace B := B.trans (b12.mono B.size)
    replace r0 := r0.below (b12.mono (by omega))
    replace k0 := k0.kept b12
    replace k1 := k1.kept b12
    replace r1 := (r1.below b12).lt
    clear b12
    have x12 := Rd.of_own o12
    clear o12
    go_wp2_with fail
    refine (IM.out _ _ _ (Nat.le_refl _) x12 (HT.out.below B) (HS.out.below B)).mono ?_
    rintro e w13 ⟨A2, c2, us2, rfl, o13, b13⟩
    have z_13 := Below.size b13
    replace R := R.below (b13.mono (by omega))
    replace B := B.trans (b13.mono B.size)
    replace r0 := r0.below (b13.mono (by omega))
    replace k0 := k0.kept b13
    replace k1 := k1.kept b13
    replace r1 := (r1.below b13).lt
    clear b13
    have r2 := o13.rd
    clear o13 x12
    have e_ := (Below.refl w13.heap.size w13).alloc (Nat.le_refl _) (Obj.cells #[Value.int .i64 a, .slice A2 t.length c2] 36)
    have zz_13 : (w13.alloc (Obj.cells #[Value.int .i64 a, .slice A2 t.length c2] 36)).heap.size = w13.heap.size + 1 := by simp
    have z_14 := Below.size e_
    replace R := R.below (e_.mono (by omega))
    replace B := B.trans (e_.mono B.size)
    replace r0 := r0.below (e_.mono (by omega))
    replace k0 := k0.kept e_
    replace k1 := k1.kept e_
    replace r1 := (r1.below e_).lt
    replace r2 := (r2.below e_).lt
    clear e_
    have k2 := Bk.new w13 #[Value.int .i64 a, .slice A2 t.length c2] 36
    have q_k0 := k0.cell
    have q_k2 := k2.cell
    go_wp2_with fail
    refine (eqTraceResult_same a t _ _ _ _ _ hlm r2 (r0.more (by omega))).mono ?_
    rintro e w14 ⟨rfl, b14⟩
    clear q_k0 q_k2
    have z_15 := Below.size b14
    replace R := R.below (b14.mono (by omega))
    replace B := B.trans (b14.mono B.size)
    replace r0 := r0.below (b14.mono (by omega))
    replace k0 := k0.kept b14
    replace k1 := k1.kept b14
    replace r1 := (r1.below b14).lt
    replace r2 := (r2.below b14).lt
    replace k2 := k2.kept b14
    clear b14
    have q_k1 := k1.cell
    go_wp2_with fail
    refine (heldTraceResult_marked _ 1 a t A1 c1 w14 hend ht (Nat.le_refl _) r1).mono ?_
    rintro e w15 ⟨rfl, b15⟩
    clear q_k1
    have z_16 := Below.size b15
    replace R := R.below (b15.mono (by omega))
    replace B := B.trans (b15.mono B.size)
    replace r0 := r0.below (b15.mono (by omega))
    replace k0 := k0.kept b15
    replace k1 := k1.kept b15
    replace r1 := (r1.below b15).lt
    replace r2 := (r2.below b15).lt
    replace k2 := k2.kept b15
    clear b15
    go_wp2
    go_ret
    exact ⟨rfl, B⟩
  · go_enter Tryd.func4, Tryd.ntmps4
    go_wp2
    go_ret
    exact ⟨rfl, Below.refl _ _⟩
end Go.Proofs.YtmnpiakcppcmgaaDoor
