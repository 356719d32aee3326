/- What the laws' walks rest upon, part 20. -/
import Derived.Test.YtnnfkmjhaljplaaM09
import Derived.Test.YtnnfkmjhaljplaaM11
import Derived.Test.YtnnfkmjhaljplaaM05
import Derived.StillTailTactics
import Derived.Test.YtnnfkmjhaljplaaM01
import Derived.Test.YtnnfkmjhaljplaaM06
namespace Go.Proofs.Ytnnfkmjhaljplaa
open Go.RowKit
/-- How far each core is, as the model counts. -/
def atV (N : Nat) (P : List Stp) : List Value := (qOf N P).map fun n : Nat => .int .i64 n
theorem atV_length (N : Nat) (P : List Stp) : (atV N P).length = N := by simp [atV, qOf]
theorem atV_nil (N : Nat) : atV N [] = List.replicate N (.int .i64 0) := by
 apply List.ext_getElem
 ·simp [atV, qOf]
 ·intro i h1 h2
  simp [atV, qOf, cntL]
theorem atV_get {N i : Nat} (P : List Stp) (h : i < N) : (atV N P)[i]? = some (.int .i64 (cntL P (i : Int) : Nat)) := by
 rw [List.getElem?_eq_getElem (by rw [atV_length]; exact h)]
 simp [atV, qOf]
theorem atV_set {N i : Nat} (P : List Stp) (s : Stp) (h : i < N) (hs : s.c = (i : Int)) : (atV N P).set i (.int .i64 ((cntL P (i : Int) : Int) + 1)) = atV N (P ++ [s]) := by
 unfold atV
 rw [← qOf_next P s h hs]
 unfold nextQ
 rw [qOf_get P h, List.map_set]
 rfl
set_option maxRecDepth 100000 in
set_option maxHeartbeats 1600000 in
theorem l8Orders_any (ss : List Stp) (N : Nat) (A : Option Addr) (c : Nat) (w : World) (hl : ss.length ≤ 32) (hN4 : N ≤ 4) (hG : ∀ s ∈ ss, 0 ≤ s.c ∧ s.c < (N : Int)) (h : RdP w w.heap.size A ss) :
  Calls Try.prog 38 #[.slice A ss.length c, .int .i64 N] w fun e w' => ∃ v us, e = .returned v ∧ OwnW w' w.heap.size v (ordW ss) us ∧ Below w.heap.size w w' := by
 obtain ⟨W, hW⟩ : ∃ W, W = w.alloc (Obj.cells #[] 69) := ⟨_, rfl⟩
 have B0 : Below w.heap.size w W := by rw [hW]; exact (Below.refl _ _).alloc (Nat.le_refl _) _
 have o0 : OwnW W w.heap.size (.slice (some ⟨w.heap.size, 0, none⟩) 0 0) [] [] := ⟨by
  have e := World.ownsRow_lit (base := w.heap.size) (e := 69) (size := 2) w #[] 0 (Nat.le_refl _) (by unfold maxLen; omega) rfl
  rw [hW]
  exact e, rfl, fun i hi => by simp at hi, fun i j u u' _ hu => by simp at hu⟩
 have zW := B0.size
 have HW := hide hW
 have HG := hide hG
 obtain ⟨i0, hi0, hz0, hz1, hz2⟩ := info_parts info_i64
 clear hW hG
 go_enter Try.func38, Try.ntmps38
 go_upto_region 2 with fail
 rw [← HW.out]
 go_wp2_with (at_make; refine wpList_make_full _ rfl _ _ 41 rfl w.heap.size 2 i0 (.int .i64 0) 1 Try.underlying41 hi0 hz0 hz1 .i64 .i64 _ _ N rfl rfl rfl rfl (by rw [hz2]; omega) (by unfold maxLen; omega) zW ?_; intro w1 hown hg)
 rw [made_i64, ← atV_nil] at hown
 have o1 := o0.keptB hg (fun b hb e => by cases e) (fun u hu => by simp at hu)
 have B1 : Below w.heap.size w w1 := B0.grown hg zW (fun k e => by cases e)
 obtain ⟨ga, hga⟩ : ∃ g, g = W.heap.size := ⟨_, rfl⟩
 rw [← hga] at hown
 rw [← hga]
 have hgaw : w.heap.size < ga := by rw [hga]; have := o0.row.lt w.heap.size rfl; omega
 clear hg o0 B0 zW hga
 go_loopw [5, 14] (fun v i wr => ∃ (k : Nat) (os : List Wls) (us : List Value), k ≤ ss.length ∧ i = .int .i64 k ∧ OwnW wr w.heap.size v os us ∧ wr.ownsRow w.heap.size 2 1 (.slice (some ⟨ga, 0, none⟩) N N) N (atV N (ss.take k)) ∧ Below w.heap.size w wr ∧ Hid (os = ordW (ss.take k))) (fun _ i _ => ss.length - (intOf i).toNat)
 case atStart => exact ⟨0, [], [], Nat.zero_le _, rfl, o1, hown, B1, hide ordW_nil.symm⟩
 case round =>
  clear o1 hown B1
  obtain ⟨k, os, us, hk, rfl, ho, hat, hb, HO⟩ := hrel
  obtain ⟨Av, cv, hv⟩ := own_shape ho.row
  subst hv
  by_cases hlt : k < ss.length
  ·obtain ⟨b, off, rfl, hbb, hc0, hc1, hc2, hc3⟩ := (h.below hb).get hlt
   have hcr := HG.out _ (List.getElem_mem hlt)
   obtain ⟨i, hi⟩ := Int.eq_ofNat_of_zero_le hcr.1
   have hiN : i < N := by omega
   obtain ⟨x, hx⟩ : ∃ x, x = ss[k] := ⟨_, rfl⟩
   obtain ⟨P, hP⟩ : ∃ P, P = ss.take k := ⟨_, rfl⟩
   rw [← hx] at hc0 hc1 hc2 hc3 hi
   rw [← hP] at hat HO
   have HT := hide (show ss.take (k + 1) = P ++ [x] by rw [List.take_succ_eq_append_getElem hlt, hP, hx])
   have hPl : P.length ≤ 32 := by rw [hP, List.length_take]; omega
   have hn32 := cntL_le P (i : Int)
   obtain ⟨n, hn⟩ : ∃ n, n = cntL P (i : Int) := ⟨_, rfl⟩
   rw [← hn] at hn32
   have HSET := hide (atV_set P x hiN hi)
   have HGET := hide (atV_get P hiN)
   rw [← hn] at HSET HGET
   have hol : os.length ≤ 1000 ∧ ∀ y ∈ os, y.ids.length ≤ 1000 := by
    rw [HO.out]
    obtain ⟨h1, h2⟩ := ordW_len P
    exact ⟨by omega, fun y hy => by have := sumO_mem hy; omega⟩
   have hri : risO os := by rw [HO.out]; exact ordW_ris P
   have hHI := hide hi
   rw [hi] at hc0
   have HN := hide hn
   have hcd := (hat.cellAt i (by omega)).trans HGET.out
   have hf := hat.frozenAt i
   have hwr : IntKind.i64.wrap ((n : Int) + 1) = (n : Int) + 1 := by rw [IntKind.wrap_i64]; omega
   have hA2 : ¬ N ≤ i := by omega
   have hka : (0 : Int) ≤ (i : Int) := by omega
   have hkb : (i : Int) < (N : Int) := by omega
   have hn1 : ¬ ss.length ≤ k := by omega
   clear hx hP hn hcr hi
   by_cases hkk : x.e.k = 1
   ·have HY := hide (show ordW (P ++ [x]) = insW x.e.a ⟨(i : Int), (n : Nat)⟩ os by rw [ordW_yes hkk, hHI.out, HN.out, HO.out])
    rw [hkk] at hc1
    have AW := hide (fun V (hV : OwnW V w.heap.size (.slice Av os.length cv) os us) (hs : w.heap.size ≤ V.heap.size) => l8Put_any w.heap.size (.slice Av os.length cv) os us x.e.a ⟨(i : Int), (n : Nat)⟩ V hV hri hol.1 hol.2 hs)
    clear hkk
    go_upto_region 8 with fail
    go_still_tail 13, (by kernel_rfl)
    change wpList _ _ _ _ _ wr.drew
    have ho2 : OwnW wr.drew w.heap.size (.slice Av os.length cv) os us := ho.below (Below.refl _ _).drew
    have hat2 : wr.drew.ownsRow w.heap.size 2 1 (.slice (some ⟨ga, 0, none⟩) N N) N (atV N P) := hat
    have hb2 : Below w.heap.size w wr.drew := hb.drew
    clear ho hat hb hcd hf hc0 hc1 hc2 hc3
    generalize wr.drew = W2 at *
    go_wp2_with fail
    refine (AW.out W2 ho2 hb2.size).mono ?_
    rintro e W3 ⟨v', us', rfl, ho3, b3⟩
    have hat3 := own_below hat2 b3 (Nat.le_refl _)
    have hb3 := hb2.trans (b3.mono hb2.size)
    have hcd3 := (hat3.cellAt i (by omega)).trans HGET.out
    have hf3 := hat3.frozenAt i
    have hat4 := (hat3.stored i (.int .i64 ((n : Int) + 1))).1
    rw [HSET.out] at hat4
    have ho4 := ho3.keptB (grown_set W3 ga i (.int .i64 ((n : Int) + 1))) (fun b hb e => own_types ho3.row hat3 (by decide) b hb e) (fun u hu b hb e => by
     obtain ⟨j, hj⟩ := List.getElem?_of_mem hu
     obtain ⟨_, h2⟩ := ho3.at_ hj
     exact own_types h2 hat3 (by decide) b hb e)
    have hb4 := hb3.setCell (p := ⟨ga, i, none⟩) (by simp only; omega) (.int .i64 ((n : Int) + 1))
    have H4 := hide (And.intro hat4 (And.intro ho4 hb4))
    clear hat2 ho2 hb2 b3 hat3 ho3 hb3 hat4 ho4 hb4
    go_wp2
    go_roundw
    case rel => exact ⟨k + 1, _, us', by omega, by go_num, H4.out.2.1, by rw [HT.out]; exact H4.out.1, H4.out.2.2, hide (by rw [HT.out, HY.out])⟩
    case measure => simp [intOf]; omega
   ·have HY := hide (show ordW (P ++ [x]) = os by rw [ordW_no hkk, HO.out])
    have f0 : (x.e.k == 1) = false := beq_eq_false_iff_ne.2 hkk
    have hat4 := (hat.stored i (.int .i64 ((n : Int) + 1))).1
    rw [HSET.out] at hat4
    have ho4 := ho.keptB (grown_set wr ga i (.int .i64 ((n : Int) + 1))) (fun b hb e => own_types ho.row hat (by decide) b hb e) (fun u hu b hb e => by
     obtain ⟨j, hj⟩ := List.getElem?_of_mem hu
     obtain ⟨_, h2⟩ := ho.at_ hj
     exact own_types h2 hat (by decide) b hb e)
    have hb4 := hb.setCell (p := ⟨ga, i, none⟩) (by simp only; omega) (.int .i64 ((n : Int) + 1))
    have H4 := hide (And.intro hat4 (And.intro ho4 hb4))
    clear ho hat hb hat4 ho4 hb4 hkk
    go_wp2
    go_roundw
    case rel => exact ⟨k + 1, _, us, by omega, by go_num, H4.out.2.1, by rw [HT.out]; exact H4.out.1, H4.out.2.2, hide (by rw [HT.out, HY.out])⟩
    case measure => simp [intOf]; omega
  ·obtain rfl : k = ss.length := by omega
   rw [List.take_length] at HO
   have e := HO.out
   subst e
   go_wp2
   go_ret
   first | exact ⟨_, us, rfl, ho, hb⟩ | exact ⟨_, rfl, ⟨us, ho⟩, hb⟩
def odL (ss : List Stp) (n : Int) : List Wls := if logF ss n = 0 then ordW ss else []
theorem odL_ok {ss : List Stp} {n : Int} (h : logF ss n = 0) : odL ss n = ordW ss := if_pos h
theorem odL_bad {ss : List Stp} {n : Int} (h : ¬ logF ss n = 0) : odL ss n = [] := if_neg h
/-- What OrdersOf tells. -/
def OdPost (ss : List Stp) (n : Int) (w : World) (e : Ending) (w' : World) : Prop :=
 ∃ A c us, e = .returned (.agg #[.int .i64 (logF ss n), .slice A (odL ss n).length c]) ∧ OwnW w' w.heap.size (.slice A (odL ss n).length c) (odL ss n) us ∧ Below w.heap.size w w'
set_option maxRecDepth 100000 in
set_option maxHeartbeats 1600000 in
theorem implOd_any (ss : List Stp) (n : Int) (A : Option Addr) (c : Nat) (w : World) (hm : ss.length ≤ maxLen) (h : RdP w w.heap.size A ss) :
  Calls Try.prog 8 #[.slice A ss.length c, .int .i64 n] w (OdPost ss n w) := by
 unfold OdPost
 obtain ⟨W, hW⟩ : ∃ W, W = w.alloc (Obj.cells #[Value.int .i64 0, .slice none 0 0] 29) := ⟨_, rfl⟩
 have HW := hide hW
 have hR : RdP W W.heap.size A ss := by subst hW; exact (h.alloc (Nat.le_refl _) _).lt
 clear hW h
 have LF := hide (implLogF_any ss n A c W hm hR)
 by_cases h0 : logF ss n = 0
 ·rw [odL_ok h0]
  rw [h0] at LF ⊢
  obtain ⟨hn, hl, hG, _⟩ := logF_zero h0
  have HA := hide (logG_all hG)
  obtain ⟨N, rfl⟩ := Int.eq_ofNat_of_zero_le (show 0 ≤ n by omega)
  have hN4 : N ≤ 4 := by omega
  have SX := hide (fun V (hR' : RdP V V.heap.size A ss) => ordersOf_any ss A c V hl (fun s hs => by have := (HA.out s hs).1; omega) hR')
  clear h0 hn hG
  go_enter Try.func8, Try.ntmps8
  go_wp2_with fail
  rw [← HW.out]
  refine LF.out.mono ?_
  rintro e w1 ⟨rfl, b1⟩
  have hR1 := (hR.below b1).lt
  have z1 := b1.size
  clear LF
  go_wp2_with fail
  refine (SX.out w1 hR1).mono ?_
  rintro e wr ⟨v, us, rfl, ho, b2⟩
  obtain ⟨O, hO⟩ : ∃ O, O = ordW ss := ⟨_, rfl⟩
  rw [← hO] at ho
  have HOO := hide hO
  clear hO
  obtain ⟨Av, cv, hv⟩ := own_shape ho.row
  subst hv
  have hb := b1.trans (b2.mono z1)
  have q0 := W_cell HW.out hb 0
  have q1 := W_cell HW.out hb 1
  have f0 := W_frozen HW.out hb 0
  have f1 := W_frozen HW.out hb 1
  simp at q0 q1
  have hzz := W_size HW.out
  have O1 := hide (show OwnW ((wr.setCell ⟨w.heap.size, 0, none⟩ (.int .i64 0)).setCell ⟨w.heap.size, 1, none⟩ (.slice Av O.length cv)) w1.heap.size (.slice Av O.length cv) O us from (ho.kept (grown_set wr w.heap.size 0 (.int .i64 0)) (fun b e => by cases e; omega)).kept (grown_set _ w.heap.size 1 _) (fun b e => by cases e; omega))
  clear ho b2
  have HZ := hide hzz
  clear hzz
  go_wp2
  refine bodyPost_ret (v := .agg #[.int .i64 0, .slice Av O.length cv]) (by simp [results, Try.results8, go_sem, q0, q1]) rfl ?_
  have e := HOO.out
  subst e
  exact ⟨Av, cv, us, rfl, O1.out.mono (by have := HZ.out; omega), ((W_below HW.out hb).setCell (Nat.le_refl _) _).setCell (Nat.le_refl _) _⟩
 ·rw [odL_bad h0]
  obtain ⟨F, hF⟩ : ∃ F, F = logF ss n := ⟨_, rfl⟩
  rw [← hF] at LF h0 ⊢
  have g0 : (F != 0) = true := bne_iff_ne.2 h0
  have g1 : (F == 0) = false := beq_eq_false_iff_ne.2 h0
  clear hF h0
  go_enter Try.func8, Try.ntmps8
  go_wp2_with fail
  rw [← HW.out]
  refine LF.out.mono ?_
  rintro e w1 ⟨rfl, hb⟩
  have q0 := W_cell HW.out hb 0
  have q1 := W_cell HW.out hb 1
  have f0 := W_frozen HW.out hb 0
  have f1 := W_frozen HW.out hb 1
  simp at q0 q1
  go_wp2
  refine bodyPost_ret (v := .agg #[.int .i64 F, .slice none 0 0]) (by simp [results, Try.results8, go_sem, q0, q1]) rfl ?_
  exact ⟨none, 0, [], rfl, OwnW.nil_ _ _, ((W_below HW.out hb).setCell (Nat.le_refl _) _).setCell (Nat.le_refl _) _⟩
set_option maxRecDepth 100000 in
set_option maxHeartbeats 1600000 in
theorem specOd_any (ss : List Stp) (n : Int) (A : Option Addr) (c : Nat) (w : World) (hm : ss.length ≤ maxLen) (h : RdP w w.heap.size A ss) :
  Calls Try.prog 11 #[.slice A ss.length c, .int .i64 n] w (OdPost ss n w) := by
 unfold OdPost
 obtain ⟨W, hW⟩ : ∃ W, W = w.alloc (Obj.cells #[Value.int .i64 0, .slice none 0 0] 29) := ⟨_, rfl⟩
 have HW := hide hW
 have hR : RdP W W.heap.size A ss := by subst hW; exact (h.alloc (Nat.le_refl _) _).lt
 clear hW h
 have LF := hide (specLogF_any ss n A c W hm hR)
 by_cases h0 : logF ss n = 0
 ·rw [odL_ok h0]
  rw [h0] at LF ⊢
  obtain ⟨hn, hl, hG, _⟩ := logF_zero h0
  have HA := hide (logG_all hG)
  obtain ⟨N, rfl⟩ := Int.eq_ofNat_of_zero_le (show 0 ≤ n by omega)
  have hN4 : N ≤ 4 := by omega
  have SX := hide (fun V (hR' : RdP V V.heap.size A ss) => l8Orders_any ss N A c V hl hN4 (fun s hs => by have := (HA.out s hs).1; omega) hR')
  clear h0 hn hG
  go_enter Try.func11, Try.ntmps11
  go_wp2_with fail
  rw [← HW.out]
  refine LF.out.mono ?_
  rintro e w1 ⟨rfl, b1⟩
  have hR1 := (hR.below b1).lt
  have z1 := b1.size
  clear LF
  go_wp2_with fail
  refine (SX.out w1 hR1).mono ?_
  rintro e wr ⟨v, us, rfl, ho, b2⟩
  obtain ⟨O, hO⟩ : ∃ O, O = ordW ss := ⟨_, rfl⟩
  rw [← hO] at ho
  have HOO := hide hO
  clear hO
  obtain ⟨Av, cv, hv⟩ := own_shape ho.row
  subst hv
  have hb := b1.trans (b2.mono z1)
  have q0 := W_cell HW.out hb 0
  have q1 := W_cell HW.out hb 1
  have f0 := W_frozen HW.out hb 0
  have f1 := W_frozen HW.out hb 1
  simp at q0 q1
  have hzz := W_size HW.out
  have O1 := hide (show OwnW ((wr.setCell ⟨w.heap.size, 0, none⟩ (.int .i64 0)).setCell ⟨w.heap.size, 1, none⟩ (.slice Av O.length cv)) w1.heap.size (.slice Av O.length cv) O us from (ho.kept (grown_set wr w.heap.size 0 (.int .i64 0)) (fun b e => by cases e; omega)).kept (grown_set _ w.heap.size 1 _) (fun b e => by cases e; omega))
  clear ho b2
  have HZ := hide hzz
  clear hzz
  go_wp2
  refine bodyPost_ret (v := .agg #[.int .i64 0, .slice Av O.length cv]) (by simp [results, Try.results11, go_sem, q0, q1]) rfl ?_
  have e := HOO.out
  subst e
  exact ⟨Av, cv, us, rfl, O1.out.mono (by have := HZ.out; omega), ((W_below HW.out hb).setCell (Nat.le_refl _) _).setCell (Nat.le_refl _) _⟩
 ·rw [odL_bad h0]
  obtain ⟨F, hF⟩ : ∃ F, F = logF ss n := ⟨_, rfl⟩
  rw [← hF] at LF h0 ⊢
  have g0 : (F != 0) = true := bne_iff_ne.2 h0
  have g1 : (F == 0) = false := beq_eq_false_iff_ne.2 h0
  clear hF h0
  go_enter Try.func11, Try.ntmps11
  go_wp2_with fail
  rw [← HW.out]
  refine LF.out.mono ?_
  rintro e w1 ⟨rfl, hb⟩
  have q0 := W_cell HW.out hb 0
  have q1 := W_cell HW.out hb 1
  have f0 := W_frozen HW.out hb 0
  have f1 := W_frozen HW.out hb 1
  simp at q0 q1
  go_wp2
  refine bodyPost_ret (v := .agg #[.int .i64 F, .slice none 0 0]) (by simp [results, Try.results11, go_sem, q0, q1]) rfl ?_
  exact ⟨none, 0, [], rfl, OwnW.nil_ _ _, ((W_below HW.out hb).setCell (Nat.le_refl _) _).setCell (Nat.le_refl _) _⟩
end Go.Proofs.Ytnnfkmjhaljplaa
namespace Go.Proofs.Ytnnfkmjhaljplaa
open Go.RowKit
set_option maxHeartbeats 400000 in
theorem l4Count_any (t : List (List Ev)) (A : Option Addr) (c : Nat) (w : World) (ht : t.length ≤ 1000) (hall : ∀ l ∈ t, l.length ≤ 1000) (h : RdT w w.heap.size A t) :
  Calls Try.prog 55 #[.slice A t.length c] w fun e w' => e = .returned (.int .i64 (sumT t : Nat)) ∧ w = w' := by
 have hb : ∀ t : List (List Ev), (∀ l ∈ t, l.length ≤ 1000) → sumT t ≤ 1000 * t.length := by
  intro t
  induction t with
  | nil => intro _; simp [sumT]
  | cons l r ih =>
   intro h
   have h1 := ih fun x hx => h x (List.mem_cons_of_mem _ hx)
   have := h l (List.mem_cons_self ..)
   simp only [sumT, List.length_cons]
   omega
 have hs : sumT t ≤ 1000000 := by have := hb t hall; omega
 go_enter Try.func55, Try.ntmps55
 go_wp2
 go_loop [3, 7] (fun q i => ∃ k l : Nat, k ≤ t.length ∧ i = .int .i64 k ∧ q = .int .i64 l ∧ Hid (l + sumT (t.drop k) = sumT t)) (fun _ i => t.length - (intOf i).toNat)
 case atStart => exact ⟨0, 0, Nat.zero_le _, rfl, rfl, hide (by simp)⟩
 case round =>
  obtain ⟨k, l, hk, rfl, rfl, HL⟩ := hrel
  have hl := HL.out
  by_cases hlt : k < t.length
  ·obtain ⟨b, off, a, c', rfl, hbb, hc0, hle, hcm, hr⟩ := h.get hlt
   have hd := sumT_drop t k hlt
   have hx1 : l + t[k].length ≤ 1000000 := by omega
   have HD := hide hd
   clear hd hl
   go_wp2
   go_round
   case rel => exact ⟨k + 1, l + t[k].length, by omega, by go_num, by go_num, hide (by have := HL.out; have := HD.out; omega)⟩
   case measure => simp [intOf]; omega
  ·have hd := sumT_end hlt
   go_wp2
   go_ret
   exact ⟨ret_int (by omega), rfl⟩
end Go.Proofs.Ytnnfkmjhaljplaa
