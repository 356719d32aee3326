/- The contract of ordersOf in the program: the write order of a log. -/
import Derived.Test.YtdmdljimbmhecaaAddW
import Derived.Test.YtdmdljimbmhecaaOdm3
import Derived.StillTailTactics
namespace Go.Proofs.Ytdmdljimbmhecaa
open Go.RowKit

theorem sumO_mem : ∀ {l : List Wls} {x : Wls}, x ∈ l → x.ids.length ≤ sumO l
  | y :: r, x, h => by
    rcases List.mem_cons.1 h with rfl | h
    · simp [sumO]
    · have := sumO_mem h; simp only [sumO]; omega
theorem insW_len {a : Int} {x : Wid} : ∀ {os : List Wls}, (insW a x os).length ≤ os.length + 1
  | [] => by simp [insW]
  | v :: r => by
    have := insW_len (a := a) (x := x) (os := r)
    rw [insW]
    split
    · simp
    · split
      · simp
      · simp only [List.length_cons]; omega
theorem ordR_len : ∀ r : List Stp, (ordR r).length ≤ r.length ∧ sumO (ordR r) ≤ r.length
  | [] => by simp [ordR, sumO]
  | s :: r => by
    obtain ⟨h1, h2⟩ := ordR_len r
    rw [ordR]
    by_cases hk : s.e.k = 1
    · rw [if_pos hk, putW_ins (ordR_all r).1, sum_ins]
      have := insW_len (a := s.e.a) (x := ⟨s.c, (cntL r s.c : Nat)⟩) (os := ordR r)
      simp only [List.length_cons]
      omega
    · rw [if_neg hk]
      simp only [List.length_cons]
      omega
theorem ordW_len (ss : List Stp) : (ordW ss).length ≤ ss.length ∧ sumO (ordW ss) ≤ ss.length := by
  have := ordR_len ss.reverse
  rw [List.length_reverse] at this
  exact this
theorem ordW_ris (ss : List Stp) : risO (ordW ss) := (ordR_all ss.reverse).1
theorem ordW_nil : ordW [] = [] := rfl
theorem ordW_yes {ss : List Stp} {s : Stp} (h : s.e.k = 1) : ordW (ss ++ [s]) = insW s.e.a ⟨s.c, (cntL ss s.c : Nat)⟩ (ordW ss) := by rw [ordW_snoc, if_pos h, putW_ins (ordW_ris ss)]
theorem ordW_no {ss : List Stp} {s : Stp} (h : ¬ s.e.k = 1) : ordW (ss ++ [s]) = ordW ss := by rw [ordW_snoc, if_neg h]
/-- How far each core is, as the program counts. -/
def dnA (ss : List Stp) : Array Value := #[.int .i64 (cntL ss 0 : Nat), .int .i64 (cntL ss 1 : Nat), .int .i64 (cntL ss 2 : Nat), .int .i64 (cntL ss 3 : Nat)]
theorem dnA_nil : dnA [] = #[.int .i64 0, .int .i64 0, .int .i64 0, .int .i64 0] := rfl
theorem dnA_get (ss : List Stp) {i : Nat} (h : i < 4) : (dnA ss)[i]? = some (.int .i64 (cntL ss (i : Int) : Nat)) := by
  rcases (show i = 0 ∨ i = 1 ∨ i = 2 ∨ i = 3 by omega) with rfl | rfl | rfl | rfl <;> rfl
theorem dnA_set (ss : List Stp) (s : Stp) {i : Nat} (h : i < 4) (hs : s.c = (i : Int)) : (dnA ss).setIfInBounds i (.int .i64 ((cntL ss (i : Int) : Int) + 1)) = dnA (ss ++ [s]) := by
  have key : ∀ j : Int, cntL (ss ++ [s]) j = cntL ss j + if s.c = j then 1 else 0 := fun j => by rw [cntL_append]; simp [cntL]
  unfold dnA
  rw [key 0, key 1, key 2, key 3, hs]
  rcases (show i = 0 ∨ i = 1 ∨ i = 2 ∨ i = 3 by omega) with rfl | rfl | rfl | rfl <;> simp

set_option maxRecDepth 100000 in
set_option maxHeartbeats 1600000 in
theorem ordersOf_any (ss : List Stp) (A : Option Addr) (c : Nat) (w : World) (hl : ss.length ≤ 32) (hG : ∀ s ∈ ss, 0 ≤ s.c ∧ s.c < 4) (h : RdP w w.heap.size A ss) :
    Calls Try.prog 52 #[.slice A ss.length c] w fun e w' => ∃ v us, e = .returned v ∧ OwnW w' w.heap.size v (ordW ss) us ∧ Below w.heap.size w w' := by
  obtain ⟨W, hW⟩ : ∃ W, W = w.alloc (Obj.cells #[.int .i64 0, .int .i64 0, .int .i64 0, .int .i64 0] 107) := ⟨_, rfl⟩
  have kd0 : Bk W w.heap.size (dnA []) 107 := by rw [hW]; exact Bk.new w _ _
  have B0 : Below w.heap.size w W := by rw [hW]; exact (Below.refl _ _).alloc (Nat.le_refl _) _
  have HW := hide hW
  have HG := hide hG
  clear hW hG
  go_enter Try.func52, Try.ntmps52
  go_wp2_with (rw [← HW.out])
  go_loopw [4, 9] (fun v i wr => ∃ (k : Nat) (os : List Wls) (us : List Value), k ≤ ss.length ∧ i = .int .i64 k ∧ OwnW wr w.heap.size v os us ∧ Bk wr w.heap.size (dnA (ss.take k)) 107 ∧ Below w.heap.size w wr ∧ Hid (os = ordW (ss.take k))) (fun _ i _ => ss.length - (intOf i).toNat)
  case atStart => exact ⟨0, [], [], Nat.zero_le _, rfl, OwnW.nil_ _ _, kd0, B0, hide ordW_nil.symm⟩
  case round =>
    clear kd0 B0
    obtain ⟨k, os, us, hk, rfl, ho, kd, hb, HO⟩ := hrel
    obtain ⟨Av, cv, hv⟩ := own_shape ho.row
    subst hv
    by_cases hlt : k < ss.length
    · obtain ⟨b, off, rfl, hbb, hc0, hc1, hc2, hc3⟩ := (h.below hb).get hlt
      have hcr := HG.out _ (List.getElem_mem hlt)
      obtain ⟨i, hi⟩ := Int.eq_ofNat_of_zero_le hcr.1
      have hi4 : i < 4 := by omega
      obtain ⟨x, hx⟩ : ∃ x, x = ss[k] := ⟨_, rfl⟩
      obtain ⟨P, hP⟩ : ∃ P, P = ss.take k := ⟨_, rfl⟩
      rw [← hx] at hc0 hc1 hc2 hc3 hi
      rw [← hP] at kd HO
      have HT := hide (show ss.take (k + 1) = P ++ [x] by rw [List.take_succ_eq_append_getElem hlt, hP, hx])
      have hPl : P.length ≤ 32 := by rw [hP, List.length_take]; omega
      have hn32 := cntL_le P (i : Int)
      obtain ⟨n, hn⟩ : ∃ n, n = cntL P (i : Int) := ⟨_, rfl⟩
      rw [← hn] at hn32
      have HSET := hide (dnA_set P x hi4 hi)
      have hcd := (kd.cell i).trans (dnA_get P hi4)
      rw [← hn] at hcd HSET
      have hol : os.length ≤ 1000 ∧ ∀ y ∈ os, y.ids.length ≤ 1000 := by
        rw [HO.out]
        obtain ⟨h1, h2⟩ := ordW_len P
        exact ⟨by omega, fun y hy => by have := sumO_mem hy; omega⟩
      have hri : risO os := by rw [HO.out]; exact ordW_ris P
      have hz := hb.size
      have hHI := hide hi
      rw [hi] at hc0
      obtain ⟨W1, hW1⟩ : ∃ W1, W1 = wr.alloc (Obj.cells #[.int .i64 i, .int .i64 x.e.k, .int .i64 x.e.a, .int .i64 x.e.v] 98) := ⟨_, rfl⟩
      have kp : Bk W1 wr.heap.size #[.int .i64 i, .int .i64 x.e.k, .int .i64 x.e.a, .int .i64 x.e.v] 98 := by rw [hW1]; exact Bk.new wr _ _
      have kd1 : Bk W1 w.heap.size (dnA P) 107 := by rw [hW1]; exact kd.alloc _
      have ho1 : OwnW W1 w.heap.size (.slice Av os.length cv) os us := by rw [hW1]; exact ho.alloc _
      have hb1 : Below w.heap.size w W1 := by rw [hW1]; exact hb.alloc hz _
      have hz1 := hb1.size
      have hk0 := kd.lt
      have q0 := (kp.cell 0).trans (rfl : _ = some (Value.int .i64 i))
      have q1 := (kp.cell 1).trans (rfl : _ = some (Value.int .i64 x.e.k))
      have q2 := (kp.cell 2).trans (rfl : _ = some (Value.int .i64 x.e.a))
      have q3 := (kp.cell 3).trans (rfl : _ = some (Value.int .i64 x.e.v))
      have hcd1 := (kd1.cell i).trans (dnA_get P hi4)
      rw [← hn] at hcd1
      have hf1 := kd1.frozen i
      have HW1 := hide hW1
      have HN := hide hn
      have hne : w.heap.size ≠ wr.heap.size := by omega
      have hwr : IntKind.i64.wrap ((n : Int) + 1) = (n : Int) + 1 := by rw [IntKind.wrap_i64]; omega
      have hA2 : ¬ 4 ≤ i := by omega
      have hka : (0 : Int) ≤ (i : Int) := by omega
      have hkb : (i : Int) < 4 := by omega
      clear hx hP hW1 hn hcr hi kd ho hcd
      by_cases hkk : x.e.k = 1
      · have HY := hide (show ordW (P ++ [x]) = insW x.e.a ⟨(i : Int), (n : Nat)⟩ os by rw [ordW_yes hkk, hHI.out, HN.out, HO.out])
        rw [hkk] at hc1 q1 HW1 kp
        have AW := hide (fun V (hV : OwnW V w.heap.size (.slice Av os.length cv) os us) (hs : w.heap.size ≤ V.heap.size) => addWrite_any w.heap.size (.slice Av os.length cv) os us x.e.a ⟨(i : Int), (n : Nat)⟩ V hV hri hol.1 hol.2 hs)
        clear hkk
        go_upto_region 7 with fail
        rw [← HW1.out]
        go_still_tail 11, (by kernel_rfl)
        change wpList _ _ _ _ _ W1.drew
        have ho2 : OwnW W1.drew w.heap.size (.slice Av os.length cv) os us := ho1.below (Below.refl _ _).drew
        have kd2 : Bk W1.drew w.heap.size (dnA P) 107 := kd1
        have kp2 : Bk W1.drew wr.heap.size #[.int .i64 i, .int .i64 1, .int .i64 x.e.a, .int .i64 x.e.v] 98 := kp
        have hb2 : Below w.heap.size w W1.drew := hb1.drew
        clear ho1 kd1 kp hb1 hcd1 hf1 q0 q1 q2 q3 hz1
        generalize W1.drew = W2 at *
        go_wp2_with fail
        refine (AW.out W2 ho2 hb2.size).mono ?_
        rintro e W3 ⟨v', us', rfl, ho3, S3⟩
        have kd3 := S3.bk kd2 (fun u hu => by
          rcases List.mem_cons.1 hu with rfl | hu
          · exact own_box ho2.row kd2 (by decide)
          · obtain ⟨j, hj⟩ := List.getElem?_of_mem hu
            obtain ⟨_, h2⟩ := ho2.at_ hj
            exact own_box h2 kd2 (by decide))
        have kp3 := S3.bk kp2 (fun u hu => by
          rcases List.mem_cons.1 hu with rfl | hu
          · exact own_box ho2.row kp2 (by decide)
          · obtain ⟨j, hj⟩ := List.getElem?_of_mem hu
            obtain ⟨_, h2⟩ := ho2.at_ hj
            exact own_box h2 kp2 (by decide))
        have hb3 := hb2.trans (S3.below hb2.size (fun u hu b hb => by
          rcases List.mem_cons.1 hu with rfl | hu
          · exact (ho2.row.lt b hb).1
          · exact (ho2.bound u hu b hb).1))
        have p0 := (kp3.cell 0).trans (rfl : _ = some (Value.int .i64 i))
        have hcd3 := (kd3.cell i).trans (dnA_get P hi4)
        rw [← HN.out] at hcd3
        have hf3 := kd3.frozen i
        have kd4 := kd3.set_ i (.int .i64 ((n : Int) + 1))
        rw [HSET.out] at kd4
        have ho4 := ho3.keptB (grown_set W3 w.heap.size i (.int .i64 ((n : Int) + 1))) (fun b hb e => own_box ho3.row kd3 (by decide) (hb.trans e.symm)) (fun u hu b hb e => by
          obtain ⟨j, hj⟩ := List.getElem?_of_mem hu
          obtain ⟨_, h2⟩ := ho3.at_ hj
          exact own_box h2 kd3 (by decide) (hb.trans e.symm))
        have hb4 := hb3.setCell (p := ⟨w.heap.size, i, none⟩) (Nat.le_refl _) (.int .i64 ((n : Int) + 1))
        have H4 := hide (And.intro kd4 (And.intro ho4 hb4))
        clear kd2 kp2 ho2 hb2 S3 kp3 kd3 ho3 hb3 kd4 ho4 hb4
        go_wp2
        go_roundw
        case rel => exact ⟨k + 1, _, us', by omega, by go_num, H4.out.2.1, by rw [HT.out]; exact H4.out.1, H4.out.2.2, hide (by rw [HT.out, HY.out])⟩
        case measure => simp [intOf]; omega
      · have HY := hide (show ordW (P ++ [x]) = os by rw [ordW_no hkk, HO.out])
        have f0 : (x.e.k == 1) = false := beq_eq_false_iff_ne.2 hkk
        have kd4 := kd1.set_ i (.int .i64 ((n : Int) + 1))
        rw [HSET.out] at kd4
        have ho4 := ho1.keptB (grown_set W1 w.heap.size i (.int .i64 ((n : Int) + 1))) (fun b hb e => own_box ho1.row kd1 (by decide) (hb.trans e.symm)) (fun u hu b hb e => by
          obtain ⟨j, hj⟩ := List.getElem?_of_mem hu
          obtain ⟨_, h2⟩ := ho1.at_ hj
          exact own_box h2 kd1 (by decide) (hb.trans e.symm))
        have hb4 := hb1.setCell (p := ⟨w.heap.size, i, none⟩) (Nat.le_refl _) (.int .i64 ((n : Int) + 1))
        have H4 := hide (And.intro kd4 (And.intro ho4 hb4))
        clear kd1 kp ho1 hb1 kd4 ho4 hb4 hkk
        go_upto_region 8 with fail
        rw [← HW1.out]
        go_wp2
        go_roundw
        case rel => exact ⟨k + 1, _, us, by omega, by go_num, H4.out.2.1, by rw [HT.out]; exact H4.out.1, H4.out.2.2, hide (by rw [HT.out, HY.out])⟩
        case measure => simp [intOf]; omega
    · obtain rfl : k = ss.length := by omega
      rw [List.take_length] at HO
      have e := HO.out
      subst e
      go_wp2
      go_ret
      exact ⟨_, rfl, ⟨us, ho⟩, hb⟩
end Go.Proofs.Ytdmdljimbmhecaa
