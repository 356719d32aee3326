/- The contract of SpotsOf in the model. The contract of SpotsOf in the program. The contract of SpotsOf in the program. -/
import Derived.Test.YtldepledinolmaaGreatDoorGAud
import Derived.Test.YtldepledinolmaaGreatDoorGEnc
import Derived.Test.YtldepledinolmaaGreatDoorGRf
import Derived.Test.YtldepledinolmaaGreatDoorGLog
import Derived.Deep.Cut
import Derived.Test.YtldepledinolmaaGreatDoorReadF
import Derived.Test.YtldepledinolmaaGreatDoorGHeld
namespace Go.Proofs.YtldepledinolmaaGreatDoor
open Go.RowKit

/-- What SpotsOf tells. -/
def SpoPost (t : List (List Ev)) (b : Int) (w : World) (e : Ending) (w' : World) : Prop := ∃ A c, e = .returned (.agg #[.int .i64 (fcC t b), .slice A (spL t b).length c]) ∧ w'.ownsRow w.heap.size 2 1 (.slice A (spL t b).length c) (spL t b).length ((spL t b).map (Value.int .i64)) ∧ Below w.heap.size w w'
theorem upI_one (L : List Int) (a j : Nat) : (L ++ upI a j) ++ [((a + j : Nat) : Int)] = L ++ upI a (j + 1) := by rw [upI_snoc, List.append_assoc]

set_option maxRecDepth 100000 in
set_option maxHeartbeats 3200000 in
theorem l9Spots_any (t : List (List Ev)) (B : Nat) (A : Option Addr) (c : Nat) (w : World) (e0 : trF t = 0) (hB1 : 1 ≤ B) (hB8 : B ≤ 8) (h : RdT w w.heap.size A t) :
    Calls Tryz.prog 41 #[.slice A t.length c, .int .i64 B] w fun e w' => ∃ v, e = .returned v ∧ OwnI w w.heap.size (spS ((filL B t).length + 1) (filL B t) 2) v w' := by
  obtain ⟨i0, hi, hz0, hz1, hz2⟩ := info_parts info_i64
  have EN := hide (l4Encode_any t B A c w e0 hB1 hB8 h)
  have hfew := filL_few hB1 e0
  have hb8 := filL_B8 hB1 e0
  obtain ⟨cs0, last0, hst, h2⟩ := filL_start hB1 e0
  have hsl := spS_len _ _ _ hb8 ⟨cs0, last0, 0, hst⟩ h2
  obtain ⟨F, hF⟩ : ∃ F, F = filL B t := ⟨_, rfl⟩
  rw [← hF] at EN hfew hb8 hst h2 hsl ⊢
  have HST := hide hst
  clear hF e0 hst
  go_enter Tryz.func41, Tryz.ntmps41
  go_wp2_with fail
  refine EN.out.mono ?_
  rintro e w1 ⟨D, d, rfl, o1⟩
  have hcap := own_capE o1.1
  have hr1 := Rd.of_own (k := .u8) o1.1
  have hb1 := o1.2
  have o0 : OwnI w1 w1.heap.size [] (.slice (some ⟨w1.heap.size, 0, none⟩) 0 0) (w1.alloc (Obj.cells #[] 2)) := ⟨World.ownsRow_lit (base := w1.heap.size) (e := 2) (size := 1) w1 #[] 0 (Nat.le_refl _) (by unfold maxLen; omega) rfl, (Below.refl _ _).alloc (Nat.le_refl _) _, Nat.le_refl _⟩
  clear o1
  go_upto_region 3 with fail
  generalize w1.alloc (Obj.cells #[] 2) = V at *
  go_wp2
  go_loopw [6, 7] (fun v x wr => ∃ (at_ f : Nat) (cs : List (List Ev)) (last : Int) (n : Nat) (L : List Int), x = .int .i64 at_ ∧ OwnI w1 w1.heap.size L v wr ∧ F.length + 1 ≤ f + 1 + at_ ∧ at_ ≤ F.length ∧ Hid ((dcS (f + 1) F at_ cs last n).1 = 0) ∧ Hid (spS (F.length + 1) F 2 = L ++ spS (f + 1) F at_)) (fun _ x _ => F.length - (intOf x).toNat)
  case atStart => exact ⟨2, F.length, cs0, last0, 0, [], rfl, o0, by omega, h2, HST, hide rfl⟩
  case round =>
    clear o0
    obtain ⟨at_, f, cs, last, n, L, rfl, ho, hfu, hat, HDC, HSP⟩ := hrel
    have hlt := dcS_in HDC.out
    have hrl := hr1.below ho.old
    obtain ⟨bF, oF, rfl, hbb, hcc⟩ := hrl.get hlt
    have hgd : (F.drop at_).getD 0 0 = F[at_] := by rw [List.getD_eq_getElem?_getD, List.getElem?_drop, Nat.add_zero, List.getElem?_eq_getElem hlt]; rfl
    have hLl : L.length ≤ F.length := by
      have := congrArg List.length HSP.out
      rw [List.length_append] at this
      omega
    obtain ⟨Av, cv, hv⟩ := ho.shape
    subst hv
    have a0 : (0 : Int) ≤ (at_ : Int) := by omega
    have a1 : (at_ : Int) < (F.length : Int) := by omega
    have a2 : ((at_ : Int)).toNat = at_ := by omega
    by_cases h66 : F[at_] = 66
    · have hfr : at_ < F.length ∧ (F.drop at_).getD 0 0 = 66 := ⟨hlt, by rw [hgd]; exact h66⟩
      obtain ⟨hH, hle, hft, _, cs', last', h3⟩ := dcS_frame_of hb8 HDC.out hfr
      have HSF := hide (spS_frame (f := f) hfr)
      have HD3 := hide h3
      have HH := hide hH
      have hf1 : ∃ f', f = f' + 1 := ⟨f - 1, by omega⟩
      obtain ⟨f', rfl⟩ := hf1
      have HL3 := hide (l3Head_any (F.drop at_) (cutA (some ⟨bF, oF, none⟩) at_ d) (d - at_) wr (by rw [List.length_drop]; omega) (by rw [List.length_drop]; omega) ((hrl.lt).cut (by omega) hcap.1) (hb8.drop at_))
      rw [List.length_drop] at HL3
      unfold HdPost at HL3
      have cutA' : ∀ w : World, (Instr.slice 22 (.slice (some ⟨bF, oF, none⟩) F.length d) (some (.int .i64 at_)) none none).run Tryz.prog w = .ok (.slice (cutA (some ⟨bF, oF, none⟩) at_ d) (F.length - at_) (d - at_)) w := fun w => run_cut (some ⟨bF, oF, none⟩) F.length at_ d at_ w rfl (by omega)
      obtain ⟨fr, hfr2⟩ : ∃ x, x = frFrom (F.drop at_) := ⟨_, rfl⟩
      obtain ⟨tz, hto⟩ : ∃ x, x = frTo (F.drop at_) := ⟨_, rfl⟩
      rw [← hfr2, ← hto] at HSF HL3
      rw [← hto] at hle HD3
      rw [← hfr2, ← hto] at hft
      rw [h66] at hcc
      clear hfr hH h3 hgd h66 hfr2 hto
      go_wp2_with fail
      refine HL3.out.mono ?_
      rintro e w2 ⟨hor, b2⟩
      rcases hor with ⟨_, rfl⟩ | ⟨hno, _⟩
      case inr => exact absurd HH.out hno
      have ho2 := ho.below b2
      clear HL3 ho b2 hcc hrl hbb cutA'
      go_wp2
      go_loopw [6, 10] (fun v x wr => ∃ j m : Nat, j ≤ tz + 4 - fr ∧ x = .int .i64 (m : Nat) ∧ Hid (m = fr + j) ∧ OwnI w1 w1.heap.size (L ++ upI (at_ + fr) j) v wr) (fun _ x _ => tz + 4 - (intOf x).toNat)
      case atStart => exact ⟨0, fr, Nat.zero_le _, rfl, hide rfl, by rw [upI_zero, List.append_nil]; exact ho2⟩
      case round =>
        clear ho2
        obtain ⟨j, m, hj, rfl, HMJ, ho⟩ := hrel
        have hmj := HMJ.out
        obtain ⟨Av2, cv2, hv2⟩ := ho.shape
        subst hv2
        have w1' : IntKind.i64.wrap ((tz : Int) + 4) = (tz : Int) + 4 := by rw [IntKind.wrap_i64]; omega
        by_cases hjl : j < tz + 4 - fr
        · have g0 : (m : Int) < (tz : Int) + 4 := by omega
          obtain ⟨y, hy⟩ : ∃ y, y = at_ + fr + j := ⟨_, rfl⟩
          have w2' : IntKind.i64.wrap ((at_ : Int) + (m : Int)) = (y : Int) := by rw [IntKind.wrap_i64]; omega
          have w3' : IntKind.i64.wrap ((m : Int) + 1) = (m : Int) + 1 := by rw [IntKind.wrap_i64]; omega
          have hlen : (L ++ upI (at_ + fr) j).length = L.length + j := by rw [List.length_append, upI_len]
          have HM1 := hide (upI_one L (at_ + fr) j)
          rw [← hy] at HM1
          clear hy hmj
          obtain ⟨M, hM⟩ : ∃ M, M = L ++ upI (at_ + fr) j := ⟨_, rfl⟩
          rw [← hM] at ho hlen HM1 ⊢
          have hBl := Rd.one_new wr (y : Int) 2
          have ho1 := ho.alloc (Obj.cells #[.int .i64 (y : Int)] 2)
          have hM3 : M.length ≤ 3000 := by omega
          have a63 : M.length + [(y : Int)].length ≤ maxLen := by unfold maxLen; simp only [List.length_cons, List.length_nil]; omega
          have aby : (M.length + [(y : Int)].length) * 8 ≤ 140737488355328 := by simp only [List.length_cons, List.length_nil]; omega
          have abs := ho1.old.size
          have hrow := ho1.row
          clear hM ho
          go_wp2_with (at_builtin; refine wpList_append_rd _ rfl _ _ 28 rfl w1.heap.size 2 i0 (.int .i64 0) 8 Tryz.underlying28 hi hz0 hz1 hz2 rfl .i64 _ _ _ rfl hrow (some ⟨wr.heap.size, 0, none⟩) [(y : Int)] 1 _ rfl hBl a63 aby abs ?_; intro v5 w5 o5 g5 hat5)
          have ho5 := ho1.more o5 g5
          rw [HM1.out] at ho5
          clear o5 g5 hat5 hrow hBl ho1
          go_roundw
          case rel => exact ⟨j + 1, m + 1, by omega, by go_num, hide (by have := HMJ.out; omega), ho5⟩
          case measure => simp [intOf]; omega
        · obtain rfl : j = tz + 4 - fr := by omega
          have g0 : ¬ (m : Int) < (tz : Int) + 4 := by omega
          have w2' : IntKind.i64.wrap ((at_ : Int) + (tz : Int)) = (at_ : Int) + (tz : Int) := by rw [IntKind.wrap_i64]; omega
          have w3' : IntKind.i64.wrap ((at_ : Int) + (tz : Int) + 4) = (at_ : Int) + (tz : Int) + 4 := by rw [IntKind.wrap_i64]; omega
          have HN := hide (show spS (F.length + 1) F 2 = (L ++ upI (at_ + fr) (tz + 4 - fr)) ++ spS (f' + 1) F (at_ + tz + 4) by rw [HSP.out, HSF.out, List.append_assoc])
          clear HSP HSF HDC
          go_wp2
          go_roundw
          case rel => exact ⟨at_ + tz + 4, f', cs', last', n + 1, _, by go_num, ho, by omega, by omega, HD3, HN⟩
          case measure => simp [intOf]; omega
    · have hno : ¬ (at_ < F.length ∧ (F.drop at_).getD 0 0 = 66) := fun h => h66 (by rw [← hgd]; exact h.2)
      have hend := (dcS_end_of HDC.out hno).1
      have HSE := hide (spS_end (f := f) hno)
      obtain ⟨y, hy⟩ : ∃ y, y = F[at_] := ⟨_, rfl⟩
      rw [← hy] at hcc h66
      have gy : (y == 66) = false := beq_eq_false_iff_ne.2 h66
      have w0' : IntKind.i64.wrap ((at_ : Int) + 3) = (at_ : Int) + 3 := by rw [IntKind.wrap_i64]; omega
      clear hgd h66 hy hno
      go_wp2
      go_loopw [6, 11] (fun v x wr => ∃ j m : Nat, j ≤ 4 ∧ x = .int .i64 (m : Nat) ∧ Hid (m = at_ + 3 + j) ∧ OwnI w1 w1.heap.size (L ++ upI (at_ + 3) j) v wr) (fun _ x _ => F.length - (intOf x).toNat)
      case atStart => exact ⟨0, at_ + 3, by omega, by go_num, hide rfl, by rw [upI_zero, List.append_nil]; exact ho⟩
      case round =>
        clear ho hcc
        obtain ⟨j, m, hj, rfl, HMJ, ho⟩ := hrel
        have hmj := HMJ.out
        obtain ⟨Av2, cv2, hv2⟩ := ho.shape
        subst hv2
        by_cases hjl : j < 4
        · have g0 : (m : Int) < (F.length : Int) := by omega
          have w3' : IntKind.i64.wrap ((m : Int) + 1) = (m : Int) + 1 := by rw [IntKind.wrap_i64]; omega
          have hlen : (L ++ upI (at_ + 3) j).length = L.length + j := by rw [List.length_append, upI_len]
          have HM1 := hide (upI_one L (at_ + 3) j)
          rw [← hmj] at HM1
          clear hmj
          obtain ⟨M, hM⟩ : ∃ M, M = L ++ upI (at_ + 3) j := ⟨_, rfl⟩
          rw [← hM] at ho hlen HM1 ⊢
          have hBl := Rd.one_new wr (m : Int) 2
          have ho1 := ho.alloc (Obj.cells #[.int .i64 (m : Int)] 2)
          have hM3 : M.length ≤ 3000 := by omega
          have a63 : M.length + [(m : Int)].length ≤ maxLen := by unfold maxLen; simp only [List.length_cons, List.length_nil]; omega
          have aby : (M.length + [(m : Int)].length) * 8 ≤ 140737488355328 := by simp only [List.length_cons, List.length_nil]; omega
          have abs := ho1.old.size
          have hrow := ho1.row
          clear hM ho
          go_wp2_with (at_builtin; refine wpList_append_rd _ rfl _ _ 28 rfl w1.heap.size 2 i0 (.int .i64 0) 8 Tryz.underlying28 hi hz0 hz1 hz2 rfl .i64 _ _ _ rfl hrow (some ⟨wr.heap.size, 0, none⟩) [(m : Int)] 1 _ rfl hBl a63 aby abs ?_; intro v5 w5 o5 g5 hat5)
          have ho5 := ho1.more o5 g5
          rw [HM1.out] at ho5
          clear o5 g5 hat5 hrow hBl ho1
          go_roundw
          case rel => exact ⟨j + 1, m + 1, by omega, by go_num, hide (by have := HMJ.out; omega), ho5⟩
          case measure => simp [intOf]; omega
        · obtain rfl : j = 4 := by omega
          have g0 : ¬ (m : Int) < (F.length : Int) := by omega
          have HN := hide (show spS (F.length + 1) F 2 = L ++ upI (at_ + 3) 4 by rw [HSP.out, HSE.out, show F.length - (at_ + 3) = 4 by omega])
          obtain ⟨M, hM⟩ : ∃ M, M = L ++ upI (at_ + 3) 4 := ⟨_, rfl⟩
          rw [← hM] at ho HN ⊢
          clear hM
          go_wp2
          go_ret
          rw [HN.out]
          exact ⟨_, rfl, own_mono ho.row hb1.size, hb1.trans (ho.old.mono hb1.size), Nat.le_refl _⟩

set_option maxRecDepth 100000 in
set_option maxHeartbeats 800000 in
theorem specSpo_any (t : List (List Ev)) (b : Int) (A : Option Addr) (c : Nat) (w : World) (hm : t.length ≤ maxLen) (h : RdT w w.heap.size A t) :
    Calls Tryz.prog 12 #[.slice A t.length c, .int .i64 b] w (SpoPost t b w) := by
  unfold SpoPost
  obtain ⟨W, hW⟩ : ∃ W, W = w.alloc (Obj.cells #[.int .i64 0, .slice none 0 0] 30) := ⟨_, rfl⟩
  have B0 : Below w.heap.size w W := by rw [hW]; exact (Below.refl _ _).alloc (Nat.le_refl _) _
  have hR := (h.below B0).lt
  have AK := hide (l4Asked_any t b A c W hm hR)
  have HW := hide hW
  clear hW
  by_cases h0 : fcC t b = 0
  · obtain ⟨e0, e1, e2⟩ := fcC_zero h0
    rw [h0] at AK
    rw [spL_ok h0, h0]
    obtain ⟨B, rfl⟩ := Int.eq_ofNat_of_zero_le (show 0 ≤ b by omega)
    rw [Int.toNat_natCast]
    have SP := hide (fun V (hV : RdT V V.heap.size A t) => l9Spots_any t B A c V e0 (by omega) (by omega) hV)
    obtain ⟨L, hL⟩ : ∃ L, L = spS ((filL B t).length + 1) (filL B t) 2 := ⟨_, rfl⟩
    rw [← hL] at SP ⊢
    clear hL h0 e0 e1 e2
    go_enter Tryz.func12, Tryz.ntmps12
    go_wp2_with fail
    rw [← HW.out]
    refine AK.out.mono ?_
    rintro e w1 ⟨rfl, b1⟩
    have z1 := b1.size
    go_wp2_with fail
    refine (SP.out w1 ((hR.below b1).lt)).mono ?_
    rintro e w2 ⟨v, rfl, oi⟩
    have ho := own_mono (base' := w.heap.size + 1) oi.row (by have := W_size HW.out; omega)
    obtain ⟨D, d, hv⟩ := own_shape ho
    subst hv
    have hb := b1.trans (oi.old.mono z1)
    have q0 := W_cell HW.out hb 0
    have q1 := W_cell HW.out hb 1
    have f0 := W_frozen HW.out hb 0
    have f1 := W_frozen HW.out hb 1
    simp at q0 q1
    have O1 := hide ((ho.kept (grown_set w2 w.heap.size 0 (.int .i64 0)) (own_sep fun z hz e => by have := (ho.lt z hz).1; simp only [Option.some.injEq] at e; omega)).kept (grown_set _ w.heap.size 1 (.slice D L.length d)) (own_sep fun z hz e => by have := (ho.lt z hz).1; simp only [Option.some.injEq] at e; omega))
    have HB := hide (((W_below HW.out hb).setCell (p := ⟨w.heap.size, 0, none⟩) (Nat.le_refl _) (.int .i64 0)).setCell (p := ⟨w.heap.size, 1, none⟩) (Nat.le_refl _) (.slice D L.length d))
    clear ho oi
    go_wp2
    refine bodyPost_ret (v := .agg #[.int .i64 0, .slice D L.length d]) (by simp [results, Tryz.results12, go_sem, q0, q1]) rfl ?_
    exact ⟨D, d, rfl, own_mono O1.out (by omega), HB.out⟩
  · rw [spL_no h0]
    obtain ⟨F, hF⟩ : ∃ F, F = fcC t b := ⟨_, rfl⟩
    rw [← hF] at AK h0 ⊢
    have g0 : (F != 0) = true := bne_iff_ne.2 h0
    have g1 : (F == 0) = false := beq_eq_false_iff_ne.2 h0
    clear hF h0
    go_enter Tryz.func12, Tryz.ntmps12
    go_wp2_with fail
    rw [← HW.out]
    refine AK.out.mono ?_
    rintro e w1 ⟨rfl, hb⟩
    have q0 := W_cell HW.out hb 0
    have q1 := W_cell HW.out hb 1
    have f0 := W_frozen HW.out hb 0
    have f1 := W_frozen HW.out hb 1
    simp at q0 q1
    go_wp2
    refine bodyPost_ret (v := .agg #[.int .i64 F, .slice none 0 0]) (by simp [results, Tryz.results12, go_sem, q0, q1]) rfl ?_
    exact ⟨none, 0, rfl, World.ownsRow_nil _ _ _ _, ((W_below HW.out hb).setCell (Nat.le_refl _) _).setCell (Nat.le_refl _) _⟩
end Go.Proofs.YtldepledinolmaaGreatDoor
namespace Go.Proofs.YtldepledinolmaaGreatDoor
open Go.RowKit

set_option maxRecDepth 100000 in
set_option maxHeartbeats 1600000 in
theorem addPl_any (w1 : World) (L : List Int) (v : Value) (a n : Nat) (w : World) (ho : OwnI w1 w1.heap.size L v w) (hL : L.length ≤ 2000) (ha : a ≤ 4000) (hn : n ≤ 1000) :
    Calls Tryz.prog 57 #[v, .int .i64 a, .int .i64 n] w fun e w' => ∃ v', e = .returned v' ∧ OwnI w1 w1.heap.size (L ++ upI a n) v' w' := by
  obtain ⟨i0, hi, hz0, hz1, hz2⟩ := info_parts info_i64
  go_enter Tryz.func57, Tryz.ntmps57
  go_wp2
  go_loopw [0, 9] (fun v x wr => ∃ j : Nat, j ≤ n ∧ x = .int .i64 j ∧ OwnI w1 w1.heap.size (L ++ upI a j) v wr) (fun _ x _ => n - (intOf x).toNat)
  case atStart => exact ⟨0, Nat.zero_le _, rfl, by rw [upI_zero, List.append_nil]; exact ho⟩
  case round =>
    clear ho
    obtain ⟨j, hj, rfl, ho⟩ := hrel
    obtain ⟨Av2, cv2, hv2⟩ := ho.shape
    subst hv2
    by_cases hjl : j < n
    · have w2' : IntKind.i64.wrap ((a : Int) + (j : Int)) = ((a + j : Nat) : Int) := by rw [IntKind.wrap_i64]; omega
      have hlen : (L ++ upI a j).length = L.length + j := by rw [List.length_append, upI_len]
      have HM1 := hide (upI_one L a j)
      obtain ⟨M, hM⟩ : ∃ M, M = L ++ upI a j := ⟨_, rfl⟩
      rw [← hM] at ho hlen HM1 ⊢
      have hBl := Rd.one_new wr ((a + j : Nat) : Int) 2
      have ho1 := ho.alloc (Obj.cells #[.int .i64 ((a + j : Nat) : Int)] 2)
      have hM3 : M.length ≤ 3000 := by omega
      have a63 : M.length + [((a + j : Nat) : Int)].length ≤ maxLen := by unfold maxLen; simp only [List.length_cons, List.length_nil]; omega
      have aby : (M.length + [((a + j : Nat) : Int)].length) * 8 ≤ 140737488355328 := by simp only [List.length_cons, List.length_nil]; omega
      have abs := ho1.old.size
      have hrow := ho1.row
      clear hM ho
      go_wp2_with (at_builtin; refine wpList_append_rd _ rfl _ _ 28 rfl w1.heap.size 2 i0 (.int .i64 0) 8 Tryz.underlying28 hi hz0 hz1 hz2 rfl .i64 _ _ _ rfl hrow (some ⟨wr.heap.size, 0, none⟩) [((a + j : Nat) : Int)] 1 _ rfl hBl a63 aby abs ?_; intro v5 w5 o5 g5 hat5)
      have ho5 := ho1.more o5 g5
      rw [HM1.out] at ho5
      clear o5 g5 hat5 hrow hBl ho1
      go_roundw
      case rel => exact ⟨j + 1, by omega, by go_num, ho5⟩
      case measure => simp [intOf]; omega
    · obtain rfl : j = n := by omega
      go_wp2
      go_ret
      exact ⟨_, rfl, ho⟩

set_option maxRecDepth 100000 in
set_option maxHeartbeats 1600000 in
theorem spotsIn_any (t : List (List Ev)) (B : Nat) (D : Option Addr) (d : Nat) (aN : Addr) (w : World) (e0 : trF t = 0) (hB1 : 1 ≤ B) (hd : (filL B t).length ≤ d) (hR : Rd .u8 w w.heap.size D (filL B t)) (hN : w.cell? ⟨0, 0, none⟩ = some (errV aN)) :
    Calls Tryz.prog 30 #[.slice D (filL B t).length d, .int .i64 (filN B t : Nat)] w fun e w' => ∃ v, e = .returned v ∧ OwnI w w.heap.size (spS ((filL B t).length + 1) (filL B t) 2) v w' := by
  have hfew := filL_few hB1 e0
  have hb8 := filL_B8 hB1 e0
  obtain ⟨cs0, last0, hst, h2⟩ := filL_start hB1 e0
  have hsl := spS_len _ _ _ hb8 ⟨cs0, last0, 0, hst⟩ h2
  have hcnt := filL_count (b := B) t
  have hNs : filN B t ≤ 32 := by
    obtain ⟨_, h4, hall⟩ := trF_zero e0
    have h1 := (filF_len hB1 0 t hall).2
    have h2 := sumT_few hall
    omega
  obtain ⟨F, hF⟩ : ∃ F, F = filL B t := ⟨_, rfl⟩
  obtain ⟨N, hNN⟩ : ∃ N, N = filN B t := ⟨_, rfl⟩
  rw [← hF] at hfew hb8 hst h2 hsl hd hR ⊢
  rw [← hF, ← hNN] at hcnt
  rw [← hNN] at hNs
  rw [← hNN]
  have HCN := hide hcnt
  have HST := hide hst
  clear hF hNN e0 hst hcnt
  go_enter Tryz.func30, Tryz.ntmps30
  go_wp2
  go_loopw [5, 6, 11] (fun v x i wr => ∃ (at_ f : Nat) (cs : List (List Ev)) (last : Int) (k : Nat) (L : List Int), x = .int .i64 at_ ∧ i = .int .i64 k ∧ k ≤ N ∧ OwnI w w.heap.size L v wr ∧ F.length + 1 ≤ f + 1 + at_ ∧ at_ ≤ F.length ∧ Hid ((dcS (f + 1) F at_ cs last k).1 = 0) ∧ Hid (spS (F.length + 1) F 2 = L ++ spS (f + 1) F at_)) (fun _ _ i _ => N - (intOf i).toNat)
  case atStart => exact ⟨2, F.length, cs0, last0, 0, [], rfl, rfl, Nat.zero_le _, ⟨World.ownsRow_nil _ _ _ _, Below.refl _ _, Nat.le_refl _⟩, by omega, h2, HST, hide rfl⟩
  case round =>
    obtain ⟨at_, f, cs, last, k, L, rfl, rfl, hk, ho, hfu, hat, HDC, HSP⟩ := hrel
    have hmore := (dcS_more hb8 hat hfu HDC.out HCN.out).2
    have hrl := hR.below ho.old
    have hLl : L.length ≤ F.length := by
      have := congrArg List.length HSP.out
      rw [List.length_append] at this
      omega
    obtain ⟨Av, cv, hv⟩ := ho.shape
    subst hv
    by_cases hkn : k < N
    · have hfr := hmore.2 hkn
      obtain ⟨hH, hle, hft, _, cs', last', h3⟩ := dcS_frame_of hb8 HDC.out hfr
      have HSF := hide (spS_frame (f := f) hfr)
      have HD3 := hide h3
      have HH := hide hH
      have hf1 : ∃ f', f = f' + 1 := ⟨f - 1, by omega⟩
      obtain ⟨f', rfl⟩ := hf1
      have hN2 := cell_kept ho.old hN
      have HPL := hide (stepsPlace_any (F.drop at_) (cutA D at_ d) (d - at_) aN wr (by rw [List.length_drop]; omega) (by rw [List.length_drop]; omega) ((hrl.lt).cut (by omega) hd) (hb8.drop at_) hN2)
      rw [List.length_drop] at HPL
      unfold PlPost at HPL
      have cutA' : ∀ w : World, (Instr.slice 22 (.slice D F.length d) (some (.int .i64 at_)) none none).run Tryz.prog w = .ok (.slice (cutA D at_ d) (F.length - at_) (d - at_)) w := fun w => run_cut D F.length at_ d at_ w rfl (by omega)
      obtain ⟨fr, hfr2⟩ : ∃ x, x = frFrom (F.drop at_) := ⟨_, rfl⟩
      obtain ⟨tz, hto⟩ : ∃ x, x = frTo (F.drop at_) := ⟨_, rfl⟩
      rw [← hfr2, ← hto] at HSF HPL
      rw [← hto] at hle HD3
      rw [← hfr2, ← hto] at hft
      have HN := hide (show spS (F.length + 1) F 2 = (L ++ upI (at_ + fr) (tz + 4 - fr)) ++ spS (f' + 1) F (at_ + tz + 4) by rw [HSP.out, HSF.out, List.append_assoc])
      clear hfr hH h3 hfr2 hto hmore hN2 hrl
      go_wp2_with fail
      refine HPL.out.mono ?_
      rintro e w2 ⟨hor, b2⟩
      rcases hor with ⟨_, rfl⟩ | ⟨hno, _⟩
      case inr => exact absurd HH.out hno
      have ho2 := ho.below b2
      have w1' : IntKind.i64.wrap ((at_ : Int) + (fr : Int)) = ((at_ + fr : Nat) : Int) := by rw [IntKind.wrap_i64]; omega
      have w2' : IntKind.i64.wrap ((tz : Int) - (fr : Int)) = ((tz - fr : Nat) : Int) := by rw [IntKind.wrap_i64]; omega
      have w3' : IntKind.i64.wrap (((tz - fr : Nat) : Int) + 4) = ((tz + 4 - fr : Nat) : Int) := by rw [IntKind.wrap_i64]; omega
      have w4' : IntKind.i64.wrap ((tz : Int) + 4) = ((tz + 4 : Nat) : Int) := by rw [IntKind.wrap_i64]; omega
      have w5' : IntKind.i64.wrap ((at_ : Int) + ((tz + 4 : Nat) : Int)) = ((at_ + tz + 4 : Nat) : Int) := by rw [IntKind.wrap_i64]; omega
      have AP := hide (addPl_any w L (.slice Av L.length cv) (at_ + fr) (tz + 4 - fr) w2 ho2 (by omega) (by omega) (by omega))
      clear HPL ho b2 cutA' ho2 HSP HSF HDC
      go_wp2_with fail
      refine AP.out.mono ?_
      rintro e w3 ⟨v3, rfl, ho3⟩
      clear AP
      go_wp2
      go_roundw
      case rel => exact ⟨at_ + tz + 4, f', cs', last', k + 1, _, rfl, by go_num, by omega, ho3, by omega, by omega, HD3, HN⟩
      case measure => simp [intOf]; omega
    · obtain rfl : k = N := by omega
      have hno : ¬ (at_ < F.length ∧ (F.drop at_).getD 0 0 = 66) := fun h => hkn (hmore.1 h)
      have hend := (dcS_end_of HDC.out hno).1
      have HSE := hide (spS_end (f := f) hno)
      have HN := hide (show spS (F.length + 1) F 2 = L ++ upI (at_ + 3) 4 by rw [HSP.out, HSE.out, show F.length - (at_ + 3) = 4 by omega])
      have AP := hide (addPl_any w L (.slice Av L.length cv) (at_ + 3) 4 wr ho (by omega) (by omega) (by omega))
      have w1' : IntKind.i64.wrap ((F.length : Int) - 4) = ((at_ + 3 : Nat) : Int) := by rw [IntKind.wrap_i64]; omega
      have w2' : ((4 : Nat) : Int) = 4 := rfl
      rw [w2'] at AP
      clear hno hmore HSP HSE HDC ho hrl
      go_wp2_with fail
      refine AP.out.mono ?_
      rintro e w3 ⟨v3, rfl, ho3⟩
      go_wp2
      go_ret
      rw [HN.out]
      exact ⟨_, rfl, ho3⟩
end Go.Proofs.YtldepledinolmaaGreatDoor
namespace Go.Proofs.YtldepledinolmaaGreatDoor
open Go.RowKit

theorem field_intv (a b : Int) (W : World) : (Instr.field 63 (.agg #[.int .i64 a, .int .i64 b]) 1).run Tryz.prog W = .ok (.int .i64 b) W := by kernel_rfl
theorem fcN_ok {t : List (List Ev)} {b : Int} (h : fcC t b = 0) : fcN t b = (filN b.toNat t : Nat) := if_pos h

set_option maxRecDepth 100000 in
set_option maxHeartbeats 1600000 in
theorem implSpo_any (t : List (List Ev)) (b : Int) (A : Option Addr) (c : Nat) (aN : Addr) (w : World) (hm : t.length ≤ maxLen) (h : RdT w w.heap.size A t) (hT : Tab w) (hN : w.cell? ⟨0, 0, none⟩ = some (errV aN)) :
    Calls Tryz.prog 8 #[.slice A t.length c, .int .i64 b] w (SpoPost t b w) := by
  unfold SpoPost
  obtain ⟨W, hW⟩ : ∃ W, W = w.alloc (Obj.cells #[.int .i64 0, .slice none 0 0] 30) := ⟨_, rfl⟩
  have B0 : Below w.heap.size w W := by rw [hW]; exact (Below.refl _ _).alloc (Nat.le_refl _) _
  have hR := (h.below B0).lt
  have EN := hide (implEnc_any t b A c W hm hR (hT.below B0))
  have HW := hide hW
  have hzW := W_size hW
  clear hW
  by_cases h0 : fcC t b = 0
  · obtain ⟨e0, e1, e2⟩ := fcC_zero h0
    rw [fcB_ok h0, h0] at EN
    rw [spL_ok h0, h0]
    have hfn := fcN_ok h0
    have hb1 : 1 ≤ b.toNat := by omega
    have hfew := filL_few hb1 e0
    have FI := hide (fun V (hV : RdT V V.heap.size A t) => implFin_any t b A c V hm hV)
    rw [h0, hfn] at FI
    have SI := hide (fun V D d hd hr hn => spotsIn_any t b.toNat D d aN V e0 hb1 hd hr hn)
    obtain ⟨F, hF⟩ : ∃ F, F = filL b.toNat t := ⟨_, rfl⟩
    obtain ⟨N, hNN⟩ : ∃ N, N = filN b.toNat t := ⟨_, rfl⟩
    rw [← hF] at EN hfew SI ⊢
    rw [← hNN] at SI FI
    obtain ⟨L, hL⟩ : ∃ L, L = spS (F.length + 1) F 2 := ⟨_, rfl⟩
    rw [← hL] at SI ⊢
    have hf1 := field_intv 0 (N : Int)
    clear hL hF hNN e0 e1 e2 h0 hfn
    go_enter Tryz.func8, Tryz.ntmps8
    go_wp2_with fail
    rw [← HW.out]
    refine EN.out.mono ?_
    rintro e w1 ⟨D, d, rfl, o1, b1⟩
    have hcap := own_capE o1
    have hr1 := Rd.of_own (k := .u8) o1
    have bA := (Below.refl w1.heap.size w1).alloc (Nat.le_refl _) (Obj.cells #[.int .i64 0, .slice D F.length d] 35)
    have kp := Bk.new w1 #[.int .i64 0, .slice D F.length d] 35
    have hrV := (hr1.below bA).lt
    have b0 := b1.trans (bA.mono b1.size)
    have zb := b1.size
    go_upto_region 2 with fail
    generalize w1.alloc (Obj.cells #[.int .i64 0, .slice D F.length d] 35) = V at *
    obtain ⟨G, hG⟩ : ∃ G, G = w1.heap.size := ⟨_, rfl⟩
    rw [← hG] at kp zb ⊢
    have q0 := (kp.cell 0).trans (rfl : _ = some (Value.int .i64 0))
    have q1 := (kp.cell 1).trans (rfl : _ = some (Value.slice D F.length d))
    have hN3 := cell_kept (B0.trans (b0.mono B0.size)) hN
    have hRV := (hR.below b0).lt
    replace FI := hide (fun V' (hV : Below V.heap.size V V') => FI.out V' (hRV.below hV).lt)
    replace SI := hide (fun V' (hV : Below V.heap.size V V') => SI.out V' D d hcap.1 (hrV.below hV).lt (cell_kept hV hN3))
    clear hG o1 hr1 bA b1 EN hrV hRV hN3
    go_upto_region 4 with fail
    refine wp_region_F 8 (fun w' => Bk w' G #[.int .i64 0, .slice D F.length d] 35 ∧ w'.cell? ⟨G, 1, none⟩ = some (Value.slice D F.length d)) (fun w' => Below V.heap.size V w') (by kernel_rfl) ⟨⟨kp.drewN 1, q1⟩, (Below.refl _ _).drew⟩ (fun hHeld => ?_)
    try simp only [Act.put, List.setIfInBounds_toArray, List.set_cons_zero, List.set_cons_succ]
    refine wpAnyF_take (i := 0) (v := ?_) (by (simp only [List.getElem?_toArray, List.getElem?_cons_zero]; rfl)) (by kernel_rfl) (by kernel_rfl) (by kernel_rfl) (by decide) (by exact fun _ _ _ h => h) ⟨hHeld.1, .inr hHeld.2⟩ (Or.inl ⟨by rfl, ?_⟩) ?_
    rotate_left
    · (intro w' _; go_simp <;> with_reducible rfl)
    try simp only [Act.put, List.setIfInBounds_toArray, List.set_cons_zero, List.set_cons_succ]
    refine wpAnyF_keep (i := 1) (v := ?_) (by (simp only [List.getElem?_toArray, List.getElem?_cons_succ, List.getElem?_cons_zero]; rfl)) (by kernel_rfl) (by kernel_rfl) (by kernel_rfl) (by decide) (by exact fun _ _ _ h => h) ⟨hHeld.1, .inr hHeld.2⟩ (Or.inl ⟨by rfl, ?_⟩) ?_
    rotate_left
    · (intro w' hSw; (try dsimp only at hSw); obtain ⟨hSa0, hSa1⟩ := hSw; go_simp <;> with_reducible rfl)
    try simp only [Act.put, List.setIfInBounds_toArray, List.set_cons_zero, List.set_cons_succ]
    refine wpAnyF_take (i := 2) (v := ?_) (by (simp only [List.getElem?_toArray, List.getElem?_cons_succ, List.getElem?_cons_zero]; rfl)) (by kernel_rfl) (by kernel_rfl) (by kernel_rfl) (by decide) (by exact fun _ _ _ h => h) ⟨hHeld.1, .inr hHeld.2⟩ (Or.inl ⟨by rfl, ?_⟩) ?_
    rotate_left
    · (intro w' _; go_simp <;> with_reducible rfl)
    try simp only [Act.put, List.setIfInBounds_toArray, List.set_cons_zero, List.set_cons_succ]
    refine wpAnyF_take (i := 3) (v := ?_) (by (simp only [List.getElem?_toArray, List.getElem?_cons_succ, List.getElem?_cons_zero]; rfl)) (by kernel_rfl) (by kernel_rfl) (by kernel_rfl) (by decide) (by exact fun _ _ _ h => h) ⟨hHeld.1, .inr hHeld.2⟩ (Or.inl ⟨by rfl, ?_⟩) ?_
    rotate_left
    · (intro w' _; go_simp <;> with_reducible rfl)
    try simp only [Act.put, List.setIfInBounds_toArray, List.set_cons_zero, List.set_cons_succ]
    refine wpAnyF_ready (rs := [4]) (by kernel_rfl) (by simp) ?_
    refine AllReadyF.cons (by (simp only [List.getElem?_toArray, List.getElem?_cons_succ, List.getElem?_cons_zero]; rfl)) (fun K hK => ?_) AllReadyF.nil
    go_simp
    go_at_call 31
    refine (FI.out _ hHeld.2).mono ?_
    rintro e wa ⟨rfl, ba⟩
    refine hK.out _ _ ⟨⟨hHeld.1.1.kept ba, ((hHeld.1.1.kept ba).cell 1).trans rfl⟩, hHeld.2.trans (ba.mono hHeld.2.size)⟩ (fun hNew => ?_)
    clear hK K hHeld
    have hHeld := hNew
    clear hNew
    try simp only [Act.put, List.setIfInBounds_toArray, List.set_cons_zero, List.set_cons_succ]
    refine wpAnyF_take (i := 5) (v := ?_) (by (simp only [List.getElem?_toArray, List.getElem?_cons_succ, List.getElem?_cons_zero]; rfl)) (by kernel_rfl) (by kernel_rfl) (by kernel_rfl) (by decide) (by exact fun _ _ _ h => h) ⟨hHeld.1, .inr hHeld.2⟩ (Or.inl ⟨by rfl, ?_⟩) ?_
    rotate_left
    · (intro w' _; go_simp <;> with_reducible rfl)
    try simp only [Act.put, List.setIfInBounds_toArray, List.set_cons_zero, List.set_cons_succ]
    refine wpAnyF_ready (rs := [6]) (by kernel_rfl) (by simp) ?_
    refine AllReadyF.cons (by (simp only [List.getElem?_toArray, List.getElem?_cons_succ, List.getElem?_cons_zero]; rfl)) (fun K hK => ?_) AllReadyF.nil
    go_simp
    go_at_call 30
    refine (SI.out _ hHeld.2).mono ?_
    rintro e wb ⟨v, rfl, oi⟩
    have bb := oi.old
    have HO := hide oi
    obtain ⟨E, ec, hv⟩ := oi.shape
    subst hv
    clear oi
    refine hK.out _ _ ⟨⟨hHeld.1.1.kept bb, ((hHeld.1.1.kept bb).cell 1).trans rfl⟩, hHeld.2.trans (bb.mono hHeld.2.size)⟩ (fun hNew => ?_)
    clear hK K hHeld
    have hHeld := hNew
    clear hNew
    try simp only [Act.put, List.setIfInBounds_toArray, List.set_cons_zero, List.set_cons_succ]
    refine wpAnyF_take (i := 7) (v := ?_) (by (simp only [List.getElem?_toArray, List.getElem?_cons_succ, List.getElem?_cons_zero]; rfl)) (by kernel_rfl) (by kernel_rfl) (by kernel_rfl) (by decide) (by exact fun _ _ _ h => h) ⟨hHeld.1, .inr hHeld.2⟩ (Or.inl ⟨by rfl, ?_⟩) ?_
    rotate_left
    · (intro w' _; go_simp <;> with_reducible rfl)
    try simp only [Act.put, List.setIfInBounds_toArray, List.set_cons_zero, List.set_cons_succ]
    refine wpAnyF_ready (rs := [8]) (by kernel_rfl) (by simp) ?_
    refine AllReadyF.last (by (simp only [List.getElem?_toArray, List.getElem?_cons_succ, List.getElem?_cons_zero]; rfl)) (by kernel_rfl) (fun K hK => ?_) AllReadyF.nil
    have hB3 := b0.trans (hHeld.2.mono b0.size)
    have q0' := W_cell HW.out hB3 0
    have q1' := W_cell HW.out hB3 1
    have f0' := W_frozen HW.out hB3 0
    have f1' := W_frozen HW.out hB3 1
    simp at q0' q1'
    have HB3 := hide hB3
    have HK3 := hide hHeld.1.1
    go_simp
    refine hK.out _ _ ⟨(HK3.out.far (p := ⟨w.heap.size, 0, none⟩) (by simp only; omega) _).far (p := ⟨w.heap.size, 1, none⟩) (by simp only; omega) _, (((HK3.out.far (p := ⟨w.heap.size, 0, none⟩) (by simp only; omega) (.int .i64 0)).far (p := ⟨w.heap.size, 1, none⟩) (by simp only; omega) (.slice E L.length ec)).cell 1).trans rfl⟩ ?_
    clear hK K
    try simp only [Act.put, List.setIfInBounds_toArray, List.set_cons_zero, List.set_cons_succ]
    refine wpAnyF_done (by kernel_rfl) ?_ _
    clear hHeld q0' q1' f0' f1' FI SI hf1
    have q0 := W_cell HW.out HB3.out 0
    have q1 := W_cell HW.out HB3.out 1
    simp at q0 q1
    have ho := own_mono (base' := w.heap.size + 1) HO.out.row (by have h1 := ba.size; have h2 : V.drew.heap.size = V.heap.size := rfl; have h3 := b0.size; omega)
    have O1 := hide ((ho.kept (grown_set wb w.heap.size 0 (.int .i64 0)) (own_sep fun z hz e => by have := (ho.lt z hz).1; simp only [Option.some.injEq] at e; omega)).kept (grown_set _ w.heap.size 1 (.slice E L.length ec)) (own_sep fun z hz e => by have := (ho.lt z hz).1; simp only [Option.some.injEq] at e; omega))
    have HB := hide (((W_below HW.out HB3.out).setCell (p := ⟨w.heap.size, 0, none⟩) (Nat.le_refl _) (.int .i64 0)).setCell (p := ⟨w.heap.size, 1, none⟩) (Nat.le_refl _) (.slice E L.length ec))
    clear ho
    go_wp2
    refine bodyPost_ret (v := .agg #[.int .i64 0, .slice E L.length ec]) (by simp [results, Tryz.results8, go_sem, q0, q1]) rfl ?_
    exact ⟨E, ec, rfl, own_mono O1.out (by omega), HB.out⟩
  · rw [spL_no h0]
    obtain ⟨C, hC⟩ : ∃ C, C = fcC t b := ⟨_, rfl⟩
    rw [← hC] at EN h0 ⊢
    have g0 : (C != 0) = true := bne_iff_ne.2 h0
    have g1 : (C == 0) = false := beq_eq_false_iff_ne.2 h0
    generalize fcB t b = F at *
    clear hC h0
    go_enter Tryz.func8, Tryz.ntmps8
    go_wp2_with fail
    rw [← HW.out]
    refine EN.out.mono ?_
    rintro e w1 ⟨D, d, rfl, o1, b1⟩
    have bA := b1.alloc b1.size (Obj.cells #[.int .i64 C, .slice D F.length d] 35)
    have kp := Bk.new w1 #[.int .i64 C, .slice D F.length d] 35
    have p0 := (kp.cell 0).trans (rfl : _ = some (Value.int .i64 C))
    have q0 := W_cell HW.out bA 0
    have q1 := W_cell HW.out bA 1
    have f0 := W_frozen HW.out bA 0
    have f1 := W_frozen HW.out bA 1
    simp at q0 q1
    go_wp2
    refine bodyPost_ret (v := .agg #[.int .i64 C, .slice none 0 0]) (by simp [results, Tryz.results8, go_sem, q0, q1]) rfl ?_
    exact ⟨none, 0, rfl, World.ownsRow_nil _ _ _ _, ((W_below HW.out bA).setCell (Nat.le_refl _) _).setCell (Nat.le_refl _) _⟩
end Go.Proofs.YtldepledinolmaaGreatDoor
