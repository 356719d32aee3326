/- The contract of SpotsOf in the model. The contract of SpotsOf in the program. The contract of SpotsOf in the program. Plain mathematics: a bit that is turned at a place that is told is found out. The contract of IsCaught in the program. The contract of IsCaught in the model. -/
import Derived.Test.YtldepledinolmaaGreatDoorGAud
import Derived.Test.YtldepledinolmaaGreatDoorGEnc
import Derived.Test.YtldepledinolmaaGreatDoorGRf
import Derived.Test.YtldepledinolmaaGreatDoorGLog
import Derived.Deep.Cut
import Derived.Test.YtldepledinolmaaGreatDoorReadF
import Derived.Test.YtldepledinolmaaGreatDoorGHeld
import Derived.Test.YtldepledinolmaaGreatDoorGCrc
import Derived.Test.YtldepledinolmaaGreatDoorGTb
namespace Go.Proofs.YtldepledinolmaaGreatDoor
open Go.RowKit

/-- What SpotsOf tells. -/
def SpoPost (t : List (List Ev)) (b : Int) (w : World) (e : Ending) (w' : World) : Prop := ∃ A c, e = .returned (.agg #[.int .i64 (fcC t b), .slice A (spL t b).length c]) ∧ w'.ownsRow w.heap.size 2 1 (.slice A (spL t b).length c) (spL t b).length ((spL t b).map (Value.int .i64)) ∧ Below w.heap.size w w'
theorem upI_one (L : List Int) (a j : Nat) : (L ++ upI a j) ++ [((a + j : Nat) : Int)] = L ++ upI a (j + 1) := by rw [upI_snoc, List.append_assoc]

set_option maxRecDepth 100000 in
set_option maxHeartbeats 3200000 in
theorem l9Spots_any (t : List (List Ev)) (B : Nat) (A : Option Addr) (c : Nat) (w : World) (e0 : trF t = 0) (hB1 : 1 ≤ B) (hB8 : B ≤ 8) (h : RdT w w.heap.size A t) :
    Calls Tryz.prog 41 #[.slice A t.length c, .int .i64 B] w fun e w' => ∃ v, e = .returned v ∧ OwnI w w.heap.size (spS ((filL B t).length + 1) (filL B t) 2) v w' := by
  obtain ⟨i0, hi, hz0, hz1, hz2⟩ := info_parts info_i64
  have EN := hide (l4Encode_any t B A c w e0 hB1 hB8 h)
  have hfew := filL_few hB1 e0
  have hb8 := filL_B8 hB1 e0
  obtain ⟨cs0, last0, hst, h2⟩ := filL_start hB1 e0
  have hsl := spS_len _ _ _ hb8 ⟨cs0, last0, 0, hst⟩ h2
  obtain ⟨F, hF⟩ : ∃ F, F = filL B t := ⟨_, rfl⟩
  rw [← hF] at EN hfew hb8 hst h2 hsl ⊢
  have HST := hide hst
  clear hF e0 hst
  go_enter Tryz.func41, Tryz.ntmps41
  go_wp2_with fail
  refine EN.out.mono ?_
  rintro e w1 ⟨D, d, rfl, o1⟩
  have hcap := own_capE o1.1
  have hr1 := Rd.of_own (k := .u8) o1.1
  have hb1 := o1.2
  have o0 : OwnI w1 w1.heap.size [] (.slice (some ⟨w1.heap.size, 0, none⟩) 0 0) (w1.alloc (Obj.cells #[] 2)) := ⟨World.ownsRow_lit (base := w1.heap.size) (e := 2) (size := 1) w1 #[] 0 (Nat.le_refl _) (by unfold maxLen; omega) rfl, (Below.refl _ _).alloc (Nat.le_refl _) _, Nat.le_refl _⟩
  clear o1
  go_upto_region 3 with fail
  generalize w1.alloc (Obj.cells #[] 2) = V at *
  go_wp2
  go_loopw [6, 7] (fun v x wr => ∃ (at_ f : Nat) (cs : List (List Ev)) (last : Int) (n : Nat) (L : List Int), x = .int .i64 at_ ∧ OwnI w1 w1.heap.size L v wr ∧ F.length + 1 ≤ f + 1 + at_ ∧ at_ ≤ F.length ∧ Hid ((dcS (f + 1) F at_ cs last n).1 = 0) ∧ Hid (spS (F.length + 1) F 2 = L ++ spS (f + 1) F at_)) (fun _ x _ => F.length - (intOf x).toNat)
  case atStart => exact ⟨2, F.length, cs0, last0, 0, [], rfl, o0, by omega, h2, HST, hide rfl⟩
  case round =>
    clear o0
    obtain ⟨at_, f, cs, last, n, L, rfl, ho, hfu, hat, HDC, HSP⟩ := hrel
    have hlt := dcS_in HDC.out
    have hrl := hr1.below ho.old
    obtain ⟨bF, oF, rfl, hbb, hcc⟩ := hrl.get hlt
    have hgd : (F.drop at_).getD 0 0 = F[at_] := by rw [List.getD_eq_getElem?_getD, List.getElem?_drop, Nat.add_zero, List.getElem?_eq_getElem hlt]; rfl
    have hLl : L.length ≤ F.length := by
      have := congrArg List.length HSP.out
      rw [List.length_append] at this
      omega
    obtain ⟨Av, cv, hv⟩ := ho.shape
    subst hv
    have a0 : (0 : Int) ≤ (at_ : Int) := by omega
    have a1 : (at_ : Int) < (F.length : Int) := by omega
    have a2 : ((at_ : Int)).toNat = at_ := by omega
    by_cases h66 : F[at_] = 66
    · have hfr : at_ < F.length ∧ (F.drop at_).getD 0 0 = 66 := ⟨hlt, by rw [hgd]; exact h66⟩
      obtain ⟨hH, hle, hft, _, cs', last', h3⟩ := dcS_frame_of hb8 HDC.out hfr
      have HSF := hide (spS_frame (f := f) hfr)
      have HD3 := hide h3
      have HH := hide hH
      have hf1 : ∃ f', f = f' + 1 := ⟨f - 1, by omega⟩
      obtain ⟨f', rfl⟩ := hf1
      have HL3 := hide (l3Head_any (F.drop at_) (cutA (some ⟨bF, oF, none⟩) at_ d) (d - at_) wr (by rw [List.length_drop]; omega) (by rw [List.length_drop]; omega) ((hrl.lt).cut (by omega) hcap.1) (hb8.drop at_))
      rw [List.length_drop] at HL3
      unfold HdPost at HL3
      have cutA' : ∀ w : World, (Instr.slice 22 (.slice (some ⟨bF, oF, none⟩) F.length d) (some (.int .i64 at_)) none none).run Tryz.prog w = .ok (.slice (cutA (some ⟨bF, oF, none⟩) at_ d) (F.length - at_) (d - at_)) w := fun w => run_cut (some ⟨bF, oF, none⟩) F.length at_ d at_ w rfl (by omega)
      obtain ⟨fr, hfr2⟩ : ∃ x, x = frFrom (F.drop at_) := ⟨_, rfl⟩
      obtain ⟨tz, hto⟩ : ∃ x, x = frTo (F.drop at_) := ⟨_, rfl⟩
      rw [← hfr2, ← hto] at HSF HL3
      rw [← hto] at hle HD3
      rw [← hfr2, ← hto] at hft
      rw [h66] at hcc
      clear hfr hH h3 hgd h66 hfr2 hto
      go_wp2_with fail
      refine HL3.out.mono ?_
      rintro e w2 ⟨hor, b2⟩
      rcases hor with ⟨_, rfl⟩ | ⟨hno, _⟩
      case inr => exact absurd HH.out hno
      have ho2 := ho.below b2
      clear HL3 ho b2 hcc hrl hbb cutA'
      go_wp2
      go_loopw [6, 10] (fun v x wr => ∃ j m : Nat, j ≤ tz + 4 - fr ∧ x = .int .i64 (m : Nat) ∧ Hid (m = fr + j) ∧ OwnI w1 w1.heap.size (L ++ upI (at_ + fr) j) v wr) (fun _ x _ => tz + 4 - (intOf x).toNat)
      case atStart => exact ⟨0, fr, Nat.zero_le _, rfl, hide rfl, by rw [upI_zero, List.append_nil]; exact ho2⟩
      case round =>
        clear ho2
        obtain ⟨j, m, hj, rfl, HMJ, ho⟩ := hrel
        have hmj := HMJ.out
        obtain ⟨Av2, cv2, hv2⟩ := ho.shape
        subst hv2
        have w1' : IntKind.i64.wrap ((tz : Int) + 4) = (tz : Int) + 4 := by rw [IntKind.wrap_i64]; omega
        by_cases hjl : j < tz + 4 - fr
        · have g0 : (m : Int) < (tz : Int) + 4 := by omega
          obtain ⟨y, hy⟩ : ∃ y, y = at_ + fr + j := ⟨_, rfl⟩
          have w2' : IntKind.i64.wrap ((at_ : Int) + (m : Int)) = (y : Int) := by rw [IntKind.wrap_i64]; omega
          have w3' : IntKind.i64.wrap ((m : Int) + 1) = (m : Int) + 1 := by rw [IntKind.wrap_i64]; omega
          have hlen : (L ++ upI (at_ + fr) j).length = L.length + j := by rw [List.length_append, upI_len]
          have HM1 := hide (upI_one L (at_ + fr) j)
          rw [← hy] at HM1
          clear hy hmj
          obtain ⟨M, hM⟩ : ∃ M, M = L ++ upI (at_ + fr) j := ⟨_, rfl⟩
          rw [← hM] at ho hlen HM1 ⊢
          have hBl := Rd.one_new wr (y : Int) 2
          have ho1 := ho.alloc (Obj.cells #[.int .i64 (y : Int)] 2)
          have hM3 : M.length ≤ 3000 := by omega
          have a63 : M.length + [(y : Int)].length ≤ maxLen := by unfold maxLen; simp only [List.length_cons, List.length_nil]; omega
          have aby : (M.length + [(y : Int)].length) * 8 ≤ 140737488355328 := by simp only [List.length_cons, List.length_nil]; omega
          have abs := ho1.old.size
          have hrow := ho1.row
          clear hM ho
          go_wp2_with (at_builtin; refine wpList_append_rd _ rfl _ _ 28 rfl w1.heap.size 2 i0 (.int .i64 0) 8 Tryz.underlying28 hi hz0 hz1 hz2 rfl .i64 _ _ _ rfl hrow (some ⟨wr.heap.size, 0, none⟩) [(y : Int)] 1 _ rfl hBl a63 aby abs ?_; intro v5 w5 o5 g5 hat5)
          have ho5 := ho1.more o5 g5
          rw [HM1.out] at ho5
          clear o5 g5 hat5 hrow hBl ho1
          go_roundw
          case rel => exact ⟨j + 1, m + 1, by omega, by go_num, hide (by have := HMJ.out; omega), ho5⟩
          case measure => simp [intOf]; omega
        · obtain rfl : j = tz + 4 - fr := by omega
          have g0 : ¬ (m : Int) < (tz : Int) + 4 := by omega
          have w2' : IntKind.i64.wrap ((at_ : Int) + (tz : Int)) = (at_ : Int) + (tz : Int) := by rw [IntKind.wrap_i64]; omega
          have w3' : IntKind.i64.wrap ((at_ : Int) + (tz : Int) + 4) = (at_ : Int) + (tz : Int) + 4 := by rw [IntKind.wrap_i64]; omega
          have HN := hide (show spS (F.length + 1) F 2 = (L ++ upI (at_ + fr) (tz + 4 - fr)) ++ spS (f' + 1) F (at_ + tz + 4) by rw [HSP.out, HSF.out, List.append_assoc])
          clear HSP HSF HDC
          go_wp2
          go_roundw
          case rel => exact ⟨at_ + tz + 4, f', cs', last', n + 1, _, by go_num, ho, by omega, by omega, HD3, HN⟩
          case measure => simp [intOf]; omega
    · have hno : ¬ (at_ < F.length ∧ (F.drop at_).getD 0 0 = 66) := fun h => h66 (by rw [← hgd]; exact h.2)
      have hend := (dcS_end_of HDC.out hno).1
      have HSE := hide (spS_end (f := f) hno)
      obtain ⟨y, hy⟩ : ∃ y, y = F[at_] := ⟨_, rfl⟩
      rw [← hy] at hcc h66
      have gy : (y == 66) = false := beq_eq_false_iff_ne.2 h66
      have w0' : IntKind.i64.wrap ((at_ : Int) + 3) = (at_ : Int) + 3 := by rw [IntKind.wrap_i64]; omega
      clear hgd h66 hy hno
      go_wp2
      go_loopw [6, 11] (fun v x wr => ∃ j m : Nat, j ≤ 4 ∧ x = .int .i64 (m : Nat) ∧ Hid (m = at_ + 3 + j) ∧ OwnI w1 w1.heap.size (L ++ upI (at_ + 3) j) v wr) (fun _ x _ => F.length - (intOf x).toNat)
      case atStart => exact ⟨0, at_ + 3, by omega, by go_num, hide rfl, by rw [upI_zero, List.append_nil]; exact ho⟩
      case round =>
        clear ho hcc
        obtain ⟨j, m, hj, rfl, HMJ, ho⟩ := hrel
        have hmj := HMJ.out
        obtain ⟨Av2, cv2, hv2⟩ := ho.shape
        subst hv2
        by_cases hjl : j < 4
        · have g0 : (m : Int) < (F.length : Int) := by omega
          have w3' : IntKind.i64.wrap ((m : Int) + 1) = (m : Int) + 1 := by rw [IntKind.wrap_i64]; omega
          have hlen : (L ++ upI (at_ + 3) j).length = L.length + j := by rw [List.length_append, upI_len]
          have HM1 := hide (upI_one L (at_ + 3) j)
          rw [← hmj] at HM1
          clear hmj
          obtain ⟨M, hM⟩ : ∃ M, M = L ++ upI (at_ + 3) j := ⟨_, rfl⟩
          rw [← hM] at ho hlen HM1 ⊢
          have hBl := Rd.one_new wr (m : Int) 2
          have ho1 := ho.alloc (Obj.cells #[.int .i64 (m : Int)] 2)
          have hM3 : M.length ≤ 3000 := by omega
          have a63 : M.length + [(m : Int)].length ≤ maxLen := by unfold maxLen; simp only [List.length_cons, List.length_nil]; omega
          have aby : (M.length + [(m : Int)].length) * 8 ≤ 140737488355328 := by simp only [List.length_cons, List.length_nil]; omega
          have abs := ho1.old.size
          have hrow := ho1.row
          clear hM ho
          go_wp2_with (at_builtin; refine wpList_append_rd _ rfl _ _ 28 rfl w1.heap.size 2 i0 (.int .i64 0) 8 Tryz.underlying28 hi hz0 hz1 hz2 rfl .i64 _ _ _ rfl hrow (some ⟨wr.heap.size, 0, none⟩) [(m : Int)] 1 _ rfl hBl a63 aby abs ?_; intro v5 w5 o5 g5 hat5)
          have ho5 := ho1.more o5 g5
          rw [HM1.out] at ho5
          clear o5 g5 hat5 hrow hBl ho1
          go_roundw
          case rel => exact ⟨j + 1, m + 1, by omega, by go_num, hide (by have := HMJ.out; omega), ho5⟩
          case measure => simp [intOf]; omega
        · obtain rfl : j = 4 := by omega
          have g0 : ¬ (m : Int) < (F.length : Int) := by omega
          have HN := hide (show spS (F.length + 1) F 2 = L ++ upI (at_ + 3) 4 by rw [HSP.out, HSE.out, show F.length - (at_ + 3) = 4 by omega])
          obtain ⟨M, hM⟩ : ∃ M, M = L ++ upI (at_ + 3) 4 := ⟨_, rfl⟩
          rw [← hM] at ho HN ⊢
          clear hM
          go_wp2
          go_ret
          rw [HN.out]
          exact ⟨_, rfl, own_mono ho.row hb1.size, hb1.trans (ho.old.mono hb1.size), Nat.le_refl _⟩

set_option maxRecDepth 100000 in
set_option maxHeartbeats 800000 in
theorem specSpo_any (t : List (List Ev)) (b : Int) (A : Option Addr) (c : Nat) (w : World) (hm : t.length ≤ maxLen) (h : RdT w w.heap.size A t) :
    Calls Tryz.prog 12 #[.slice A t.length c, .int .i64 b] w (SpoPost t b w) := by
  unfold SpoPost
  obtain ⟨W, hW⟩ : ∃ W, W = w.alloc (Obj.cells #[.int .i64 0, .slice none 0 0] 30) := ⟨_, rfl⟩
  have B0 : Below w.heap.size w W := by rw [hW]; exact (Below.refl _ _).alloc (Nat.le_refl _) _
  have hR := (h.below B0).lt
  have AK := hide (l4Asked_any t b A c W hm hR)
  have HW := hide hW
  clear hW
  by_cases h0 : fcC t b = 0
  · obtain ⟨e0, e1, e2⟩ := fcC_zero h0
    rw [h0] at AK
    rw [spL_ok h0, h0]
    obtain ⟨B, rfl⟩ := Int.eq_ofNat_of_zero_le (show 0 ≤ b by omega)
    rw [Int.toNat_natCast]
    have SP := hide (fun V (hV : RdT V V.heap.size A t) => l9Spots_any t B A c V e0 (by omega) (by omega) hV)
    obtain ⟨L, hL⟩ : ∃ L, L = spS ((filL B t).length + 1) (filL B t) 2 := ⟨_, rfl⟩
    rw [← hL] at SP ⊢
    clear hL h0 e0 e1 e2
    go_enter Tryz.func12, Tryz.ntmps12
    go_wp2_with fail
    rw [← HW.out]
    refine AK.out.mono ?_
    rintro e w1 ⟨rfl, b1⟩
    have z1 := b1.size
    go_wp2_with fail
    refine (SP.out w1 ((hR.below b1).lt)).mono ?_
    rintro e w2 ⟨v, rfl, oi⟩
    have ho := own_mono (base' := w.heap.size + 1) oi.row (by have := W_size HW.out; omega)
    obtain ⟨D, d, hv⟩ := own_shape ho
    subst hv
    have hb := b1.trans (oi.old.mono z1)
    have q0 := W_cell HW.out hb 0
    have q1 := W_cell HW.out hb 1
    have f0 := W_frozen HW.out hb 0
    have f1 := W_frozen HW.out hb 1
    simp at q0 q1
    have O1 := hide ((ho.kept (grown_set w2 w.heap.size 0 (.int .i64 0)) (own_sep fun z hz e => by have := (ho.lt z hz).1; simp only [Option.some.injEq] at e; omega)).kept (grown_set _ w.heap.size 1 (.slice D L.length d)) (own_sep fun z hz e => by have := (ho.lt z hz).1; simp only [Option.some.injEq] at e; omega))
    have HB := hide (((W_below HW.out hb).setCell (p := ⟨w.heap.size, 0, none⟩) (Nat.le_refl _) (.int .i64 0)).setCell (p := ⟨w.heap.size, 1, none⟩) (Nat.le_refl _) (.slice D L.length d))
    clear ho oi
    go_wp2
    refine bodyPost_ret (v := .agg #[.int .i64 0, .slice D L.length d]) (by simp [results, Tryz.results12, go_sem, q0, q1]) rfl ?_
    exact ⟨D, d, rfl, own_mono O1.out (by omega), HB.out⟩
  · rw [spL_no h0]
    obtain ⟨F, hF⟩ : ∃ F, F = fcC t b := ⟨_, rfl⟩
    rw [← hF] at AK h0 ⊢
    have g0 : (F != 0) = true := bne_iff_ne.2 h0
    have g1 : (F == 0) = false := beq_eq_false_iff_ne.2 h0
    clear hF h0
    go_enter Tryz.func12, Tryz.ntmps12
    go_wp2_with fail
    rw [← HW.out]
    refine AK.out.mono ?_
    rintro e w1 ⟨rfl, hb⟩
    have q0 := W_cell HW.out hb 0
    have q1 := W_cell HW.out hb 1
    have f0 := W_frozen HW.out hb 0
    have f1 := W_frozen HW.out hb 1
    simp at q0 q1
    go_wp2
    refine bodyPost_ret (v := .agg #[.int .i64 F, .slice none 0 0]) (by simp [results, Tryz.results12, go_sem, q0, q1]) rfl ?_
    exact ⟨none, 0, rfl, World.ownsRow_nil _ _ _ _, ((W_below HW.out hb).setCell (Nat.le_refl _) _).setCell (Nat.le_refl _) _⟩
end Go.Proofs.YtldepledinolmaaGreatDoor
namespace Go.Proofs.YtldepledinolmaaGreatDoor
open Go.RowKit

set_option maxRecDepth 100000 in
set_option maxHeartbeats 1600000 in
theorem addPl_any (w1 : World) (L : List Int) (v : Value) (a n : Nat) (w : World) (ho : OwnI w1 w1.heap.size L v w) (hL : L.length ≤ 2000) (ha : a ≤ 4000) (hn : n ≤ 1000) :
    Calls Tryz.prog 57 #[v, .int .i64 a, .int .i64 n] w fun e w' => ∃ v', e = .returned v' ∧ OwnI w1 w1.heap.size (L ++ upI a n) v' w' := by
  obtain ⟨i0, hi, hz0, hz1, hz2⟩ := info_parts info_i64
  go_enter Tryz.func57, Tryz.ntmps57
  go_wp2
  go_loopw [0, 9] (fun v x wr => ∃ j : Nat, j ≤ n ∧ x = .int .i64 j ∧ OwnI w1 w1.heap.size (L ++ upI a j) v wr) (fun _ x _ => n - (intOf x).toNat)
  case atStart => exact ⟨0, Nat.zero_le _, rfl, by rw [upI_zero, List.append_nil]; exact ho⟩
  case round =>
    clear ho
    obtain ⟨j, hj, rfl, ho⟩ := hrel
    obtain ⟨Av2, cv2, hv2⟩ := ho.shape
    subst hv2
    by_cases hjl : j < n
    · have w2' : IntKind.i64.wrap ((a : Int) + (j : Int)) = ((a + j : Nat) : Int) := by rw [IntKind.wrap_i64]; omega
      have hlen : (L ++ upI a j).length = L.length + j := by rw [List.length_append, upI_len]
      have HM1 := hide (upI_one L a j)
      obtain ⟨M, hM⟩ : ∃ M, M = L ++ upI a j := ⟨_, rfl⟩
      rw [← hM] at ho hlen HM1 ⊢
      have hBl := Rd.one_new wr ((a + j : Nat) : Int) 2
      have ho1 := ho.alloc (Obj.cells #[.int .i64 ((a + j : Nat) : Int)] 2)
      have hM3 : M.length ≤ 3000 := by omega
      have a63 : M.length + [((a + j : Nat) : Int)].length ≤ maxLen := by unfold maxLen; simp only [List.length_cons, List.length_nil]; omega
      have aby : (M.length + [((a + j : Nat) : Int)].length) * 8 ≤ 140737488355328 := by simp only [List.length_cons, List.length_nil]; omega
      have abs := ho1.old.size
      have hrow := ho1.row
      clear hM ho
      go_wp2_with (at_builtin; refine wpList_append_rd _ rfl _ _ 28 rfl w1.heap.size 2 i0 (.int .i64 0) 8 Tryz.underlying28 hi hz0 hz1 hz2 rfl .i64 _ _ _ rfl hrow (some ⟨wr.heap.size, 0, none⟩) [((a + j : Nat) : Int)] 1 _ rfl hBl a63 aby abs ?_; intro v5 w5 o5 g5 hat5)
      have ho5 := ho1.more o5 g5
      rw [HM1.out] at ho5
      clear o5 g5 hat5 hrow hBl ho1
      go_roundw
      case rel => exact ⟨j + 1, by omega, by go_num, ho5⟩
      case measure => simp [intOf]; omega
    · obtain rfl : j = n := by omega
      go_wp2
      go_ret
      exact ⟨_, rfl, ho⟩

set_option maxRecDepth 100000 in
set_option maxHeartbeats 1600000 in
theorem spotsIn_any (t : List (List Ev)) (B : Nat) (D : Option Addr) (d : Nat) (aN : Addr) (w : World) (e0 : trF t = 0) (hB1 : 1 ≤ B) (hd : (filL B t).length ≤ d) (hR : Rd .u8 w w.heap.size D (filL B t)) (hN : w.cell? ⟨0, 0, none⟩ = some (errV aN)) :
    Calls Tryz.prog 30 #[.slice D (filL B t).length d, .int .i64 (filN B t : Nat)] w fun e w' => ∃ v, e = .returned v ∧ OwnI w w.heap.size (spS ((filL B t).length + 1) (filL B t) 2) v w' := by
  have hfew := filL_few hB1 e0
  have hb8 := filL_B8 hB1 e0
  obtain ⟨cs0, last0, hst, h2⟩ := filL_start hB1 e0
  have hsl := spS_len _ _ _ hb8 ⟨cs0, last0, 0, hst⟩ h2
  have hcnt := filL_count (b := B) t
  have hNs : filN B t ≤ 32 := by
    obtain ⟨_, h4, hall⟩ := trF_zero e0
    have h1 := (filF_len hB1 0 t hall).2
    have h2 := sumT_few hall
    omega
  obtain ⟨F, hF⟩ : ∃ F, F = filL B t := ⟨_, rfl⟩
  obtain ⟨N, hNN⟩ : ∃ N, N = filN B t := ⟨_, rfl⟩
  rw [← hF] at hfew hb8 hst h2 hsl hd hR ⊢
  rw [← hF, ← hNN] at hcnt
  rw [← hNN] at hNs
  rw [← hNN]
  have HCN := hide hcnt
  have HST := hide hst
  clear hF hNN e0 hst hcnt
  go_enter Tryz.func30, Tryz.ntmps30
  go_wp2
  go_loopw [5, 6, 11] (fun v x i wr => ∃ (at_ f : Nat) (cs : List (List Ev)) (last : Int) (k : Nat) (L : List Int), x = .int .i64 at_ ∧ i = .int .i64 k ∧ k ≤ N ∧ OwnI w w.heap.size L v wr ∧ F.length + 1 ≤ f + 1 + at_ ∧ at_ ≤ F.length ∧ Hid ((dcS (f + 1) F at_ cs last k).1 = 0) ∧ Hid (spS (F.length + 1) F 2 = L ++ spS (f + 1) F at_)) (fun _ _ i _ => N - (intOf i).toNat)
  case atStart => exact ⟨2, F.length, cs0, last0, 0, [], rfl, rfl, Nat.zero_le _, ⟨World.ownsRow_nil _ _ _ _, Below.refl _ _, Nat.le_refl _⟩, by omega, h2, HST, hide rfl⟩
  case round =>
    obtain ⟨at_, f, cs, last, k, L, rfl, rfl, hk, ho, hfu, hat, HDC, HSP⟩ := hrel
    have hmore := (dcS_more hb8 hat hfu HDC.out HCN.out).2
    have hrl := hR.below ho.old
    have hLl : L.length ≤ F.length := by
      have := congrArg List.length HSP.out
      rw [List.length_append] at this
      omega
    obtain ⟨Av, cv, hv⟩ := ho.shape
    subst hv
    by_cases hkn : k < N
    · have hfr := hmore.2 hkn
      obtain ⟨hH, hle, hft, _, cs', last', h3⟩ := dcS_frame_of hb8 HDC.out hfr
      have HSF := hide (spS_frame (f := f) hfr)
      have HD3 := hide h3
      have HH := hide hH
      have hf1 : ∃ f', f = f' + 1 := ⟨f - 1, by omega⟩
      obtain ⟨f', rfl⟩ := hf1
      have hN2 := cell_kept ho.old hN
      have HPL := hide (stepsPlace_any (F.drop at_) (cutA D at_ d) (d - at_) aN wr (by rw [List.length_drop]; omega) (by rw [List.length_drop]; omega) ((hrl.lt).cut (by omega) hd) (hb8.drop at_) hN2)
      rw [List.length_drop] at HPL
      unfold PlPost at HPL
      have cutA' : ∀ w : World, (Instr.slice 22 (.slice D F.length d) (some (.int .i64 at_)) none none).run Tryz.prog w = .ok (.slice (cutA D at_ d) (F.length - at_) (d - at_)) w := fun w => run_cut D F.length at_ d at_ w rfl (by omega)
      obtain ⟨fr, hfr2⟩ : ∃ x, x = frFrom (F.drop at_) := ⟨_, rfl⟩
      obtain ⟨tz, hto⟩ : ∃ x, x = frTo (F.drop at_) := ⟨_, rfl⟩
      rw [← hfr2, ← hto] at HSF HPL
      rw [← hto] at hle HD3
      rw [← hfr2, ← hto] at hft
      have HN := hide (show spS (F.length + 1) F 2 = (L ++ upI (at_ + fr) (tz + 4 - fr)) ++ spS (f' + 1) F (at_ + tz + 4) by rw [HSP.out, HSF.out, List.append_assoc])
      clear hfr hH h3 hfr2 hto hmore hN2 hrl
      go_wp2_with fail
      refine HPL.out.mono ?_
      rintro e w2 ⟨hor, b2⟩
      rcases hor with ⟨_, rfl⟩ | ⟨hno, _⟩
      case inr => exact absurd HH.out hno
      have ho2 := ho.below b2
      have w1' : IntKind.i64.wrap ((at_ : Int) + (fr : Int)) = ((at_ + fr : Nat) : Int) := by rw [IntKind.wrap_i64]; omega
      have w2' : IntKind.i64.wrap ((tz : Int) - (fr : Int)) = ((tz - fr : Nat) : Int) := by rw [IntKind.wrap_i64]; omega
      have w3' : IntKind.i64.wrap (((tz - fr : Nat) : Int) + 4) = ((tz + 4 - fr : Nat) : Int) := by rw [IntKind.wrap_i64]; omega
      have w4' : IntKind.i64.wrap ((tz : Int) + 4) = ((tz + 4 : Nat) : Int) := by rw [IntKind.wrap_i64]; omega
      have w5' : IntKind.i64.wrap ((at_ : Int) + ((tz + 4 : Nat) : Int)) = ((at_ + tz + 4 : Nat) : Int) := by rw [IntKind.wrap_i64]; omega
      have AP := hide (addPl_any w L (.slice Av L.length cv) (at_ + fr) (tz + 4 - fr) w2 ho2 (by omega) (by omega) (by omega))
      clear HPL ho b2 cutA' ho2 HSP HSF HDC
      go_wp2_with fail
      refine AP.out.mono ?_
      rintro e w3 ⟨v3, rfl, ho3⟩
      clear AP
      go_wp2
      go_roundw
      case rel => exact ⟨at_ + tz + 4, f', cs', last', k + 1, _, rfl, by go_num, by omega, ho3, by omega, by omega, HD3, HN⟩
      case measure => simp [intOf]; omega
    · obtain rfl : k = N := by omega
      have hno : ¬ (at_ < F.length ∧ (F.drop at_).getD 0 0 = 66) := fun h => hkn (hmore.1 h)
      have hend := (dcS_end_of HDC.out hno).1
      have HSE := hide (spS_end (f := f) hno)
      have HN := hide (show spS (F.length + 1) F 2 = L ++ upI (at_ + 3) 4 by rw [HSP.out, HSE.out, show F.length - (at_ + 3) = 4 by omega])
      have AP := hide (addPl_any w L (.slice Av L.length cv) (at_ + 3) 4 wr ho (by omega) (by omega) (by omega))
      have w1' : IntKind.i64.wrap ((F.length : Int) - 4) = ((at_ + 3 : Nat) : Int) := by rw [IntKind.wrap_i64]; omega
      have w2' : ((4 : Nat) : Int) = 4 := rfl
      rw [w2'] at AP
      clear hno hmore HSP HSE HDC ho hrl
      go_wp2_with fail
      refine AP.out.mono ?_
      rintro e w3 ⟨v3, rfl, ho3⟩
      go_wp2
      go_ret
      rw [HN.out]
      exact ⟨_, rfl, ho3⟩
end Go.Proofs.YtldepledinolmaaGreatDoor
namespace Go.Proofs.YtldepledinolmaaGreatDoor
open Go.RowKit

theorem field_intv (a b : Int) (W : World) : (Instr.field 63 (.agg #[.int .i64 a, .int .i64 b]) 1).run Tryz.prog W = .ok (.int .i64 b) W := by kernel_rfl
theorem fcN_ok {t : List (List Ev)} {b : Int} (h : fcC t b = 0) : fcN t b = (filN b.toNat t : Nat) := if_pos h

set_option maxRecDepth 100000 in
set_option maxHeartbeats 1600000 in
theorem implSpo_any (t : List (List Ev)) (b : Int) (A : Option Addr) (c : Nat) (aN : Addr) (w : World) (hm : t.length ≤ maxLen) (h : RdT w w.heap.size A t) (hT : Tab w) (hN : w.cell? ⟨0, 0, none⟩ = some (errV aN)) :
    Calls Tryz.prog 8 #[.slice A t.length c, .int .i64 b] w (SpoPost t b w) := by
  unfold SpoPost
  obtain ⟨W, hW⟩ : ∃ W, W = w.alloc (Obj.cells #[.int .i64 0, .slice none 0 0] 30) := ⟨_, rfl⟩
  have B0 : Below w.heap.size w W := by rw [hW]; exact (Below.refl _ _).alloc (Nat.le_refl _) _
  have hR := (h.below B0).lt
  have EN := hide (implEnc_any t b A c W hm hR (hT.below B0))
  have HW := hide hW
  have hzW := W_size hW
  clear hW
  by_cases h0 : fcC t b = 0
  · obtain ⟨e0, e1, e2⟩ := fcC_zero h0
    rw [fcB_ok h0, h0] at EN
    rw [spL_ok h0, h0]
    have hfn := fcN_ok h0
    have hb1 : 1 ≤ b.toNat := by omega
    have hfew := filL_few hb1 e0
    have FI := hide (fun V (hV : RdT V V.heap.size A t) => implFin_any t b A c V hm hV)
    rw [h0, hfn] at FI
    have SI := hide (fun V D d hd hr hn => spotsIn_any t b.toNat D d aN V e0 hb1 hd hr hn)
    obtain ⟨F, hF⟩ : ∃ F, F = filL b.toNat t := ⟨_, rfl⟩
    obtain ⟨N, hNN⟩ : ∃ N, N = filN b.toNat t := ⟨_, rfl⟩
    rw [← hF] at EN hfew SI ⊢
    rw [← hNN] at SI FI
    obtain ⟨L, hL⟩ : ∃ L, L = spS (F.length + 1) F 2 := ⟨_, rfl⟩
    rw [← hL] at SI ⊢
    have hf1 := field_intv 0 (N : Int)
    clear hL hF hNN e0 e1 e2 h0 hfn
    go_enter Tryz.func8, Tryz.ntmps8
    go_wp2_with fail
    rw [← HW.out]
    refine EN.out.mono ?_
    rintro e w1 ⟨D, d, rfl, o1, b1⟩
    have hcap := own_capE o1
    have hr1 := Rd.of_own (k := .u8) o1
    have bA := (Below.refl w1.heap.size w1).alloc (Nat.le_refl _) (Obj.cells #[.int .i64 0, .slice D F.length d] 35)
    have kp := Bk.new w1 #[.int .i64 0, .slice D F.length d] 35
    have hrV := (hr1.below bA).lt
    have b0 := b1.trans (bA.mono b1.size)
    have zb := b1.size
    go_upto_region 2 with fail
    generalize w1.alloc (Obj.cells #[.int .i64 0, .slice D F.length d] 35) = V at *
    obtain ⟨G, hG⟩ : ∃ G, G = w1.heap.size := ⟨_, rfl⟩
    rw [← hG] at kp zb ⊢
    have q0 := (kp.cell 0).trans (rfl : _ = some (Value.int .i64 0))
    have q1 := (kp.cell 1).trans (rfl : _ = some (Value.slice D F.length d))
    have hN3 := cell_kept (B0.trans (b0.mono B0.size)) hN
    have hRV := (hR.below b0).lt
    replace FI := hide (fun V' (hV : Below V.heap.size V V') => FI.out V' (hRV.below hV).lt)
    replace SI := hide (fun V' (hV : Below V.heap.size V V') => SI.out V' D d hcap.1 (hrV.below hV).lt (cell_kept hV hN3))
    clear hG o1 hr1 bA b1 EN hrV hRV hN3
    go_upto_region 4 with fail
    refine wp_region_F 8 (fun w' => Bk w' G #[.int .i64 0, .slice D F.length d] 35 ∧ w'.cell? ⟨G, 1, none⟩ = some (Value.slice D F.length d)) (fun w' => Below V.heap.size V w') (by kernel_rfl) ⟨⟨kp.drewN 1, q1⟩, (Below.refl _ _).drew⟩ (fun hHeld => ?_)
    try simp only [Act.put, List.setIfInBounds_toArray, List.set_cons_zero, List.set_cons_succ]
    refine wpAnyF_take (i := 0) (v := ?_) (by (simp only [List.getElem?_toArray, List.getElem?_cons_zero]; rfl)) (by kernel_rfl) (by kernel_rfl) (by kernel_rfl) (by decide) (by exact fun _ _ _ h => h) ⟨hHeld.1, .inr hHeld.2⟩ (Or.inl ⟨by rfl, ?_⟩) ?_
    rotate_left
    · (intro w' _; go_simp <;> with_reducible rfl)
    try simp only [Act.put, List.setIfInBounds_toArray, List.set_cons_zero, List.set_cons_succ]
    refine wpAnyF_keep (i := 1) (v := ?_) (by (simp only [List.getElem?_toArray, List.getElem?_cons_succ, List.getElem?_cons_zero]; rfl)) (by kernel_rfl) (by kernel_rfl) (by kernel_rfl) (by decide) (by exact fun _ _ _ h => h) ⟨hHeld.1, .inr hHeld.2⟩ (Or.inl ⟨by rfl, ?_⟩) ?_
    rotate_left
    · (intro w' hSw; (try dsimp only at hSw); obtain ⟨hSa0, hSa1⟩ := hSw; go_simp <;> with_reducible rfl)
    try simp only [Act.put, List.setIfInBounds_toArray, List.set_cons_zero, List.set_cons_succ]
    refine wpAnyF_take (i := 2) (v := ?_) (by (simp only [List.getElem?_toArray, List.getElem?_cons_succ, List.getElem?_cons_zero]; rfl)) (by kernel_rfl) (by kernel_rfl) (by kernel_rfl) (by decide) (by exact fun _ _ _ h => h) ⟨hHeld.1, .inr hHeld.2⟩ (Or.inl ⟨by rfl, ?_⟩) ?_
    rotate_left
    · (intro w' _; go_simp <;> with_reducible rfl)
    try simp only [Act.put, List.setIfInBounds_toArray, List.set_cons_zero, List.set_cons_succ]
    refine wpAnyF_take (i := 3) (v := ?_) (by (simp only [List.getElem?_toArray, List.getElem?_cons_succ, List.getElem?_cons_zero]; rfl)) (by kernel_rfl) (by kernel_rfl) (by kernel_rfl) (by decide) (by exact fun _ _ _ h => h) ⟨hHeld.1, .inr hHeld.2⟩ (Or.inl ⟨by rfl, ?_⟩) ?_
    rotate_left
    · (intro w' _; go_simp <;> with_reducible rfl)
    try simp only [Act.put, List.setIfInBounds_toArray, List.set_cons_zero, List.set_cons_succ]
    refine wpAnyF_ready (rs := [4]) (by kernel_rfl) (by simp) ?_
    refine AllReadyF.cons (by (simp only [List.getElem?_toArray, List.getElem?_cons_succ, List.getElem?_cons_zero]; rfl)) (fun K hK => ?_) AllReadyF.nil
    go_simp
    go_at_call 31
    refine (FI.out _ hHeld.2).mono ?_
    rintro e wa ⟨rfl, ba⟩
    refine hK.out _ _ ⟨⟨hHeld.1.1.kept ba, ((hHeld.1.1.kept ba).cell 1).trans rfl⟩, hHeld.2.trans (ba.mono hHeld.2.size)⟩ (fun hNew => ?_)
    clear hK K hHeld
    have hHeld := hNew
    clear hNew
    try simp only [Act.put, List.setIfInBounds_toArray, List.set_cons_zero, List.set_cons_succ]
    refine wpAnyF_take (i := 5) (v := ?_) (by (simp only [List.getElem?_toArray, List.getElem?_cons_succ, List.getElem?_cons_zero]; rfl)) (by kernel_rfl) (by kernel_rfl) (by kernel_rfl) (by decide) (by exact fun _ _ _ h => h) ⟨hHeld.1, .inr hHeld.2⟩ (Or.inl ⟨by rfl, ?_⟩) ?_
    rotate_left
    · (intro w' _; go_simp <;> with_reducible rfl)
    try simp only [Act.put, List.setIfInBounds_toArray, List.set_cons_zero, List.set_cons_succ]
    refine wpAnyF_ready (rs := [6]) (by kernel_rfl) (by simp) ?_
    refine AllReadyF.cons (by (simp only [List.getElem?_toArray, List.getElem?_cons_succ, List.getElem?_cons_zero]; rfl)) (fun K hK => ?_) AllReadyF.nil
    go_simp
    go_at_call 30
    refine (SI.out _ hHeld.2).mono ?_
    rintro e wb ⟨v, rfl, oi⟩
    have bb := oi.old
    have HO := hide oi
    obtain ⟨E, ec, hv⟩ := oi.shape
    subst hv
    clear oi
    refine hK.out _ _ ⟨⟨hHeld.1.1.kept bb, ((hHeld.1.1.kept bb).cell 1).trans rfl⟩, hHeld.2.trans (bb.mono hHeld.2.size)⟩ (fun hNew => ?_)
    clear hK K hHeld
    have hHeld := hNew
    clear hNew
    try simp only [Act.put, List.setIfInBounds_toArray, List.set_cons_zero, List.set_cons_succ]
    refine wpAnyF_take (i := 7) (v := ?_) (by (simp only [List.getElem?_toArray, List.getElem?_cons_succ, List.getElem?_cons_zero]; rfl)) (by kernel_rfl) (by kernel_rfl) (by kernel_rfl) (by decide) (by exact fun _ _ _ h => h) ⟨hHeld.1, .inr hHeld.2⟩ (Or.inl ⟨by rfl, ?_⟩) ?_
    rotate_left
    · (intro w' _; go_simp <;> with_reducible rfl)
    try simp only [Act.put, List.setIfInBounds_toArray, List.set_cons_zero, List.set_cons_succ]
    refine wpAnyF_ready (rs := [8]) (by kernel_rfl) (by simp) ?_
    refine AllReadyF.last (by (simp only [List.getElem?_toArray, List.getElem?_cons_succ, List.getElem?_cons_zero]; rfl)) (by kernel_rfl) (fun K hK => ?_) AllReadyF.nil
    have hB3 := b0.trans (hHeld.2.mono b0.size)
    have q0' := W_cell HW.out hB3 0
    have q1' := W_cell HW.out hB3 1
    have f0' := W_frozen HW.out hB3 0
    have f1' := W_frozen HW.out hB3 1
    simp at q0' q1'
    have HB3 := hide hB3
    have HK3 := hide hHeld.1.1
    go_simp
    refine hK.out _ _ ⟨(HK3.out.far (p := ⟨w.heap.size, 0, none⟩) (by simp only; omega) _).far (p := ⟨w.heap.size, 1, none⟩) (by simp only; omega) _, (((HK3.out.far (p := ⟨w.heap.size, 0, none⟩) (by simp only; omega) (.int .i64 0)).far (p := ⟨w.heap.size, 1, none⟩) (by simp only; omega) (.slice E L.length ec)).cell 1).trans rfl⟩ ?_
    clear hK K
    try simp only [Act.put, List.setIfInBounds_toArray, List.set_cons_zero, List.set_cons_succ]
    refine wpAnyF_done (by kernel_rfl) ?_ _
    clear hHeld q0' q1' f0' f1' FI SI hf1
    have q0 := W_cell HW.out HB3.out 0
    have q1 := W_cell HW.out HB3.out 1
    simp at q0 q1
    have ho := own_mono (base' := w.heap.size + 1) HO.out.row (by have h1 := ba.size; have h2 : V.drew.heap.size = V.heap.size := rfl; have h3 := b0.size; omega)
    have O1 := hide ((ho.kept (grown_set wb w.heap.size 0 (.int .i64 0)) (own_sep fun z hz e => by have := (ho.lt z hz).1; simp only [Option.some.injEq] at e; omega)).kept (grown_set _ w.heap.size 1 (.slice E L.length ec)) (own_sep fun z hz e => by have := (ho.lt z hz).1; simp only [Option.some.injEq] at e; omega))
    have HB := hide (((W_below HW.out HB3.out).setCell (p := ⟨w.heap.size, 0, none⟩) (Nat.le_refl _) (.int .i64 0)).setCell (p := ⟨w.heap.size, 1, none⟩) (Nat.le_refl _) (.slice E L.length ec))
    clear ho
    go_wp2
    refine bodyPost_ret (v := .agg #[.int .i64 0, .slice E L.length ec]) (by simp [results, Tryz.results8, go_sem, q0, q1]) rfl ?_
    exact ⟨E, ec, rfl, own_mono O1.out (by omega), HB.out⟩
  · rw [spL_no h0]
    obtain ⟨C, hC⟩ : ∃ C, C = fcC t b := ⟨_, rfl⟩
    rw [← hC] at EN h0 ⊢
    have g0 : (C != 0) = true := bne_iff_ne.2 h0
    have g1 : (C == 0) = false := beq_eq_false_iff_ne.2 h0
    generalize fcB t b = F at *
    clear hC h0
    go_enter Tryz.func8, Tryz.ntmps8
    go_wp2_with fail
    rw [← HW.out]
    refine EN.out.mono ?_
    rintro e w1 ⟨D, d, rfl, o1, b1⟩
    have bA := b1.alloc b1.size (Obj.cells #[.int .i64 C, .slice D F.length d] 35)
    have kp := Bk.new w1 #[.int .i64 C, .slice D F.length d] 35
    have p0 := (kp.cell 0).trans (rfl : _ = some (Value.int .i64 C))
    have q0 := W_cell HW.out bA 0
    have q1 := W_cell HW.out bA 1
    have f0 := W_frozen HW.out bA 0
    have f1 := W_frozen HW.out bA 1
    simp at q0 q1
    go_wp2
    refine bodyPost_ret (v := .agg #[.int .i64 C, .slice none 0 0]) (by simp [results, Tryz.results8, go_sem, q0, q1]) rfl ?_
    exact ⟨none, 0, rfl, World.ownsRow_nil _ _ _ _, ((W_below HW.out bA).setCell (Nat.le_refl _) _).setCell (Nat.le_refl _) _⟩
end Go.Proofs.YtldepledinolmaaGreatDoor
namespace Go.Proofs.YtldepledinolmaaGreatDoor
open Go.RowKit

theorem spS_lt : ∀ (f : Nat) (file : List Int) (at_ : Nat), B8 file → (∃ cs last n, (dcS f file at_ cs last n).1 = 0) → at_ ≤ file.length → ∀ x ∈ spS f file at_, x < (file.length : Int)
  | 0, file, at_, _, _, _, x, h => by simp [spS] at h
  | f + 1, file, at_, b, ⟨cs, last, n, h0⟩, hat, x, hx => by
    by_cases h : at_ < file.length ∧ (file.drop at_).getD 0 0 = 66
    · obtain ⟨a1, a2, a3, a4, cs', last', h3⟩ := dcS_frame_of b h0 h
      rw [spS_frame h] at hx
      rcases List.mem_append.1 hx with hx | hx
      · obtain ⟨k, rfl, k1, k2⟩ := upI_mem.1 hx
        omega
      · exact spS_lt f file _ b ⟨_, _, _, h3⟩ a2 x hx
    · have he := (dcS_end_of h0 h).1
      rw [spS_end h] at hx
      obtain ⟨k, rfl, k1, k2⟩ := upI_mem.1 hx
      omega
/-- IsCaught. -/
noncomputable def cauB (t : List (List Ev)) (b p q : Int) : Bool := decide (p ∈ spL t b) && decide (0 ≤ q ∧ q ≤ 7)
theorem spot_bad {t : List (List Ev)} {b p q : Int} (h : fcC t b = 0) (hp : p ∈ spL t b) (hq : 0 ≤ q ∧ q ≤ 7) : tbOk (filL b.toNat t).length p q ∧ ¬ (dc (tbL (filL b.toNat t) p q)).1 = 0 := by
  obtain ⟨e0, e1, e2⟩ := fcC_zero h
  have hb1 : 1 ≤ b.toNat := by omega
  have hb8 := filL_B8 hb1 e0
  have hdc : (dc (filL b.toNat t)).1 = 0 := by rw [dc_back e0 hb1]
  obtain ⟨cs, last, hst, h2⟩ := filL_start hb1 e0
  rw [spL_ok h] at hp
  have hlt := spS_lt _ _ _ hb8 ⟨cs, last, 0, hst⟩ h2 p hp
  have hge := spS_ge _ _ _ _ hp
  generalize filL b.toNat t = F at *
  have hk : tbOk F.length p q := ⟨⟨by omega, by omega⟩, hq⟩
  have hi := tb_at hk
  have hx := hb8.get _ hi
  have hy := tbY_ne hx.1 hx.2 hq.1 hq.2
  have hpi : ((p.toNat : Nat) : Int) = p := by omega
  refine ⟨hk, ?_⟩
  unfold tbL
  rw [tb_get hk]
  exact turn_bad hb8 hdc hi hy.1 hy.2.1 hy.2.2 (by rw [hpi]; exact hp)
theorem cau_no_code {t : List (List Ev)} {b p q : Int} (h : ¬ fcC t b = 0) : cauB t b p q = false := by
  unfold cauB
  rw [spL_no h]
  simp
theorem cau_no_spot {t : List (List Ev)} {b p q : Int} (h : ¬ p ∈ spL t b) : cauB t b p q = false := by
  unfold cauB
  rw [decide_eq_false h]
  rfl
theorem cau_no_bit {t : List (List Ev)} {b p q : Int} (h : ¬ (0 ≤ q ∧ q ≤ 7)) : cauB t b p q = false := by
  unfold cauB
  rw [decide_eq_false h]
  simp
theorem cau_yes {t : List (List Ev)} {b p q : Int} (h : p ∈ spL t b) (h2 : 0 ≤ q ∧ q ≤ 7) : cauB t b p q = true := by
  unfold cauB
  rw [decide_eq_true h, decide_eq_true h2]
  rfl
end Go.Proofs.YtldepledinolmaaGreatDoor
namespace Go.Proofs.YtldepledinolmaaGreatDoor
open Go.RowKit

set_option maxRecDepth 100000 in
set_option maxHeartbeats 800000 in
theorem indexN_any (l : List Int) (x : Int) (A : Option Addr) (c : Nat) (w : World) (hm : l.length ≤ 1000000) (h : Rd .i64 w w.heap.size A l) :
    Calls Tryz.prog 80 #[.slice A l.length c, .int .i64 x] w fun e w' => (∃ r : Int, e = .returned (.int .i64 r) ∧ (0 ≤ r ↔ x ∈ l)) ∧ w = w' := by
  go_enter Tryz.func80, Tryz.ntmps80
  go_wp2
  go_loop [8] (fun i => ∃ k : Nat, k ≤ l.length ∧ i = .int .i64 k ∧ Hid (∀ j (hj : j < l.length), j < k → l[j] ≠ x)) (fun i => l.length - (intOf i).toNat)
  case atStart => exact ⟨0, Nat.zero_le _, rfl, hide fun j _ hj => absurd hj (Nat.not_lt_zero j)⟩
  case round =>
    obtain ⟨k, hk, rfl, HN⟩ := hrel
    by_cases hlt : k < l.length
    · obtain ⟨b, off, rfl, hbb, hc⟩ := h.get hlt
      have HM := hide (List.getElem_mem hlt)
      have HNX := hide (fun (hne : l[k] ≠ x) => (fun j hj h1 => by
        by_cases hjk : j = k
        · subst hjk; exact hne
        · exact HN.out j hj (by omega) : ∀ j (hj : j < l.length), j < k + 1 → l[j] ≠ x))
      obtain ⟨y, hy⟩ : ∃ y, y = l[k] := ⟨_, rfl⟩
      rw [← hy] at hc HM HNX
      clear hy
      by_cases he : x = y
      · have HE := hide (show x ∈ l by rw [he]; exact HM.out)
        have g0 : (x == y) = true := beq_iff_eq.2 he
        clear he HM HNX
        go_wp2
        go_ret
        exact ⟨⟨(k : Int), rfl, ⟨fun _ => HE.out, fun _ => by omega⟩⟩, rfl⟩
      · have HE := hide (HNX.out fun h => he h.symm)
        have g0 : (x == y) = false := beq_eq_false_iff_ne.2 he
        clear he HM HNX
        go_wp2
        go_round
        case rel => exact ⟨k + 1, by omega, by go_num, HE⟩
        case measure => simp [intOf]; omega
    · obtain rfl : k = l.length := by omega
      have HE := hide (show ¬ x ∈ l from fun hx => by
        obtain ⟨j, hj, e⟩ := List.getElem_of_mem hx
        exact HN.out j hj hj e)
      go_wp2
      go_ret
      exact ⟨⟨-1, rfl, ⟨fun h => by omega, fun h => absurd h HE.out⟩⟩, rfl⟩

set_option maxRecDepth 100000 in
theorem containsN_any (l : List Int) (x : Int) (A : Option Addr) (c : Nat) (w : World) (hm : l.length ≤ 1000000) (h : Rd .i64 w w.heap.size A l) :
    Calls Tryz.prog 54 #[.slice A l.length c, .int .i64 x] w fun e w' => e = .returned (.bool (decide (x ∈ l))) ∧ w = w' := by
  go_enter Tryz.func54, Tryz.ntmps54
  go_wp2_with fail
  refine (indexN_any l x A c w hm h).mono ?_
  rintro e w' ⟨⟨r, rfl, hr⟩, rfl⟩
  by_cases hx : x ∈ l
  · have h0 := hr.2 hx
    have HX := hide hx
    clear hr hx
    go_wp2
    go_ret
    exact ⟨ret_bool (by rw [decide_eq_true HX.out]), rfl⟩
  · have h0 : r < 0 := by
      by_cases h : 0 ≤ r
      · exact absurd (hr.1 h) hx
      · omega
    have HX := hide hx
    clear hr hx
    go_wp2
    go_ret
    exact ⟨ret_bool (by rw [decide_eq_false HX.out]; simp; omega), rfl⟩

section
variable {F S : List Int} {D E : Option Addr} {d ec : Nat} {p q : Int}
set_option maxRecDepth 100000 in
theorem atSpot_any (w : World) (hm : S.length ≤ 1000000) (h : Rd .i64 w w.heap.size E S) :
    Calls Tryz.prog 27 #[.agg #[.slice D F.length d, .slice E S.length ec, .int .i64 p, .int .i64 q]] w fun e w' => e = .returned (.bool (decide (p ∈ S))) ∧ Below w.heap.size w w' := by
  have kp := Bk.new w #[Value.slice D F.length d, .slice E S.length ec, .int .i64 p, .int .i64 q] 57
  have bA := (Below.refl w.heap.size w).alloc (Nat.le_refl _) (Obj.cells #[Value.slice D F.length d, .slice E S.length ec, .int .i64 p, .int .i64 q] 57)
  have q1 := (kp.cell 1).trans (rfl : _ = some (Value.slice E S.length ec))
  have q2 := (kp.cell 2).trans (rfl : _ = some (Value.int .i64 p))
  go_enter Tryz.func27, Tryz.ntmps27
  go_wp2_with fail
  refine (containsN_any S p E ec _ hm (h.below bA).lt).mono ?_
  rintro e w' ⟨rfl, rfl⟩
  go_wp2
  go_ret
  exact ⟨rfl, bA⟩
set_option maxRecDepth 100000 in
theorem ofByte_any (w : World) :
    Calls Tryz.prog 28 #[.agg #[.slice D F.length d, .slice E S.length ec, .int .i64 p, .int .i64 q]] w fun e w' => e = .returned (.bool (decide (0 ≤ q ∧ q ≤ 7))) ∧ Below w.heap.size w w' := by
  have kp := Bk.new w #[Value.slice D F.length d, .slice E S.length ec, .int .i64 p, .int .i64 q] 57
  have bA := ((Below.refl w.heap.size w).alloc (Nat.le_refl _) (Obj.cells #[Value.slice D F.length d, .slice E S.length ec, .int .i64 p, .int .i64 q] 57)).alloc (by simp) (Obj.cells #[.int .i64 q] 2)
  have q3 := (kp.cell 3).trans (rfl : _ = some (Value.int .i64 q))
  by_cases hq : 0 ≤ q ∧ q ≤ 7
  · rw [decide_eq_true hq]
    go_enter Tryz.func28, Tryz.ntmps28
    go_wp2_with fail
    refine (allWithin_one _ _ _ _ _ _ (by simp [go_sem]) hq).mono ?_
    rintro e w' ⟨rfl, rfl⟩
    go_wp2
    go_ret
    exact ⟨rfl, bA⟩
  · rw [decide_eq_false hq]
    have hq2 : q < 0 ∨ 7 < q := by omega
    go_enter Tryz.func28, Tryz.ntmps28
    go_wp2_with fail
    refine (allWithin_not _ _ _ _ _ _ (by simp [go_sem]) hq2).mono ?_
    rintro e w' ⟨rfl, rfl⟩
    go_wp2
    go_ret
    exact ⟨rfl, bA⟩
set_option maxRecDepth 100000 in
theorem foundOut_any (aN aS aE : Addr) (w : World) (hl : F.length ≤ 1000) (b8 : B8 F) (hk : tbOk F.length p q) (hbad : ¬ (dc (tbL F p q)).1 = 0) (h : Rd .u8 w w.heap.size D F) (hT : Tab w) (hS : Sent aN aS aE w) :
    Calls Tryz.prog 29 #[.agg #[.slice D F.length d, .slice E S.length ec, .int .i64 p, .int .i64 q]] w fun e w' => e = .returned (.bool true) ∧ Below w.heap.size w w' := by
  have kp := Bk.new w #[Value.slice D F.length d, .slice E S.length ec, .int .i64 p, .int .i64 q] 57
  have bA := (Below.refl w.heap.size w).alloc (Nat.le_refl _) (Obj.cells #[Value.slice D F.length d, .slice E S.length ec, .int .i64 p, .int .i64 q] 57)
  have q0 := (kp.cell 0).trans (rfl : _ = some (Value.slice D F.length d))
  have q2 := (kp.cell 2).trans (rfl : _ = some (Value.int .i64 p))
  have q3 := (kp.cell 3).trans (rfl : _ = some (Value.int .i64 q))
  have TB := hide (fun V hV => implTb_any F p q D d V (by omega) hV)
  unfold TbPost at TB
  rw [tb_ok (by omega) hk, tbB_ok (by omega) hk] at TB
  have hb8 := tbL_B8 b8 hk
  have hlen := tbL_len F p q
  obtain ⟨L, hL⟩ : ∃ L, L = tbL F p q := ⟨_, rfl⟩
  rw [← hL] at TB hb8 hlen hbad
  have g0 : ((dc L).1 == 0) = false := beq_eq_false_iff_ne.2 hbad
  have CB := hide (fun V Z z hz hr hT hS => canBe_any L Z z aN aS aE V (by omega) hz hr hb8 hT hS)
  rw [g0] at CB
  simp only [hlen] at CB TB
  have hfb := fun D n d W => field_bytes 0 D n d W
  clear hL hbad g0 hk hb8
  go_enter Tryz.func29, Tryz.ntmps29
  go_wp2_with fail
  refine (TB.out _ ((h.below bA).lt)).mono ?_
  rintro e w1 ⟨Z, z, rfl, o1, b1⟩
  have b2 := bA.trans (b1.mono bA.size)
  have hz := (own_capE o1).1
  go_wp2_with fail
  refine (CB.out w1 Z z hz (Rd.of_own o1) (hT.below b2) (hS.below b2)).mono ?_
  rintro e w3 ⟨rfl, b3⟩
  go_wp2
  go_ret
  exact ⟨rfl, b2.trans (b3.mono b2.size)⟩
end
theorem four_facts {w : World} {g G base m B : Nat} {c0 c1 : Array Value} {T U e : TypeId} {size : Nat} {v : Value} {xs : List Value} {V : World} (k : Bk w g c0 T) (kG : Bk w G c1 U) (os : w.ownsRow base e size v m xs) (hG : G ≠ g) (hs : ∀ z, v.ownBlock = some z → z ≠ g) (bV : Below B V w) (hB : B ≤ g) (x0 x1 x2 x3 : Value) :
    Bk ((((w.setCell ⟨g, 0, none⟩ x0).setCell ⟨g, 1, none⟩ x1).setCell ⟨g, 2, none⟩ x2).setCell ⟨g, 3, none⟩ x3) g ((((c0.setIfInBounds 0 x0).setIfInBounds 1 x1).setIfInBounds 2 x2).setIfInBounds 3 x3) T ∧ Bk ((((w.setCell ⟨g, 0, none⟩ x0).setCell ⟨g, 1, none⟩ x1).setCell ⟨g, 2, none⟩ x2).setCell ⟨g, 3, none⟩ x3) G c1 U ∧ ((((w.setCell ⟨g, 0, none⟩ x0).setCell ⟨g, 1, none⟩ x1).setCell ⟨g, 2, none⟩ x2).setCell ⟨g, 3, none⟩ x3).ownsRow base e size v m xs ∧ Below B V ((((w.setCell ⟨g, 0, none⟩ x0).setCell ⟨g, 1, none⟩ x1).setCell ⟨g, 2, none⟩ x2).setCell ⟨g, 3, none⟩ x3) := by
  have sep : ∀ z, v.ownBlock = some z → some g ≠ some z := fun z hz e => hs z hz (by injection e with e; exact e.symm)
  refine ⟨(((k.set_ 0 x0).set_ 1 x1).set_ 2 x2).set_ 3 x3, (((kG.far (p := ⟨g, 0, none⟩) hG x0).far (p := ⟨g, 1, none⟩) hG x1).far (p := ⟨g, 2, none⟩) hG x2).far (p := ⟨g, 3, none⟩) hG x3, ?_, (((bV.setCell (p := ⟨g, 0, none⟩) hB x0).setCell (p := ⟨g, 1, none⟩) hB x1).setCell (p := ⟨g, 2, none⟩) hB x2).setCell (p := ⟨g, 3, none⟩) hB x3⟩
  exact (((os.kept (grown_set _ g 0 x0) (own_sep sep)).kept (grown_set _ g 1 x1) (own_sep sep)).kept (grown_set _ g 2 x2) (own_sep sep)).kept (grown_set _ g 3 x3) (own_sep sep)
theorem field_ints1 (a : Int) (D : Option Addr) (n d : Nat) (W : World) : (Instr.field 30 (.agg #[.int .i64 a, .slice D n d]) 1).run Tryz.prog W = .ok (.slice D n d) W := by kernel_rfl

set_option maxRecDepth 100000 in
set_option maxHeartbeats 3200000 in
theorem implCau_any (t : List (List Ev)) (b p q : Int) (A : Option Addr) (c : Nat) (aN aS aE : Addr) (w : World) (hm : t.length ≤ maxLen) (h : RdT w w.heap.size A t) (hT : Tab w) (hS : Sent aN aS aE w) :
    Calls Tryz.prog 7 #[.slice A t.length c, .int .i64 b, .int .i64 p, .int .i64 q] w fun e w' => e = .returned (.bool (cauB t b p q)) ∧ Below w.heap.size w w' := by
  have EN := hide (implEnc_any t b A c w hm h hT)
  by_cases h0 : fcC t b = 0
  · obtain ⟨e0, e1, e2⟩ := fcC_zero h0
    have SI := hide (fun V (hV : Below w.heap.size w V) => implSpo_any t b A c aN V hm (h.below hV).lt (hT.below hV) (hS.below hV).vN)
    unfold SpoPost at SI
    rw [fcB_ok h0, h0] at EN
    rw [h0] at SI
    have hb1 : 1 ≤ b.toNat := by omega
    have hfew := filL_few hb1 e0
    have hb8 := filL_B8 hb1 e0
    have hslen : (spL t b).length ≤ 1000000 := by
      rw [spL_ok h0]
      obtain ⟨cs, last, hst, h2⟩ := filL_start hb1 e0
      have := spS_len _ _ _ hb8 ⟨cs, last, 0, hst⟩ h2
      omega
    have HBAD := hide (fun hp hq => spot_bad (q := q) h0 (p := p) hp hq)
    have HNS := hide (fun hp => cau_no_spot (b := b) (t := t) (p := p) (q := q) hp)
    have HYS := hide (fun hp hq => cau_yes (b := b) (t := t) (p := p) (q := q) hp hq)
    have HNB := hide (fun hq => cau_no_bit (b := b) (t := t) (p := p) (q := q) hq)
    obtain ⟨F, hF⟩ : ∃ F, F = filL b.toNat t := ⟨_, rfl⟩
    obtain ⟨S, hSS⟩ : ∃ S, S = spL t b := ⟨_, rfl⟩
    rw [← hF] at EN hfew hb8 HBAD
    rw [← hSS] at SI hslen HBAD HNS HYS
    have HT := hide hT
    have HS := hide hS
    have HB8 := hide hb8
    have hf1 := fun D n d W => field_ints1 0 D n d W
    clear hSS hF e0 e1 e2 h0 hT hS hb8
    go_enter Tryz.func7, Tryz.ntmps7
    go_wp2_with fail
    refine EN.out.mono ?_
    rintro e w1 ⟨D, d, rfl, o1, b1⟩
    have hr1 := Rd.of_own (k := .u8) o1
    have bA := (Below.refl w1.heap.size w1).alloc (Nat.le_refl _) (Obj.cells #[.int .i64 0, .slice D F.length d] 35)
    have kp := Bk.new w1 #[.int .i64 0, .slice D F.length d] 35
    have hrV := (hr1.below bA).lt
    have b0 := b1.trans (bA.mono b1.size)
    have zb := b1.size
    have zA : w1.heap.size < (w1.alloc (Obj.cells #[.int .i64 0, .slice D F.length d] 35)).heap.size := by rw [World.size_alloc]; omega
    go_upto_region 2 with fail
    generalize w1.alloc (Obj.cells #[.int .i64 0, .slice D F.length d] 35) = V at *
    obtain ⟨G, hG⟩ : ∃ G, G = w1.heap.size := ⟨_, rfl⟩
    rw [← hG] at kp zb zA ⊢
    have q0 := (kp.cell 0).trans (rfl : _ = some (Value.int .i64 0))
    have q1 := (kp.cell 1).trans (rfl : _ = some (Value.slice D F.length d))
    have SI0 := SI
    clear SI
    have SI := hide (fun V' (hV : Below V.heap.size V V') => SI0.out V' (b0.trans (hV.mono b0.size)))
    clear hG o1 hr1 bA b1 EN SI0
    go_upto_region 4 with fail
    refine wp_region_F 99 (fun w' => w'.cell? ⟨G, 1, none⟩ = some (Value.slice D F.length d) ∧ Below V.heap.size V w') (fun w' => True) (by kernel_rfl) ⟨⟨q1, (Below.refl _ _).drew⟩, trivial⟩ (fun hHeld => ?_)
    try simp only [Act.put, List.setIfInBounds_toArray, List.set_cons_zero, List.set_cons_succ]
    have kG := kp.drewN 1
    have bV := (Below.refl V.heap.size V).drew
    change Bk V.drew _ _ _ at kG
    have zV : V.heap.size ≤ V.drew.heap.size := Nat.le_refl _
    generalize V.drew = Z at *
    refine wpAnyF_take (i := 0) (v := ?_) (by (simp only [List.getElem?_toArray, List.getElem?_cons_zero]; rfl)) (by kernel_rfl) (by kernel_rfl) (by kernel_rfl) (by decide) (by exact fun _ _ _ h => h) ⟨hHeld.1, .inr hHeld.2⟩ (Or.inl ⟨by rfl, ?_⟩) ?_
    rotate_left
    · (intro w' _; go_simp <;> with_reducible rfl)
    try simp only [Act.put, List.setIfInBounds_toArray, List.set_cons_zero, List.set_cons_succ]
    refine wpAnyF_keep (i := 1) (v := ?_) (by (simp only [List.getElem?_toArray, List.getElem?_cons_succ, List.getElem?_cons_zero]; rfl)) (by kernel_rfl) (by kernel_rfl) (by kernel_rfl) (by decide) (by exact fun _ _ _ h => h) ⟨hHeld.1, .inr hHeld.2⟩ (Or.inl ⟨by rfl, ?_⟩) ?_
    rotate_left
    · (intro w' hSw; (try dsimp only at hSw); obtain ⟨hSa0, hSa1⟩ := hSw; go_simp <;> with_reducible rfl)
    try simp only [Act.put, List.setIfInBounds_toArray, List.set_cons_zero, List.set_cons_succ]
    refine wpAnyF_take (i := 2) (v := ?_) (by (simp only [List.getElem?_toArray, List.getElem?_cons_succ, List.getElem?_cons_zero]; rfl)) (by kernel_rfl) (by kernel_rfl) (by kernel_rfl) (by decide) (by exact fun _ _ _ h => h) ⟨hHeld.1, .inr hHeld.2⟩ (Or.inl ⟨by rfl, ?_⟩) ?_
    rotate_left
    · (intro w' _; go_simp <;> with_reducible rfl)
    try simp only [Act.put, List.setIfInBounds_toArray, List.set_cons_zero, List.set_cons_succ]
    refine wpAnyF_take (i := 3) (v := ?_) (by (simp only [List.getElem?_toArray, List.getElem?_cons_succ, List.getElem?_cons_zero]; rfl)) (by kernel_rfl) (by kernel_rfl) (by kernel_rfl) (by decide) (by exact fun _ _ _ h => h) ⟨hHeld.1, .inr hHeld.2⟩ (Or.inl ⟨by rfl, ?_⟩) ?_
    rotate_left
    · (intro w' _; go_simp <;> with_reducible rfl)
    try simp only [Act.put, List.setIfInBounds_toArray, List.set_cons_zero, List.set_cons_succ]
    refine wpAnyF_take (i := 6) (v := ?_) (by (simp only [List.getElem?_toArray, List.getElem?_cons_succ, List.getElem?_cons_zero]; rfl)) (by kernel_rfl) (by kernel_rfl) (by kernel_rfl) (by decide) (by exact fun _ _ _ h => h) ⟨hHeld.1, .inr hHeld.2⟩ (Or.inl ⟨by rfl, ?_⟩) ?_
    rotate_left
    · (intro w' _; go_simp <;> with_reducible rfl)
    try simp only [Act.put, List.setIfInBounds_toArray, List.set_cons_zero, List.set_cons_succ]
    refine wpAnyF_take (i := 7) (v := ?_) (by (simp only [List.getElem?_toArray, List.getElem?_cons_succ, List.getElem?_cons_zero]; rfl)) (by kernel_rfl) (by kernel_rfl) (by kernel_rfl) (by decide) (by exact fun _ _ _ h => h) ⟨hHeld.1, .inr hHeld.2⟩ (Or.inl ⟨by rfl, ?_⟩) ?_
    rotate_left
    · (intro w' _; go_simp <;> with_reducible rfl)
    try simp only [Act.put, List.setIfInBounds_toArray, List.set_cons_zero, List.set_cons_succ]
    refine wpAnyF_ready (rs := [4, 9]) (by kernel_rfl) (by simp) ?_
    refine AllReadyF.cons (by (simp only [List.getElem?_toArray, List.getElem?_cons_succ, List.getElem?_cons_zero]; rfl)) (fun K hK => ?_) ?_
    · skip
      go_simp
      go_at_call 8
      refine (SI.out _ bV).mono ?_
      rintro e wa ⟨E, ec, rfl, os, ba⟩
      replace kG := kG.kept ba
      have bV3 := bV.trans (ba.mono bV.size)
      clear bV
      have bV := bV3
      clear bV3
      refine hK.out _ _ ⟨⟨(kG.cell 1).trans rfl, bV⟩, trivial⟩ (fun hNew => ?_)
      clear hK K hHeld
      have hHeld := hNew
      clear hNew
      try simp only [Act.put, List.setIfInBounds_toArray, List.set_cons_zero, List.set_cons_succ]
      refine wpAnyF_take (i := 5) (v := ?_) (by (simp only [List.getElem?_toArray, List.getElem?_cons_succ, List.getElem?_cons_zero]; rfl)) (by kernel_rfl) (by kernel_rfl) (by kernel_rfl) (by decide) (by exact fun _ _ _ h => h) ⟨hHeld.1, .inr hHeld.2⟩ (Or.inl ⟨by rfl, ?_⟩) ?_
      rotate_left
      · (intro w' _; go_simp <;> with_reducible rfl)
      try simp only [Act.put, List.setIfInBounds_toArray, List.set_cons_zero, List.set_cons_succ]
      refine wpAnyF_take (i := 8) (v := ?_) (by (simp only [List.getElem?_toArray, List.getElem?_cons_succ, List.getElem?_cons_zero]; rfl)) (by kernel_rfl) (by kernel_rfl) (by kernel_rfl) (by decide) (by exact fun _ _ _ h => h) ⟨hHeld.1, .inr hHeld.2⟩ (Or.inl ⟨by rfl, ?_⟩) ?_
      rotate_left
      · (intro w' _; go_simp <;> with_reducible rfl)
      try simp only [Act.put, List.setIfInBounds_toArray, List.set_cons_zero, List.set_cons_succ]
      refine wpAnyF_ready (rs := [9]) (by kernel_rfl) (by simp) ?_
      refine AllReadyF.cons (by (simp only [List.getElem?_toArray, List.getElem?_cons_succ, List.getElem?_cons_zero]; rfl)) (fun K hK => ?_) AllReadyF.nil
      have kGa := kG
      have osa := os
      have bVa := bV
      have k10 := Bk.new wa #[Value.slice none 0 0, .slice none 0 0, .int .i64 0, .int .i64 0] 57
      have kG2 := kG.alloc (Obj.cells #[Value.slice none 0 0, .slice none 0 0, .int .i64 0, .int .i64 0] 57)
      clear kG
      have kG := kG2
      clear kG2
      have bV2 := bV.alloc bV.size (Obj.cells #[Value.slice none 0 0, .slice none 0 0, .int .i64 0, .int .i64 0] 57)
      clear bV
      have bV := bV2
      clear bV2
      go_simp
      have hsep : ∀ z, (Value.slice E S.length ec).ownBlock = some z → z ≠ wa.heap.size := fun z hz => by have := (os.lt z hz).2; omega
      replace os := os.alloc (Obj.cells #[Value.slice none 0 0, .slice none 0 0, .int .i64 0, .int .i64 0] 57)
      refine hK.out _ _ ⟨⟨(kG.cell 1).trans rfl, bV⟩, trivial⟩ (fun hNew => ?_)
      clear hK K hHeld
      have hHeld := hNew
      clear hNew
      try simp only [Act.put, List.setIfInBounds_toArray, List.set_cons_zero, List.set_cons_succ]
      refine wpAnyF_ready (rs := [10]) (by kernel_rfl) (by simp) ?_
      refine AllReadyF.cons (by (simp only [List.getElem?_toArray, List.getElem?_cons_succ, List.getElem?_cons_zero]; rfl)) (fun K hK => ?_) AllReadyF.nil
      have z0 := (k10.cell 0).trans (rfl : _ = some (Value.slice none 0 0))
      have z1 := (k10.cell 1).trans (rfl : _ = some (Value.slice none 0 0))
      have z2 := (k10.cell 2).trans (rfl : _ = some (Value.int .i64 0))
      have z3 := (k10.cell 3).trans (rfl : _ = some (Value.int .i64 0))
      have f0 := k10.frozen 0
      have f1 := k10.frozen 1
      have f2 := k10.frozen 2
      have f3 := k10.frozen 3
      have HX := hide (And.intro (Bk.new wa #[Value.slice D F.length d, .slice E S.length ec, .int .i64 p, .int .i64 q] 57) (And.intro (kGa.alloc (Obj.cells #[Value.slice D F.length d, .slice E S.length ec, .int .i64 p, .int .i64 q] 57)) (And.intro (osa.alloc (Obj.cells #[Value.slice D F.length d, .slice E S.length ec, .int .i64 p, .int .i64 q] 57)) (bVa.alloc bVa.size (Obj.cells #[Value.slice D F.length d, .slice E S.length ec, .int .i64 p, .int .i64 q] 57)))))
      clear k10 kG os bV hsep
      go_simp
      clear z0 z1 z2 z3 f0 f1 f2 f3
      refine hK.out _ _ ⟨⟨(HX.out.2.1.cell 1).trans rfl, HX.out.2.2.2⟩, trivial⟩ (fun hNew => ?_)
      clear hK K hHeld hNew
      try simp only [Act.put, List.setIfInBounds_toArray, List.set_cons_zero, List.set_cons_succ]
      refine wpAnyF_done (by kernel_rfl) ?_ _
      obtain ⟨X, hX⟩ : ∃ X, X = wa.alloc (Obj.cells #[Value.slice D F.length d, .slice E S.length ec, .int .i64 p, .int .i64 q] 57) := ⟨_, rfl⟩
      have HX2 := HX.out
      rw [← hX] at HX2 ⊢
      obtain ⟨k10, kG, os, bX⟩ := HX2
      obtain ⟨g10, hg10⟩ : ∃ g, g = wa.heap.size := ⟨_, rfl⟩
      rw [← hg10] at k10 ⊢
      clear HX hX hg10
      have RF0 := (hrV.below bX).lt
      have kL := Bk.new X #[.func (.func 27) #[] #[], .func (.func 28) #[] #[], .func (.func 29) #[] #[]] 58
      have kD := k10.alloc (Obj.cells #[.func (.func 27) #[] #[], .func (.func 28) #[] #[], .func (.func 29) #[] #[]] 58)
      have bY := bX.alloc bX.size (Obj.cells #[.func (.func 27) #[] #[], .func (.func 28) #[] #[], .func (.func 29) #[] #[]] 58)
      have RSY := Rd.of_own (k := .i64) (os.alloc (Obj.cells #[.func (.func 27) #[] #[], .func (.func 28) #[] #[], .func (.func 29) #[] #[]] 58))
      go_upto_region 6 with fail
      clear k10 os
      obtain ⟨Y, hY⟩ : ∃ Y, Y = X.alloc (Obj.cells #[.func (.func 27) #[] #[], .func (.func 28) #[] #[], .func (.func 29) #[] #[]] 58) := ⟨_, rfl⟩
      rw [← hY] at kL kD bY RSY ⊢
      obtain ⟨gL, hgL⟩ : ∃ g, g = X.heap.size := ⟨_, rfl⟩
      rw [← hgL] at kL ⊢
      have RFY := (hrV.below bY).lt
      clear hY hgL RF0 bX
      have b0Y := b0.trans (bY.mono b0.size)
      go_wp2
      go_loopw [30] (fun i wr => ∃ z : Int, (z = 0 ∨ z = 1 ∨ z = 2 ∨ z = 3) ∧ i = .int .i64 z ∧ Below Y.heap.size Y wr ∧ Hid ((1 ≤ z → p ∈ S) ∧ (2 ≤ z → 0 ≤ q ∧ q ≤ 7))) (fun i _ => 3 - (intOf i).toNat)
      case atStart => exact ⟨0, Or.inl rfl, rfl, Below.refl _ _, hide ⟨fun h => by omega, fun h => by omega⟩⟩
      case round =>
        obtain ⟨z, hz, rfl, hb, HK⟩ := hrel
        have kk := kD.kept hb
        have c0 := (kk.cell 0).trans (rfl : _ = some (Value.slice D F.length d))
        have c1 := (kk.cell 1).trans (rfl : _ = some (Value.slice E S.length ec))
        have c2 := (kk.cell 2).trans (rfl : _ = some (Value.int .i64 p))
        have c3 := (kk.cell 3).trans (rfl : _ = some (Value.int .i64 q))
        have kl := kL.kept hb
        have l0 := (kl.cell 0).trans (rfl : _ = some (Value.func (.func 27) #[] #[]))
        have l1 := (kl.cell 1).trans (rfl : _ = some (Value.func (.func 28) #[] #[]))
        have l2 := (kl.cell 2).trans (rfl : _ = some (Value.func (.func 29) #[] #[]))
        have b0W := b0Y.trans (hb.mono b0Y.size)
        rcases hz with rfl | rfl | rfl | rfl
        · have AS := hide (atSpot_any (F := F) (S := S) (D := D) (E := E) (d := d) (ec := ec) (p := p) (q := q) wr hslen (RSY.below hb).lt)
          by_cases hp : p ∈ S
          · rw [decide_eq_true hp] at AS
            have HP := hide hp
            clear hp HNS HNB HBAD HYS HK kk kl
            go_wp2_with fail
            refine AS.out.mono ?_
            rintro e w3 ⟨rfl, b3⟩
            have hb3 := hb.trans (b3.mono hb.size)
            clear AS b3 c0 c1 c2 c3 l0 l1 l2
            go_wp2
            go_roundw
            case rel => exact ⟨1, Or.inr (Or.inl rfl), by go_num, hb3, hide ⟨fun _ => HP.out, fun h => by omega⟩⟩
            case measure => simp [intOf]
          · rw [decide_eq_false hp] at AS
            have HE := hide (HNS.out hp)
            clear hp HNS HNB HBAD HYS HK kk kl
            go_wp2_with fail
            refine AS.out.mono ?_
            rintro e w3 ⟨rfl, b3⟩
            clear c0 c1 c2 c3 l0 l1 l2
            go_wp2
            go_ret
            exact ⟨ret_bool HE.out.symm, b0W.trans (b3.mono b0W.size)⟩
        · have AS := hide (ofByte_any (F := F) (S := S) (D := D) (E := E) (d := d) (ec := ec) (p := p) (q := q) wr)
          by_cases hq : 0 ≤ q ∧ q ≤ 7
          · rw [decide_eq_true hq] at AS
            have HQ := hide hq
            clear hq HNS HNB HBAD HYS kk kl
            go_wp2_with fail
            refine AS.out.mono ?_
            rintro e w3 ⟨rfl, b3⟩
            have hb3 := hb.trans (b3.mono hb.size)
            clear AS b3 c0 c1 c2 c3 l0 l1 l2
            go_wp2
            go_roundw
            case rel => exact ⟨2, Or.inr (Or.inr (Or.inl rfl)), by go_num, hb3, hide ⟨fun _ => HK.out.1 (by omega), fun _ => HQ.out⟩⟩
            case measure => simp [intOf]
          · rw [decide_eq_false hq] at AS
            have HE := hide (HNB.out hq)
            clear hq HNS HNB HBAD HYS HK kk kl
            go_wp2_with fail
            refine AS.out.mono ?_
            rintro e w3 ⟨rfl, b3⟩
            clear c0 c1 c2 c3 l0 l1 l2
            go_wp2
            go_ret
            exact ⟨ret_bool HE.out.symm, b0W.trans (b3.mono b0W.size)⟩
        · have H2 := HBAD.out (HK.out.1 (by omega)) (HK.out.2 (by omega))
          have AS := hide (foundOut_any (F := F) (S := S) (D := D) (E := E) (d := d) (ec := ec) (p := p) (q := q) aN aS aE wr (by omega) HB8.out H2.1 H2.2 (RFY.below hb).lt (HT.out.below b0W) (HS.out.below b0W))
          clear H2 HNS HNB HBAD HYS kk kl
          go_wp2_with fail
          refine AS.out.mono ?_
          rintro e w3 ⟨rfl, b3⟩
          have hb3 := hb.trans (b3.mono hb.size)
          clear AS b3 c0 c1 c2 c3 l0 l1 l2
          go_wp2
          go_roundw
          case rel => exact ⟨3, Or.inr (Or.inr (Or.inr rfl)), by go_num, hb3, hide ⟨fun _ => HK.out.1 (by omega), fun _ => HK.out.2 (by omega)⟩⟩
          case measure => simp [intOf]
        · have HE := hide (HYS.out (HK.out.1 (by omega)) (HK.out.2 (by omega)))
          clear HNS HNB HBAD HYS HK kk kl
          go_wp2
          go_ret
          exact ⟨ret_bool HE.out.symm, b0W⟩
    refine AllReadyF.cons (by (simp only [List.getElem?_toArray, List.getElem?_cons_succ, List.getElem?_cons_zero]; rfl)) (fun K hK => ?_) ?_
    · skip
      have k10 := Bk.new Z #[Value.slice none 0 0, .slice none 0 0, .int .i64 0, .int .i64 0] 57
      have kG2 := kG.alloc (Obj.cells #[Value.slice none 0 0, .slice none 0 0, .int .i64 0, .int .i64 0] 57)
      clear kG
      have kG := kG2
      clear kG2
      have bV2 := bV.alloc bV.size (Obj.cells #[Value.slice none 0 0, .slice none 0 0, .int .i64 0, .int .i64 0] 57)
      clear bV
      have bV := bV2
      clear bV2
      go_simp
      refine hK.out _ _ ⟨⟨(kG.cell 1).trans rfl, bV⟩, trivial⟩ (fun hNew => ?_)
      clear hK K hHeld
      have hHeld := hNew
      clear hNew
      try simp only [Act.put, List.setIfInBounds_toArray, List.set_cons_zero, List.set_cons_succ]
      refine wpAnyF_ready (rs := [4]) (by kernel_rfl) (by simp) ?_
      refine AllReadyF.cons (by (simp only [List.getElem?_toArray, List.getElem?_cons_succ, List.getElem?_cons_zero]; rfl)) (fun K hK => ?_) AllReadyF.nil
      go_simp
      go_at_call 8
      refine (SI.out _ bV).mono ?_
      rintro e wa ⟨E, ec, rfl, os, ba⟩
      replace kG := kG.kept ba
      have bV3 := bV.trans (ba.mono bV.size)
      clear bV
      have bV := bV3
      clear bV3
      replace k10 := k10.kept ba
      have hz10 : Z.heap.size < (Z.alloc (Obj.cells #[Value.slice none 0 0, .slice none 0 0, .int .i64 0, .int .i64 0] 57)).heap.size := by rw [World.size_alloc]; omega
      have hsep : ∀ z, (Value.slice E S.length ec).ownBlock = some z → z ≠ Z.heap.size := fun z hz => by have := (os.lt z hz).1; omega
      clear hz10
      refine hK.out _ _ ⟨⟨(kG.cell 1).trans rfl, bV⟩, trivial⟩ (fun hNew => ?_)
      clear hK K hHeld
      have hHeld := hNew
      clear hNew
      try simp only [Act.put, List.setIfInBounds_toArray, List.set_cons_zero, List.set_cons_succ]
      refine wpAnyF_take (i := 5) (v := ?_) (by (simp only [List.getElem?_toArray, List.getElem?_cons_succ, List.getElem?_cons_zero]; rfl)) (by kernel_rfl) (by kernel_rfl) (by kernel_rfl) (by decide) (by exact fun _ _ _ h => h) ⟨hHeld.1, .inr hHeld.2⟩ (Or.inl ⟨by rfl, ?_⟩) ?_
      rotate_left
      · (intro w' _; go_simp <;> with_reducible rfl)
      try simp only [Act.put, List.setIfInBounds_toArray, List.set_cons_zero, List.set_cons_succ]
      refine wpAnyF_take (i := 8) (v := ?_) (by (simp only [List.getElem?_toArray, List.getElem?_cons_succ, List.getElem?_cons_zero]; rfl)) (by kernel_rfl) (by kernel_rfl) (by kernel_rfl) (by decide) (by exact fun _ _ _ h => h) ⟨hHeld.1, .inr hHeld.2⟩ (Or.inl ⟨by rfl, ?_⟩) ?_
      rotate_left
      · (intro w' _; go_simp <;> with_reducible rfl)
      try simp only [Act.put, List.setIfInBounds_toArray, List.set_cons_zero, List.set_cons_succ]
      refine wpAnyF_ready (rs := [10]) (by kernel_rfl) (by simp) ?_
      refine AllReadyF.cons (by (simp only [List.getElem?_toArray, List.getElem?_cons_succ, List.getElem?_cons_zero]; rfl)) (fun K hK => ?_) AllReadyF.nil
      have z0 := (k10.cell 0).trans (rfl : _ = some (Value.slice none 0 0))
      have z1 := (k10.cell 1).trans (rfl : _ = some (Value.slice none 0 0))
      have z2 := (k10.cell 2).trans (rfl : _ = some (Value.int .i64 0))
      have z3 := (k10.cell 3).trans (rfl : _ = some (Value.int .i64 0))
      have f0 := k10.frozen 0
      have f1 := k10.frozen 1
      have f2 := k10.frozen 2
      have f3 := k10.frozen 3
      have HX := hide (four_facts (g := Z.heap.size) k10 kG os (by omega) hsep bV (by omega) (.slice D F.length d) (.slice E S.length ec) (.int .i64 p) (.int .i64 q))
      clear k10 kG os bV hsep
      go_simp
      clear z0 z1 z2 z3 f0 f1 f2 f3
      refine hK.out _ _ ⟨⟨(HX.out.2.1.cell 1).trans rfl, HX.out.2.2.2⟩, trivial⟩ (fun hNew => ?_)
      clear hK K hHeld hNew
      try simp only [Act.put, List.setIfInBounds_toArray, List.set_cons_zero, List.set_cons_succ]
      refine wpAnyF_done (by kernel_rfl) ?_ _
      obtain ⟨X, hX⟩ : ∃ X, X = (((wa.setCell ⟨Z.heap.size, 0, none⟩ (.slice D F.length d)).setCell ⟨Z.heap.size, 1, none⟩ (.slice E S.length ec)).setCell ⟨Z.heap.size, 2, none⟩ (.int .i64 p)).setCell ⟨Z.heap.size, 3, none⟩ (.int .i64 q) := ⟨_, rfl⟩
      have HX2 := HX.out
      rw [← hX] at HX2 ⊢
      obtain ⟨k10, kG, os, bX⟩ := HX2
      obtain ⟨g10, hg10⟩ : ∃ g, g = Z.heap.size := ⟨_, rfl⟩
      rw [← hg10] at k10 ⊢
      clear HX hX hg10
      have RF0 := (hrV.below bX).lt
      have kL := Bk.new X #[.func (.func 27) #[] #[], .func (.func 28) #[] #[], .func (.func 29) #[] #[]] 58
      have kD := k10.alloc (Obj.cells #[.func (.func 27) #[] #[], .func (.func 28) #[] #[], .func (.func 29) #[] #[]] 58)
      have bY := bX.alloc bX.size (Obj.cells #[.func (.func 27) #[] #[], .func (.func 28) #[] #[], .func (.func 29) #[] #[]] 58)
      have RSY := Rd.of_own (k := .i64) (os.alloc (Obj.cells #[.func (.func 27) #[] #[], .func (.func 28) #[] #[], .func (.func 29) #[] #[]] 58))
      go_upto_region 6 with fail
      clear k10 os
      obtain ⟨Y, hY⟩ : ∃ Y, Y = X.alloc (Obj.cells #[.func (.func 27) #[] #[], .func (.func 28) #[] #[], .func (.func 29) #[] #[]] 58) := ⟨_, rfl⟩
      rw [← hY] at kL kD bY RSY ⊢
      obtain ⟨gL, hgL⟩ : ∃ g, g = X.heap.size := ⟨_, rfl⟩
      rw [← hgL] at kL ⊢
      have RFY := (hrV.below bY).lt
      clear hY hgL RF0 bX
      have b0Y := b0.trans (bY.mono b0.size)
      go_wp2
      go_loopw [30] (fun i wr => ∃ z : Int, (z = 0 ∨ z = 1 ∨ z = 2 ∨ z = 3) ∧ i = .int .i64 z ∧ Below Y.heap.size Y wr ∧ Hid ((1 ≤ z → p ∈ S) ∧ (2 ≤ z → 0 ≤ q ∧ q ≤ 7))) (fun i _ => 3 - (intOf i).toNat)
      case atStart => exact ⟨0, Or.inl rfl, rfl, Below.refl _ _, hide ⟨fun h => by omega, fun h => by omega⟩⟩
      case round =>
        obtain ⟨z, hz, rfl, hb, HK⟩ := hrel
        have kk := kD.kept hb
        have c0 := (kk.cell 0).trans (rfl : _ = some (Value.slice D F.length d))
        have c1 := (kk.cell 1).trans (rfl : _ = some (Value.slice E S.length ec))
        have c2 := (kk.cell 2).trans (rfl : _ = some (Value.int .i64 p))
        have c3 := (kk.cell 3).trans (rfl : _ = some (Value.int .i64 q))
        have kl := kL.kept hb
        have l0 := (kl.cell 0).trans (rfl : _ = some (Value.func (.func 27) #[] #[]))
        have l1 := (kl.cell 1).trans (rfl : _ = some (Value.func (.func 28) #[] #[]))
        have l2 := (kl.cell 2).trans (rfl : _ = some (Value.func (.func 29) #[] #[]))
        have b0W := b0Y.trans (hb.mono b0Y.size)
        rcases hz with rfl | rfl | rfl | rfl
        · have AS := hide (atSpot_any (F := F) (S := S) (D := D) (E := E) (d := d) (ec := ec) (p := p) (q := q) wr hslen (RSY.below hb).lt)
          by_cases hp : p ∈ S
          · rw [decide_eq_true hp] at AS
            have HP := hide hp
            clear hp HNS HNB HBAD HYS HK kk kl
            go_wp2_with fail
            refine AS.out.mono ?_
            rintro e w3 ⟨rfl, b3⟩
            have hb3 := hb.trans (b3.mono hb.size)
            clear AS b3 c0 c1 c2 c3 l0 l1 l2
            go_wp2
            go_roundw
            case rel => exact ⟨1, Or.inr (Or.inl rfl), by go_num, hb3, hide ⟨fun _ => HP.out, fun h => by omega⟩⟩
            case measure => simp [intOf]
          · rw [decide_eq_false hp] at AS
            have HE := hide (HNS.out hp)
            clear hp HNS HNB HBAD HYS HK kk kl
            go_wp2_with fail
            refine AS.out.mono ?_
            rintro e w3 ⟨rfl, b3⟩
            clear c0 c1 c2 c3 l0 l1 l2
            go_wp2
            go_ret
            exact ⟨ret_bool HE.out.symm, b0W.trans (b3.mono b0W.size)⟩
        · have AS := hide (ofByte_any (F := F) (S := S) (D := D) (E := E) (d := d) (ec := ec) (p := p) (q := q) wr)
          by_cases hq : 0 ≤ q ∧ q ≤ 7
          · rw [decide_eq_true hq] at AS
            have HQ := hide hq
            clear hq HNS HNB HBAD HYS kk kl
            go_wp2_with fail
            refine AS.out.mono ?_
            rintro e w3 ⟨rfl, b3⟩
            have hb3 := hb.trans (b3.mono hb.size)
            clear AS b3 c0 c1 c2 c3 l0 l1 l2
            go_wp2
            go_roundw
            case rel => exact ⟨2, Or.inr (Or.inr (Or.inl rfl)), by go_num, hb3, hide ⟨fun _ => HK.out.1 (by omega), fun _ => HQ.out⟩⟩
            case measure => simp [intOf]
          · rw [decide_eq_false hq] at AS
            have HE := hide (HNB.out hq)
            clear hq HNS HNB HBAD HYS HK kk kl
            go_wp2_with fail
            refine AS.out.mono ?_
            rintro e w3 ⟨rfl, b3⟩
            clear c0 c1 c2 c3 l0 l1 l2
            go_wp2
            go_ret
            exact ⟨ret_bool HE.out.symm, b0W.trans (b3.mono b0W.size)⟩
        · have H2 := HBAD.out (HK.out.1 (by omega)) (HK.out.2 (by omega))
          have AS := hide (foundOut_any (F := F) (S := S) (D := D) (E := E) (d := d) (ec := ec) (p := p) (q := q) aN aS aE wr (by omega) HB8.out H2.1 H2.2 (RFY.below hb).lt (HT.out.below b0W) (HS.out.below b0W))
          clear H2 HNS HNB HBAD HYS kk kl
          go_wp2_with fail
          refine AS.out.mono ?_
          rintro e w3 ⟨rfl, b3⟩
          have hb3 := hb.trans (b3.mono hb.size)
          clear AS b3 c0 c1 c2 c3 l0 l1 l2
          go_wp2
          go_roundw
          case rel => exact ⟨3, Or.inr (Or.inr (Or.inr rfl)), by go_num, hb3, hide ⟨fun _ => HK.out.1 (by omega), fun _ => HK.out.2 (by omega)⟩⟩
          case measure => simp [intOf]
        · have HE := hide (HYS.out (HK.out.1 (by omega)) (HK.out.2 (by omega)))
          clear HNS HNB HBAD HYS HK kk kl
          go_wp2
          go_ret
          exact ⟨ret_bool HE.out.symm, b0W⟩
    exact AllReadyF.nil
  · have HE := hide (cau_no_code (p := p) (q := q) h0)
    obtain ⟨C, hC⟩ : ∃ C, C = fcC t b := ⟨_, rfl⟩
    rw [← hC] at EN h0
    have g0 : (C != 0) = true := bne_iff_ne.2 h0
    have g1 : (C == 0) = false := beq_eq_false_iff_ne.2 h0
    generalize fcB t b = F at *
    clear hC h0
    go_enter Tryz.func7, Tryz.ntmps7
    go_wp2_with fail
    refine EN.out.mono ?_
    rintro e w1 ⟨D, d, rfl, o1, b1⟩
    have bA := b1.alloc b1.size (Obj.cells #[.int .i64 C, .slice D F.length d] 35)
    have kp := Bk.new w1 #[.int .i64 C, .slice D F.length d] 35
    have q0 := (kp.cell 0).trans (rfl : _ = some (Value.int .i64 C))
    go_wp2
    go_ret
    exact ⟨ret_bool HE.out.symm, bA⟩
end Go.Proofs.YtldepledinolmaaGreatDoor
namespace Go.Proofs.YtldepledinolmaaGreatDoor
open Go.RowKit

theorem spL_few (t : List (List Ev)) (b : Int) : (spL t b).length ≤ 1000000 := by
  by_cases h0 : fcC t b = 0
  · obtain ⟨e0, e1, e2⟩ := fcC_zero h0
    have hb1 : 1 ≤ b.toNat := by omega
    have hfew := filL_few hb1 e0
    have hb8 := filL_B8 hb1 e0
    rw [spL_ok h0]
    obtain ⟨cs, last, hst, h2⟩ := filL_start hb1 e0
    have := spS_len _ _ _ hb8 ⟨cs, last, 0, hst⟩ h2
    omega
  · rw [spL_no h0]; simp
theorem spL_zero {t : List (List Ev)} {b p : Int} (hp : p ∈ spL t b) : fcC t b = 0 := by
  by_cases h : fcC t b = 0
  · exact h
  · rw [spL_no h] at hp; cases hp

set_option maxRecDepth 100000 in
set_option maxHeartbeats 1600000 in
theorem specCau_any (t : List (List Ev)) (b p q : Int) (A : Option Addr) (c : Nat) (w : World) (hm : t.length ≤ maxLen) (h : RdT w w.heap.size A t) :
    Calls Tryz.prog 11 #[.slice A t.length c, .int .i64 b, .int .i64 p, .int .i64 q] w fun e w' => e = .returned (.bool (cauB t b p q)) ∧ Below w.heap.size w w' := by
  have SP := hide (specSpo_any t b A c w hm h)
  unfold SpoPost at SP
  have hslen := spL_few t b
  have HNS := hide (fun hp => cau_no_spot (b := b) (t := t) (p := p) (q := q) hp)
  have HYS := hide (fun hp hq => cau_yes (b := b) (t := t) (p := p) (q := q) hp hq)
  have HNB := hide (fun hq => cau_no_bit (b := b) (t := t) (p := p) (q := q) hq)
  have HZ := hide (fun hp => spL_zero (t := t) (b := b) (p := p) hp)
  have HBAD := hide (fun (hp : p ∈ spL t b) hq => spot_bad (q := q) (spL_zero hp) hp hq)
  obtain ⟨S, hSS⟩ : ∃ S, S = spL t b := ⟨_, rfl⟩
  rw [← hSS] at SP hslen HNS HYS HZ HBAD
  obtain ⟨C, hC⟩ : ∃ C, C = fcC t b := ⟨_, rfl⟩
  rw [← hC] at SP
  clear hC hSS
  go_enter Tryz.func11, Tryz.ntmps11
  go_wp2_with fail
  refine SP.out.mono ?_
  rintro e w1 ⟨E, ec, rfl, os, b1⟩
  have hr1 := Rd.of_own (k := .i64) os
  have bA := (Below.refl w1.heap.size w1).alloc (Nat.le_refl _) (Obj.cells #[.int .i64 C, .slice E S.length ec] 30)
  have kp := Bk.new w1 #[.int .i64 C, .slice E S.length ec] 30
  have hrV := (hr1.below bA).lt
  have bV := b1.trans (bA.mono b1.size)
  go_upto_region 2 with fail
  generalize w1.alloc (Obj.cells #[.int .i64 C, .slice E S.length ec] 30) = V at *
  obtain ⟨G, hG⟩ : ∃ G, G = w1.heap.size := ⟨_, rfl⟩
  rw [← hG] at kp ⊢
  have q1 := (kp.cell 1).trans (rfl : _ = some (Value.slice E S.length ec))
  clear hG os hr1 bA b1 SP
  go_wp2
  go_loopw [17] (fun i wr => ∃ k : Nat, k ≤ S.length ∧ i = .int .i64 k ∧ Below V.heap.size V wr ∧ Hid (∀ j (hj : j < S.length), j < k → S[j] = p → ¬ (0 ≤ q ∧ q ≤ 7))) (fun i _ => S.length - (intOf i).toNat)
  case atStart => exact ⟨0, Nat.zero_le _, rfl, Below.refl _ _, hide fun j _ hj => absurd hj (Nat.not_lt_zero j)⟩
  case round =>
    obtain ⟨k, hk, rfl, hb, HK⟩ := hrel
    have x1 := cell_kept hb q1
    have bW := bV.trans (hb.mono bV.size)
    by_cases hlt : k < S.length
    · have HM := hide (List.getElem_mem hlt)
      have HNX := hide (fun (hne : S[k] = p → ¬ (0 ≤ q ∧ q ≤ 7)) => (fun j hj h1 => by
        by_cases hjk : j = k
        · subst hjk; exact hne
        · exact HK.out j hj (by omega) : ∀ j (hj : j < S.length), j < k + 1 → S[j] = p → ¬ (0 ≤ q ∧ q ≤ 7)))
      obtain ⟨bb, off, hE, hbb, hc⟩ := (hrV.below hb).get hlt
      subst hE
      obtain ⟨y, hy⟩ : ∃ y, y = S[k] := ⟨_, rfl⟩
      rw [← hy] at hc HM HNX
      clear hy HK
      by_cases he : y = p
      · have g0 : (y == p) = true := beq_iff_eq.2 he
        by_cases hq : 0 ≤ q ∧ q ≤ 7
        · have hp : p ∈ S := he ▸ HM.out
          have HE := hide (HYS.out hp hq)
          obtain ⟨e0, e1, e2⟩ := fcC_zero (HZ.out hp)
          have hkb := HBAD.out hp hq
          clear HNX HM HNS HYS HNB HZ HBAD hp he
          obtain ⟨B, rfl⟩ := Int.eq_ofNat_of_zero_le (show 0 ≤ b by omega)
          rw [Int.toNat_natCast] at hkb
          have hk2 := hkb.1
          have hbad := hkb.2
          have EN := hide (fun V (hV : RdT V V.heap.size A t) => l4Encode_any t B A c V e0 (by omega) (by omega) hV)
          have hfew := filL_few (b := B) (by omega) e0
          have hb8 := filL_B8 (b := B) (by omega) e0
          obtain ⟨F, hF⟩ : ∃ F, F = filL B t := ⟨_, rfl⟩
          rw [← hF] at EN hfew hb8 hk2 hbad
          have hlen := tbL_len F p q
          have hb8T := tbL_B8 hb8 hk2
          have TU := hide (fun D d V hR => l9Turn_any F p q D d V (by omega) hk2 hR)
          obtain ⟨L, hL⟩ : ∃ L, L = tbL F p q := ⟨_, rfl⟩
          rw [← hL] at TU hbad hlen hb8T
          have DT := hide (fun D d V hd hR => specDec_any L D d V (by omega) hd hR hb8T)
          unfold DtPost at DT
          obtain ⟨C2, hC2⟩ : ∃ C2, C2 = (dc L).1 := ⟨_, rfl⟩
          rw [← hC2] at DT hbad
          obtain ⟨T2, hT2⟩ : ∃ T2, T2 = (dc L).2 := ⟨_, rfl⟩
          rw [← hT2] at DT
          simp only [hlen] at TU DT
          clear hT2
          have g1 : (C2 != 0) = true := bne_iff_ne.2 hbad
          have hf := field_trc C2
          clear hkb hF hL hC2 hbad hk2 hb8 hb8T e0 e1 e2
          go_wp2_with fail
          refine (l1In_yes _ _ _ _ hq).mono ?_
          rintro e w2 ⟨rfl, rfl⟩
          go_wp2_with fail
          refine (EN.out _ ((h.below bW).lt)).mono ?_
          rintro e w3 ⟨D, d, rfl, o1⟩
          have b3 := bW.trans (o1.2.mono bW.size)
          go_wp2_with fail
          refine (TU.out D d w3 (Rd.of_own (k := .u8) o1.1)).mono ?_
          rintro e w4 ⟨D2, d2, rfl, o2, b4⟩
          have b4' := b3.trans (b4.mono b3.size)
          have hcap2 := (own_capE o2).1
          have hrd2 := Rd.of_own (k := .u8) o2
          have DD := hide (DT.out D2 d2 w4 hcap2 hrd2)
          clear EN TU DT o2 o1 hcap2 hrd2
          go_wp2_with fail
          refine DD.out.mono ?_
          rintro e w5 ⟨D3, d3, us3, rfl, o3, b5⟩
          clear DD
          go_wp2
          go_ret
          exact ⟨ret_bool HE.out.symm, b4'.trans (b5.mono b4'.size)⟩
        · have hq2 : q < 0 ∨ 7 < q := by omega
          have HE := hide (HNX.out (fun _ => hq))
          clear HNX HM HNS HYS HNB HZ HBAD he hq
          go_wp2_with fail
          refine (l1In_no _ _ _ _ hq2).mono ?_
          rintro e w2 ⟨rfl, rfl⟩
          go_wp2
          go_roundw
          case rel => exact ⟨k + 1, by omega, by go_num, hb, HE⟩
          case measure => simp [intOf]; omega
      · have g0 : (y == p) = false := beq_eq_false_iff_ne.2 he
        have HE := hide (HNX.out (fun h => absurd h he))
        clear HNX HM HNS HYS HNB HZ HBAD he
        go_wp2
        go_roundw
        case rel => exact ⟨k + 1, by omega, by go_num, hb, HE⟩
        case measure => simp [intOf]; omega
    · obtain rfl : k = S.length := by omega
      have HE := hide (show cauB t b p q = false by
        by_cases hq : 0 ≤ q ∧ q ≤ 7
        · exact HNS.out fun hx => by
            obtain ⟨j, hj, e⟩ := List.getElem_of_mem hx
            exact HK.out j hj hj e hq
        · exact HNB.out hq)
      clear HNS HYS HNB HZ HBAD HK
      go_wp2
      go_ret
      exact ⟨ret_bool HE.out.symm, bW⟩
end Go.Proofs.YtldepledinolmaaGreatDoor
