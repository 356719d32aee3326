/- Contracts of the model's EncodeTrace and FramesIn. The contract of the program's FramesIn. A region that draws its order, in a round of a range over a function: what holds of it outside holds in the round (no operation of it is a defer statement). The contract of the program's EncodeTrace. -/
import Derived.Test.YtldepledinolmaaGreatDoorFilS
import Derived.Test.YtldepledinolmaaGreatDoorGTrS
import Derived.Test.YtldepledinolmaaGreatDoorGRet
import Derived.RangeFuncNested
import Derived.OwnWalkIn
import Derived.Test.YtldepledinolmaaGreatDoorChunk
namespace Go.Proofs.YtldepledinolmaaGreatDoor
open Go.RowKit

set_option maxRecDepth 100000 in
set_option maxHeartbeats 1600000 in
theorem l4Encode_any (t : List (List Ev)) (b : Nat) (A : Option Addr) (c : Nat) (w : World) (h0 : trF t = 0) (hb1 : 1 ≤ b) (hb8 : b ≤ 8) (h : RdT w w.heap.size A t) :
    Calls Tryz.prog 39 #[.slice A t.length c, .int .i64 b] w fun e w' => ∃ A c, e = .returned (.slice A (filL b t).length c) ∧ OwnB w (filL b t) (.slice A (filL b t).length c) w' := by
  obtain ⟨i0, hi, hz0, hz1, hz2⟩ := info_parts info_u8
  obtain ⟨ht1, ht4, hall⟩ := trF_zero h0
  have hsum := sumT_few hall
  have hfl := filF_len hb1 0 t hall
  have FR := hide (l4Frames_any t b A c w h0 hb1 hb8 h)
  have CO := hide (fun W hW => l4Count_any t A c W (by omega) (fun l hl => by have := (stF_zero (hall l hl)).1; omega) hW)
  have hdl := hdF_len hb1 h0
  have hd8 := hdF_B8 hb1 h0
  obtain ⟨F, hF⟩ : ∃ F, F = filF b 0 t := ⟨_, rfl⟩
  obtain ⟨N, hN⟩ : ∃ N, N = filN b t := ⟨_, rfl⟩
  obtain ⟨S, hS⟩ : ∃ S, S = sumT t := ⟨_, rfl⟩
  obtain ⟨H, hH⟩ : ∃ H, H = hdF b t := ⟨_, rfl⟩
  have HD : Hid (H = ([67, (t.length : Int)] ++ F) ++ [69, (N : Int), (S : Int)]) := hide (by rw [hH, hF, hN, hS]; rfl)
  have FL : Hid (filL b t = H ++ fourL (crcV H)) := hide (by rw [hH]; rfl)
  rw [← hF, ← hN] at FR
  rw [← hS] at CO
  rw [← hF, ← hN] at hfl
  rw [← hS] at hsum hfl
  rw [← hH] at hdl hd8
  have CR := hide (fun A c W hR => l1Crc_any H A c W (by omega) hR hd8)
  have hcv : ((crcS 4294967295 H ^^^ 4294967295 : Nat) : Int) = crcV H := by unfold crcV; rw [if_pos (by omega)]
  rw [hcv] at CR
  have hbd := crcV_bd hd8
  obtain ⟨V, hV⟩ : ∃ V, V = crcV H := ⟨_, rfl⟩
  rw [← hV] at CR FL hbd
  have FO := hide (fun W => l1Four_any V W hbd)
  obtain ⟨L, hL⟩ : ∃ L, L = filL b t := ⟨_, rfl⟩
  rw [← hL] at FL ⊢
  obtain ⟨n, hn⟩ : ∃ n, n = t.length := ⟨_, rfl⟩
  rw [← hn] at FR CO HD ht1 ht4 hsum ⊢
  have hN32 : N ≤ 32 := by omega
  have hS32 : S ≤ 32 := by omega
  have hF8 : F.length ≤ 832 := by omega
  clear hV hcv hF hN hS hH hL hn h0 hall hfl hsum hd8
  go_enter Tryz.func39, Tryz.ntmps39
  go_wp2_with fail
  refine FR.out.mono ?_
  rintro e w1 ⟨A1, c1, rfl, O1⟩
  have ob : OwnB w1 [67, (n : Int)] (.slice (some ⟨w1.heap.size, 0, none⟩) 2 2) (w1.alloc (Obj.cells #[.int .u8 67, .int .u8 n] 5)) := ⟨World.ownsRow_lit w1 #[.int .u8 67, .int .u8 n] 2 (Nat.le_refl _) (by unfold maxLen; omega) rfl, (Below.refl _ _).alloc (Nat.le_refl _) _⟩
  have r1 := (Rd.of_own O1.1).alloc (Nat.le_refl _) (Obj.cells #[.int .u8 67, .int .u8 n] 5)
  have x2 : ([67, (n : Int)] : List Int).length = 2 := rfl
  have B1 := O1.2
  have h1 := h.below B1
  clear O1 h
  go_wp2_with (at_builtin; refine wpList_append_rd _ rfl (.tmp 17) (.tmp 18) 22 rfl w1.heap.size 5 i0 (.int .u8 0) 1 Tryz.underlying22 hi hz0 hz1 hz2 rfl .u8 (.slice (some ⟨w1.heap.size, 0, none⟩) 2 2) 2 _ rfl ob.1 A1 F c1 _ rfl r1 (by unfold maxLen; omega) (by omega) ob.2.size ?_; intro v2 w2 o2 g2 hat2; have oc := ob.more o2 g2; have h2 := (h1.below (oc.2.mono B1.size)).lt; clear g2 hat2 o2 ob r1 h1)
  refine (CO.out _ h2).mono ?_
  rintro e w3 ⟨rfl, rfl⟩
  obtain ⟨Y, hY⟩ : ∃ Y : List Int, Y = [67, (n : Int)] ++ F := ⟨_, rfl⟩
  have hYl : Y.length ≤ 840 := by rw [hY, List.length_append, x2]; omega
  rw [← hY] at oc HD
  obtain ⟨D2, d2, hv2⟩ := own_shape oc.1
  subst hv2
  have r3 := Rd.of_own (k := .u8) (l := [69, (N : Int), (S : Int)]) (World.ownsRow_lit w2 #[.int .u8 69, .int .u8 N, .int .u8 S] 3 (e := 5) (size := 1) (base := w2.heap.size) (Nat.le_refl _) (by unfold maxLen; omega) rfl)
  have od := oc.below ((Below.refl w2.heap.size w2).alloc (Nat.le_refl _) (Obj.cells #[.int .u8 69, .int .u8 N, .int .u8 S] 5))
  clear hY x2 oc FR CO h2
  go_wp2_with (at_builtin; refine wpList_append_rd _ rfl (.tmp 20) (.tmp 26) 22 rfl w1.heap.size 5 i0 (.int .u8 0) 1 Tryz.underlying22 hi hz0 hz1 hz2 rfl .u8 (.slice D2 Y.length d2) _ _ rfl od.1 (some ⟨w2.heap.size, 0, none⟩) [69, (N : Int), (S : Int)] 3 _ rfl r3 (by unfold maxLen; simp; omega) (by simp; omega) od.2.size ?_; intro v4 w4 o4 g4 hat4; have oe := od.more o4 g4; rw [← HD.out] at oe; clear g4 hat4 o4 od r3; obtain ⟨D4, d4, hv4⟩ := own_shape oe.1; rw [hv4] at oe; rw [hv4]; clear hv4)
  have r4 := Rd.of_own oe.1
  clear hYl
  refine (CR.out _ _ _ r4).mono ?_
  rintro e w5 ⟨rfl, rfl⟩
  go_wp2_with fail
  refine (FO.out _).mono ?_
  rintro e w5 ⟨g5, rfl, o5, b5⟩
  have of := oe.below b5
  clear oe b5 r4
  go_wp2_with (at_builtin; refine wpList_append_rd _ rfl (.tmp 28) (.tmp 31) 22 rfl w1.heap.size 5 i0 (.int .u8 0) 1 Tryz.underlying22 hi hz0 hz1 hz2 rfl .u8 (.slice D4 H.length d4) _ _ rfl of.1 (some ⟨g5, 0, none⟩) (fourL V) 4 _ rfl (Rd.of_own o5) (by unfold maxLen; rw [fourL_length]; omega) (by rw [fourL_length]; omega) of.2.size ?_; intro v6 w6 o6 g6 hat6; have og := of.more o6 g6; rw [← FL.out] at og; clear g6 hat6 o6 of o5; obtain ⟨A6, c6, hv6⟩ := own_shape og.1; rw [hv6] at og; rw [hv6]; clear hv6)
  go_wp2_with fail
  go_ret
  exact ⟨A6, c6, rfl, own_mono og.1 B1.size, B1.trans (og.2.mono B1.size)⟩

theorem fcC_bad {t : List (List Ev)} {b : Int} (h : ¬ trF t = 0) : fcC t b = trF t := if_neg h
theorem fcC_in {t : List (List Ev)} {b : Int} (h : trF t = 0) (hb : 1 ≤ b ∧ b ≤ 8) : fcC t b = 0 := by unfold fcC; rw [if_pos h, if_pos hb]
theorem fcC_out {t : List (List Ev)} {b : Int} (h : trF t = 0) (hb : ¬ (1 ≤ b ∧ b ≤ 8)) : fcC t b = 3 := by unfold fcC; rw [if_pos h, if_neg hb]

set_option maxHeartbeats 400000 in
theorem l4Asked_any (t : List (List Ev)) (b : Int) (A : Option Addr) (c : Nat) (w : World) (hm : t.length ≤ maxLen) (h : RdT w w.heap.size A t) :
    Calls Tryz.prog 40 #[.slice A t.length c, .int .i64 b] w fun e w' => e = .returned (.int .i64 (fcC t b)) ∧ Below w.heap.size w w' := by
  have TF := hide (specTrF_any t A c w hm h)
  by_cases h0 : trF t = 0
  · rw [h0] at TF
    by_cases hb : 1 ≤ b ∧ b ≤ 8
    · rw [fcC_in h0 hb]
      have LI := hide (fun W => l1In_yes b 1 8 W hb)
      clear h0 hb
      go_enter Tryz.func40, Tryz.ntmps40
      go_wp2_with fail
      refine TF.out.mono ?_
      rintro e w1 ⟨rfl, b1⟩
      go_wp2_with fail
      refine (LI.out _).mono ?_
      rintro e w2 ⟨rfl, rfl⟩
      go_wp2
      go_ret
      exact ⟨rfl, b1⟩
    · rw [fcC_out h0 hb]
      have LI := hide (fun W => l1In_no b 1 8 W (by omega))
      clear h0 hb
      go_enter Tryz.func40, Tryz.ntmps40
      go_wp2_with fail
      refine TF.out.mono ?_
      rintro e w1 ⟨rfl, b1⟩
      go_wp2_with fail
      refine (LI.out _).mono ?_
      rintro e w2 ⟨rfl, rfl⟩
      go_wp2
      go_ret
      exact ⟨rfl, b1⟩
  · rw [fcC_bad h0]
    obtain ⟨F, hF⟩ : ∃ F, F = trF t := ⟨_, rfl⟩
    rw [← hF] at TF h0 ⊢
    have g0 : (F != 0) = true := bne_iff_ne.2 h0
    have g1 : (F == 0) = false := beq_eq_false_iff_ne.2 h0
    clear hF h0
    go_enter Tryz.func40, Tryz.ntmps40
    go_wp2_with fail
    refine TF.out.mono ?_
    rintro e w1 ⟨rfl, b1⟩
    go_wp2
    go_ret
    exact ⟨rfl, b1⟩

theorem fcB_len (t : List (List Ev)) (b : Int) : (fcB t b).length ≤ 841 := by
  unfold fcB
  by_cases h : fcC t b = 0
  · obtain ⟨h0, h1, _⟩ := fcC_zero h
    have := hdF_len (b := b.toNat) (by omega) h0
    rw [if_pos h]
    unfold filL
    rw [List.length_append, fourL_length]
    omega
  · rw [if_neg h]; simp
theorem fcB_B8 (t : List (List Ev)) (b : Int) : B8 (fcB t b) := by
  unfold fcB
  by_cases h : fcC t b = 0
  · obtain ⟨h0, h1, _⟩ := fcC_zero h
    have h8 := hdF_B8 (b := b.toNat) (by omega) h0
    rw [if_pos h]
    exact h8.append (fourL_B8 (crcV_bd h8))
  · rw [if_neg h]; exact fun x hx => by simp at hx
end Go.Proofs.YtldepledinolmaaGreatDoor
namespace Go.Proofs.YtldepledinolmaaGreatDoor
open Go.RowKit

theorem ceil_step {n b : Nat} (hb : 1 ≤ b) (h : 0 < n) : (n + b - 1) / b = 1 + ((n - b) + b - 1) / b := by
  by_cases hn : b ≤ n
  · rw [show n + b - 1 = (n - b + b - 1) + b by omega, Nat.add_div_right _ (by omega)]
    omega
  · rw [show n + b - 1 = (n - 1) + b by omega, Nat.add_div_right _ (by omega), Nat.div_eq_of_lt (by omega), show n - b + b - 1 = b - 1 by omega, Nat.div_eq_of_lt (by omega)]
theorem chop_count {b : Nat} (hb : 1 ≤ b) : ∀ (f : Nat) (es : List Ev), es.length ≤ f → (chop b f es).length = (es.length + b - 1) / b
  | 0, es, h => by
    have : es = [] := List.eq_nil_of_length_eq_zero (by omega)
    subst this
    simp only [chop, List.length_nil]
    rw [Nat.div_eq_of_lt (by omega)]
  | f + 1, [], _ => by
    simp only [chop, List.length_nil]
    rw [Nat.div_eq_of_lt (by omega)]
  | f + 1, e :: r, h => by
    have hl : ((e :: r).drop b).length ≤ f := by rw [List.length_drop]; simp only [List.length_cons] at h ⊢; omega
    unfold chop
    rw [List.length_cons, chop_count hb f _ hl, List.length_drop, ceil_step hb (n := (e :: r).length) (by simp), Nat.add_comm]
theorem chopA_count {b : Nat} (hb : 1 ≤ b) (es : List Ev) : (chopA b es).length = (es.length + b - 1) / b := chop_count hb _ _ (Nat.le_refl _)
theorem filN_le (b : Nat) (t : List (List Ev)) (k : Nat) : filN b (t.take k) ≤ filN b t := by
  induction t generalizing k with
  | nil => simp
  | cons l r ih =>
    rcases k with _ | k
    · simp [filN]
    · have := ih k
      simp only [List.take_succ_cons, filN]
      omega
theorem filN_snoc (b : Nat) (t : List (List Ev)) (l : List Ev) : filN b (t ++ [l]) = filN b t + (chopA b l).length := by
  induction t with
  | nil => simp [filN]
  | cons x r ih => simp only [List.cons_append, filN, ih]; omega
theorem filN_take (b : Nat) (t : List (List Ev)) (k : Nat) (h : k < t.length) : filN b (t.take (k + 1)) = filN b (t.take k) + (chopA b t[k]).length := by
  rw [List.take_succ_eq_append_getElem h, filN_snoc]
theorem quo_nat (n b : Nat) (hb : 1 ≤ b) : ((n : Int) + b - 1).tdiv b = ((n + b - 1) / b : Nat) := by
  rw [show ((n : Int) + b - 1) = ((n + b - 1 : Nat) : Int) by omega]
  exact Int.ofNat_tdiv ..

set_option maxRecDepth 100000 in
set_option maxHeartbeats 800000 in
theorem implFin_any (t : List (List Ev)) (b : Int) (A : Option Addr) (c : Nat) (w : World) (hm : t.length ≤ maxLen) (h : RdT w w.heap.size A t) :
    Calls Tryz.prog 31 #[.slice A t.length c, .int .i64 b] w fun e w' => e = .returned (.agg #[.int .i64 (fcC t b), .int .i64 (fcN t b)]) ∧ Below w.heap.size w w' := by
  obtain ⟨W, hW⟩ : ∃ W, W = w.alloc (Obj.cells #[Value.int .i64 0, .int .i64 0] 63) := ⟨_, rfl⟩
  have HW := hide hW
  have hR : RdT W W.heap.size A t := by subst hW; exact (h.alloc (Nat.le_refl _) _).lt
  clear hW h
  have TF := hide (implTrF_any t A c W hm hR)
  by_cases h0 : trF t = 0
  · rw [h0] at TF
    by_cases hb : 1 ≤ b ∧ b ≤ 8
    · obtain ⟨B, rfl⟩ := Int.eq_ofNat_of_zero_le (show 0 ≤ b by omega)
      have HB : fcN t (B : Int) = (filN B t : Nat) := by unfold fcN; rw [if_pos (fcC_in h0 hb)]; rfl
      rw [fcC_in h0 hb, HB]
      obtain ⟨ht1, ht4, hall⟩ := trF_zero h0
      have hfl := (filF_len (b := B) (by omega) 0 t hall).2
      have hsum := sumT_few hall
      have h8 : ∀ k (hk : k < t.length), t[k].length ≤ 8 := fun k hk => (stF_zero (hall _ (List.getElem_mem hk))).1
      have SN := hide (fun (k : Nat) (hk : k < t.length) => filN_take B t k hk)
      have SL := hide (fun (k : Nat) => filN_le B t k)
      have CN := hide (fun (k : Nat) (hk : k < t.length) => chopA_count (b := B) (by omega) t[k])
      have TE : t.take t.length = t := List.take_length
      clear h0 HB hall
      go_enter Tryz.func31, Tryz.ntmps31
      go_wp2_with fail
      rw [← HW.out]
      refine TF.out.mono ?_
      rintro e w1 ⟨rfl, b1⟩
      go_wp2_with fail
      refine (allWithin_one _ _ _ _ _ _ (by simp [go_sem]) hb).mono ?_
      rintro e w2 ⟨rfl, rfl⟩
      have b2 := b1.alloc b1.size (Obj.cells #[.int .i64 B] 2)
      go_wp2_with fail
      go_loopw [6, 22] (fun v i wr => ∃ k : Nat, k ≤ t.length ∧ i = .int .i64 k ∧ v = .int .i64 (filN B (t.take k) : Nat) ∧ Below W.heap.size W wr) (fun _ i _ => t.length - (intOf i).toNat)
      case atStart => exact ⟨0, Nat.zero_le _, rfl, rfl, b2⟩
      case round =>
        obtain ⟨k, hk, rfl, rfl, bk⟩ := hrel
        by_cases hlt : k < t.length
        · obtain ⟨g, off, a, d, rfl, hbb, hc0, hle, hcm, hr⟩ := (hR.below bk).get hlt
          have k8 := h8 k hlt
          have kN := SL.out k
          have sN := SN.out k hlt
          rw [CN.out k hlt] at sN
          have hq := quo_nat t[k].length B (by omega)
          have hd8 : (t[k].length + B - 1) / B ≤ 15 := Nat.le_trans (Nat.div_le_self _ _) (by omega)
          have hz : ((B : Int) == 0) = false := by simp; omega
          obtain ⟨n, hn⟩ : ∃ n, n = t[k].length := ⟨_, rfl⟩
          obtain ⟨q, hqq⟩ : ∃ q, q = (n + B - 1) / B := ⟨_, rfl⟩
          rw [← hn] at hc0 sN hq hd8 k8 hle
          rw [← hqq] at sN hq hd8
          clear hn hqq
          go_wp2
          go_roundw
          case rel => exact ⟨k + 1, by omega, by go_num, by rw [sN]; go_num, bk⟩
          case measure => simp [intOf]; omega
        · obtain rfl : k = t.length := by omega
          rw [TE]
          have q0 := W_cell HW.out bk 0
          have q1 := W_cell HW.out bk 1
          have f0 := W_frozen HW.out bk 0
          have f1 := W_frozen HW.out bk 1
          simp at q0 q1
          go_wp2
          refine bodyPost_ret (v := .agg #[.int .i64 0, .int .i64 (filN B t : Nat)]) (by simp [results, Tryz.results31, go_sem, q0, q1]) rfl ?_
          exact ⟨rfl, ((W_below HW.out bk).setCell (Nat.le_refl _) _).setCell (Nat.le_refl _) _⟩
    · have HB : fcN t b = 0 := if_neg (by rw [fcC_out h0 hb]; decide)
      rw [fcC_out h0 hb, HB]
      have hb' : b < 1 ∨ 8 < b := by omega
      clear h0 HB hb
      go_enter Tryz.func31, Tryz.ntmps31
      go_wp2_with fail
      rw [← HW.out]
      refine TF.out.mono ?_
      rintro e w1 ⟨rfl, b1⟩
      go_wp2_with fail
      refine (allWithin_not _ _ _ _ _ _ (by simp [go_sem]) hb').mono ?_
      rintro e w2 ⟨rfl, rfl⟩
      have b2 := b1.alloc b1.size (Obj.cells #[.int .i64 b] 2)
      have q0 := W_cell HW.out b2 0
      have q1 := W_cell HW.out b2 1
      have f0 := W_frozen HW.out b2 0
      have f1 := W_frozen HW.out b2 1
      simp at q0 q1
      go_wp2
      refine bodyPost_ret (v := .agg #[.int .i64 3, .int .i64 0]) (by simp [results, Tryz.results31, go_sem, q0, q1]) rfl ?_
      exact ⟨rfl, ((W_below HW.out b2).setCell (Nat.le_refl _) _).setCell (Nat.le_refl _) _⟩
  · have HB : fcN t b = 0 := if_neg (by rw [fcC_bad h0]; exact h0)
    rw [fcC_bad h0, HB]
    obtain ⟨F, hF⟩ : ∃ F, F = trF t := ⟨_, rfl⟩
    rw [← hF] at TF h0 ⊢
    have g0 : (F != 0) = true := bne_iff_ne.2 h0
    have g1 : (F == 0) = false := beq_eq_false_iff_ne.2 h0
    clear hF h0 HB
    go_enter Tryz.func31, Tryz.ntmps31
    go_wp2_with fail
    rw [← HW.out]
    refine TF.out.mono ?_
    rintro e w1 ⟨rfl, hb⟩
    have q0 := W_cell HW.out hb 0
    have q1 := W_cell HW.out hb 1
    have f0 := W_frozen HW.out hb 0
    have f1 := W_frozen HW.out hb 1
    simp at q0 q1
    go_wp2
    refine bodyPost_ret (v := .agg #[.int .i64 F, .int .i64 0]) (by simp [results, Tryz.results31, go_sem, q0, q1]) rfl ?_
    exact ⟨rfl, ((W_below HW.out hb).setCell (Nat.le_refl _) _).setCell (Nat.le_refl _) _⟩
end Go.Proofs.YtldepledinolmaaGreatDoor
namespace Go.Proofs.YtldepledinolmaaGreatDoor
open Go

def noDefer (ops : Array Oper) : Bool := ops.all fun o => match o.op with | .defer _ => false | _ => true
theorem noDefer_spec {ops : Array Oper} (h : noDefer ops = true) {i : Nat} {o : Oper} (ho : ops[i]? = some o) : ∀ c, o.op ≠ .defer c := by
  intro c hc
  obtain ⟨hi, he⟩ := Array.getElem?_eq_some_iff.1 ho
  have := Array.all_eq_true.1 h i hi
  rw [he, hc] at this
  cases this

section
variable {P : Program} {ops : Array Oper} {Q : Exit → Act → World → Prop} {md : Region.Mode} {n : Nat} {l : Nat}
theorem wpIn_round_op {o : Oper} {a : Act} {w : World} {K K' : Act → World → Prop} (hd : ∀ c, o.op ≠ .defer c) (hK : ∀ a w, K a w → K' a w) (h : o.wp P a w K Q) : o.wpIn (Fence.wide.inRound l) n P a w K' Q := by
  refine ⟨fun f _ => trivial, ?_⟩
  rw [Oper.semAt_plain _ _ _ hd]
  unfold Oper.wp at h
  generalize (execOp a.eval o).run P w = r at *
  cases r with
  | ok x w' =>
    cases x <;> simp only [Oper.upon, Oper.uponIn] at h ⊢
    case value v => exact hK _ _ h
    case skip => exact hK _ _ h
    case defer d => exact hK _ _ h
    case enter f args =>
      refine ⟨fun h => (by cases h), CallsIn.inRound l (callsIn_wide.2 (Calls.mono h fun e w'' he => ?_))⟩
      cases e with
      | returned v => exact hK _ _ he
      | panicked c => exact he
      | outgrown => exact he
    case row row args =>
      exact ⟨fun h => (by cases h), fun c cs _ => let ⟨v, w'', r, s⟩ := h c cs; ⟨v, w'', hK _ _ r, (stepsIn_wide.2 s : StepsIn (Machine.fenced P Fence.wide) P _ _)⟩⟩
  | halt x w' =>
    cases x <;> simp only [Oper.upon, Oper.uponIn] at h ⊢
    case panic v => exact h
theorem wpAnyIn_round (hQ : ¬ LetsOut Q) (hd : noDefer ops = true) : ∀ (fuel : Nat) (listed : Array Bool) (a : Act) (w : World), wpAny P md ops Q fuel listed a w → wpAnyIn (Fence.wide.inRound l) n P md ops Q fuel listed a w
  | 0, _, _, _, h => h
  | fuel + 1, listed, a, w, h => by
    refine ⟨h.1, fun i hi => ?_⟩
    have h2 := h.2 i hi
    unfold wpOp at h2
    unfold wpOpIn
    split
    · rename_i hno
      rw [hno] at h2
      exact wpAnyIn_round hQ hd fuel _ _ _ h2
    · rename_i o ho
      simp only [ho] at h2
      split
      · rename_i hw
        rw [if_pos hw] at h2
        rcases h2 with h2 | ⟨_, h2⟩
        · exact wpIn_round_op (noDefer_spec hd ho) (fun a w => wpAnyIn_round hQ hd fuel _ a w) h2
        · exact absurd h2 hQ
      · rename_i hw
        rw [if_neg hw] at h2
        exact ⟨fun f _ => trivial, wpAnyIn_round hQ hd fuel _ _ _ h2⟩
theorem wpIn_region_E {id : Nat} {a : Act} {w : World} (m : Nat) (S : World → Prop) (hm : P.follows .mixedOrders = true) (hQ : ¬ LetsOut Q) (hd : noDefer ops = true) (hS : S w.drew)
    (h : S w.drew → wpAnyE P .any ops Q S m ops.size (Array.replicate ops.size false) a w.drew) : (Code.region id ops true).wpIn (Fence.wide.inRound l) n P Q a w :=
  wpIn_region_any hm (wpAnyIn_round hQ hd _ _ _ _ (wpAny_of_E (m := m) (S := S) _ _ _ _ (h hS)))
end
end Go.Proofs.YtldepledinolmaaGreatDoor
namespace Go.Proofs.YtldepledinolmaaGreatDoor
open Go.RowKit Go.Shelf
attribute [local go_sem] Oper.semAt_some

theorem Mks.nil (B : Nat) (w : World) : Mks B [] w := ⟨List.nodup_nil, fun _ h => by cases h⟩
theorem Mks.own {β : Type} {B B' : Nat} {Ds : List Nat} (hB : ∀ D ∈ Ds, D < B') : OwnFrom B' (fun (_ : β) w => Mks B Ds w) := fun _ X Y row hs hg hr =>
  ⟨hs.one, fun D hD => ⟨(hs.lie D hD).1, (hg.block D (hs.lt D hD) (fun e => by have := (hr D e.symm).1; have := hB D hD; omega)).trans (hs.lie D hD).2⟩⟩

/-- The bytes that have come lie in a row of the call's own, behind block V's; the variable's box beside it. -/
structure OutS (V : World) (xs : List Int) (v : Value) (w : World) : Prop where
  box : Bk w (V.heap.size + 1) #[v] 22
  row : w.ownsRow V.heap.size 5 1 v xs.length (xs.map (Value.int .u8))
  old : Below V.heap.size V w
section
variable {V w w' : World} {xs : List Int} {v : Value}
theorem OutS.below (h : OutS V xs v w) (hb : Below w.heap.size w w') : OutS V xs v w' := ⟨h.box.kept hb, own_below h.row hb (Nat.le_refl _), h.old.trans (hb.mono h.old.size)⟩
theorem OutS.drew (h : OutS V xs v w) : OutS V xs v w.drew := h.below (Below.refl _ _).drew
theorem OutS.alloc (h : OutS V xs v w) (o : Obj) : OutS V xs v (w.alloc o) := h.below ((Below.refl _ _).alloc (Nat.le_refl _) _)
theorem OutS.ne (h : OutS V xs v w) : some (V.heap.size + 1) ≠ v.ownBlock := Boxed.not_row (B := V.heap.size + 1) (t := 22) (e := 5) h.box (by decide) h.row
theorem OutS.ne2 {g : Nat} {u : Value} {ty : TypeId} (h : OutS V xs v w) (hb : Bk w g #[u] ty) (ht : ty ≠ 5) : some g ≠ v.ownBlock := Boxed.not_row (B := g) hb ht h.row
/-- Behind the append, ahead of the store. -/
theorem OutS.boxed (h : OutS V xs v w) (hg : w.grownBy w' v.ownBlock) : Bk w' (V.heap.size + 1) #[v] 22 := h.box.grown hg h.ne
/-- Behind the store. -/
theorem OutS.app {l : List Int} {v' : Value} (h : OutS V xs v w) (ho : w'.ownsRow V.heap.size 5 1 v' (xs.length + l.length) (xs.map (Value.int .u8) ++ l.map (Value.int .u8))) (hg : w.grownBy w' v.ownBlock) : OutS V (xs ++ l) v' (w'.setCell ⟨V.heap.size + 1, 0, none⟩ v') := by
  have hb := h.box.grown hg h.ne
  have hn : some (V.heap.size + 1) ≠ v'.ownBlock := Boxed.not_row (B := V.heap.size + 1) (t := 22) (e := 5) hb (by decide) ho
  refine ⟨by have := hb.set_ 0 v'; exact this, ?_, (h.old.grown hg h.old.size (fun k hk => (h.row.lt k hk).1)).setCell (p := ⟨V.heap.size + 1, 0, none⟩) (by simp) _⟩
  rw [List.length_append, List.map_append]
  exact ho.kept (grownBy_setCell' w' _ v') (.inr hn.symm)
theorem OutS.cells (h : OutS V xs v w) (j : Nat) (o : Obj) (ej : v.ownBlock = some j) (hj : w.heap[j]? = some o) : o.isCells = true := by
  rcases h.row.2 with ⟨rfl, _⟩ | ⟨g, cap, cur, rfl, _, hgb, _⟩
  · simp [Value.ownBlock] at ej
  · obtain rfl : g = j := by simpa [Value.ownBlock] using ej
    rw [hgb] at hj; cases hj; rfl
theorem OutS.others {v' : Value} (h : OutS V xs v w) (hg : w.grownBy w' v.ownBlock) : KeepsOthers w (w'.setCell ⟨V.heap.size + 1, 0, none⟩ v') :=
  (KeepsOthers.of_grownBy hg fun j o ej hj => h.cells j o ej hj).trans (KeepsOthers.setCell _ _ _)
/-- Another box lies on. -/
theorem OutS.far {g : Nat} {u v' : Value} {ty : TypeId} (h : OutS V xs v w) (hg : w.grownBy w' v.ownBlock) (hb : Bk w g #[u] ty) (ht : ty ≠ 5) (hne : g ≠ V.heap.size + 1) : Bk (w'.setCell ⟨V.heap.size + 1, 0, none⟩ v') g #[u] ty :=
  (hb.grown hg (h.ne2 hb ht)).far (p := ⟨V.heap.size + 1, 0, none⟩) hne _
theorem OutS.own {β : Type} {B : Nat} (hB : V.heap.size + 2 ≤ B) : OwnFrom B (fun (_ : β) w => OutS V xs v w) := fun _ X Y row hs hg hr => by
  have hrow : ∀ g cs t, Bk X g cs t → some g ≠ row := fun g cs t hb e => by
    obtain ⟨_, o, ho, hc⟩ := hr g e.symm
    rw [show X.heap[g]? = _ from hb] at ho; cases ho; cases hc
  refine ⟨hs.box.grown hg (hrow _ _ _ hs.box), hs.row.kept hg ?_, hs.old.grown hg hs.old.size (fun k e => by have := (hr k e).1; omega)⟩
  rcases hs.row.2 with ⟨rfl, _⟩ | ⟨g, cap, cur, rfl, _, hgb, _⟩
  · exact .inl rfl
  · refine .inr fun e' => ?_
    obtain ⟨_, o, ho, hc⟩ := hr g (by simpa [Value.ownBlock] using e'.symm)
    rw [hgb] at ho; cases ho; cases hc
end

theorem pcsB_snoc (i : Int) (ps : List (List Ev)) (p : List Ev) : pcsB i (ps ++ [p]) = pcsB i ps ++ frL i (packL 0 p) := by
  induction ps with
  | nil => simp [pcsB]
  | cons x r ih => simp only [List.cons_append, pcsB, ih, List.append_assoc]
theorem pcs_short (b : Nat) (hb : b ≤ 8) (es : List Ev) : ∀ pre : List { i : Nat // i < es.length }, ((pre.map (pce b es)).flatten).length ≤ 8 * pre.length
  | [] => by simp
  | x :: r => by
    have := pcs_short b hb es r
    have h1 : (pce b es x).length ≤ 8 := by unfold pce; rw [List.length_take]; omega
    simp only [List.map_cons, List.flatten_cons, List.length_append, List.length_cons]
    omega
theorem keeps_below {w w' : World} (h : Below w.heap.size w w') : KeepsOthers w w' := ⟨h.size, fun k _ hk _ => (h.block k (Array.getElem?_eq_some_iff.1 hk).1).trans hk⟩
theorem sumT_snoc (t : List (List Ev)) (l : List Ev) : sumT (t ++ [l]) = sumT t + l.length := by
  induction t with
  | nil => simp [sumT]
  | cons x r ih => simp only [List.cons_append, sumT, ih]; omega
theorem sumT_take (t : List (List Ev)) (k : Nat) (h : k < t.length) : sumT (t.take (k + 1)) = sumT (t.take k) + t[k].length := by
  rw [List.take_succ_eq_append_getElem h, sumT_snoc]
theorem sumT_le (t : List (List Ev)) (k : Nat) : sumT (t.take k) ≤ sumT t := by
  induction t generalizing k with
  | nil => simp
  | cons l r ih =>
    rcases k with _ | k
    · simp [sumT]
    · have := ih k
      simp only [List.take_succ_cons, sumT]
      omega
theorem held_set {w : World} {g a : Nat} {v u0 u1 : Value} {ty : TypeId} (h : Bk w g #[v] ty) (hne : g ≠ a) : ((w.setCell ⟨a, 0, none⟩ u0).setCell ⟨a, 1, none⟩ u1).cell? ⟨g, 0, none⟩ = some v := by
  have := ((h.far (p := ⟨a, 0, none⟩) hne u0).far (p := ⟨a, 1, none⟩) hne u1).cell 0
  rw [this]; rfl
theorem kpB_t {Bs Bn : Nat} {X Y Z : World} (h : KpB Bs Bn X Y) (k : KpB Bs Bn Y Z) : KpB Bs Bn X Z := ⟨fun v hv => k.1 v (h.1 v hv), fun v hv => k.2 v (h.2 v hv)⟩
theorem kpB_b {Bs Bn : Nat} {w : World} (W : World) (l : Nat) (o o' : Obj) (_ : w.heap.size ≤ l) (h : W.heap[l]? = some o) (hc : o.isCells = false) (_ : o.isWalk = false) : KpB Bs Bn W (W.putObj l o') := by
  have hk : ∀ g cs t, Bk W g cs t → Bk (W.putObj l o') g cs t := fun g cs t hb => by
    refine (World.putObj_heap_other (fun e => ?_)).trans hb
    subst e
    rw [show W.heap[g]? = _ from hb] at h; cases h; cases hc
  exact ⟨fun v => hk _ _ _, fun v => hk _ _ _⟩

theorem wpListIn_append_rd {F : Fence} {n : Nat} {P : Program} (w : World) {ops : Array Oper} {rest : List Oper} {o : Oper} {a : Act} {Q : Exit → Act → World → Prop} (hgd : o.guard = none) (s x : Operand) (t : TypeId)
    (ho : o.op = .call { callee := .builtin .append, args := #[s, x], argTypes := #[t, t] })
    (base : Nat) (e : TypeId) (i : TypeInfo) (z : Value) (bytes : Nat) (ht : P.underlying t = some (.slice e)) (hi : P.info? e = some i) (hz : i.zero = some z)
    (hsize : i.size = 1) (hby : i.bytes = bytes) (hzs : z.cells.size = 1) (k : IntKind)
    (v : Value) (m : Nat) (xs : List Value) (hs : a.eval s = v) (hown : w.ownsRow base e 1 v m xs) (A : Option Addr) (l : List Int) (c B : Nat) (hx : a.eval x = .slice A l.length c) (hR : Rd k w B A l)
    (h63 : m + l.length ≤ maxLen) (hbytes : (m + l.length) * bytes ≤ 140737488355328) (hbase : base ≤ w.heap.size)
    (h : ∀ v' w', w'.ownsRow base e 1 v' (m + l.length) (xs ++ l.map (Value.int k)) → w.grownBy w' v.ownBlock → (v'.ownBlock = v.ownBlock ∨ v'.ownBlock = some w.heap.size) → wpListIn F n P ops Q rest (a.put o.dst v') w') : wpListIn F n P ops Q (o :: rest) a w := by
  refine wpListIn_plain hgd fun K hK' => ?_
  obtain ⟨v', w', hrun, h2, h3, h5⟩ := run_append_rd (P := P) w base t o.type e i z bytes ht hi hz hsize hby hzs k v m xs hown A l c B hR h63 hbytes hbase
  unfold Oper.wpIn
  refine ⟨?_, ?_⟩
  · simp [Oper.about, ho, resolve, Target.leads, Sem.run_pure]
  · rw [Oper.semAt_plain F _ _ (by rw [ho]; intro c hc'; cases hc')]
    simp [execOp, ho, resolve, invoke, builtin, hs, hx, hrun, Result.andThen]
    exact hK' _ _ (h v' w' h2 h3 h5)

set_option maxRecDepth 100000 in
set_option maxHeartbeats 2000000 in
theorem implEnc_ok (t : List (List Ev)) (b : Nat) (A : Option Addr) (c : Nat) (w : World) (hm : t.length ≤ maxLen) (h : RdT w w.heap.size A t) (hT : Tab w) (h0 : trF t = 0) (hb1 : 1 ≤ b) (hb8 : b ≤ 8) :
    Calls Tryz.prog 18 #[.slice A t.length c, .int .i64 b] w fun e w' => ∃ A c, e = .returned (.agg #[.int .i64 0, .slice A (filL b t).length c]) ∧ w'.ownsRow w.heap.size 5 1 (.slice A (filL b t).length c) (filL b t).length ((filL b t).map (Value.int .u8)) ∧ Below w.heap.size w w' := by
  obtain ⟨W, hW⟩ : ∃ W, W = w.alloc (Obj.cells #[Value.int .i64 0, .slice none 0 0] 35) := ⟨_, rfl⟩
  have HW := hide hW
  have hR : RdT W W.heap.size A t := by subst hW; exact (h.alloc (Nat.le_refl _) _).lt
  have hTW : Tab W := by subst hW; exact hT.alloc _
  clear hW h hT
  have FN := hide (implFin_any t b A c W hm hR)
  have hc0 : fcC t (b : Int) = 0 := fcC_in h0 (by omega)
  have hn0 : fcN t (b : Int) = (filN b t : Nat) := by unfold fcN; rw [if_pos hc0]; rfl
  rw [hc0, hn0] at FN
  obtain ⟨i0, hi, hz0, hz1, hz2⟩ := info_parts info_u8
  obtain ⟨ht1, ht4, hall⟩ := trF_zero h0
  have hsum := sumT_few hall
  have hlen := filF_len hb1 0 t hall
  obtain ⟨N, hN⟩ : ∃ N, N = filN b t := ⟨_, rfl⟩
  rw [← hN] at FN hlen
  have HN := hide hN
  clear hN hn0 hc0
  refine (callsIn_wide (n := 3)).1 (callsIn_of_wp_marks Tryz.func18 rfl trivial (wpIn_wide.2 (wp_mono (Q := retOnly _) ?_ retOnly_up)) rfl)
  simp only [Tryz.ntmps18, List.size_toArray, List.length_cons, List.length_nil, Nat.reduceAdd, Nat.reduceSub, Array.replicate_succ, Array.replicate_zero, List.push_toArray, List.append_toArray, List.nil_append, List.cons_append]
  go_wp2_with fail
  rw [← HW.out]
  refine FN.out.mono ?_
  rintro e w1 ⟨rfl, b1⟩
  have hK := Bk.new w1 #[Value.int .i64 0, .int .i64 N] 63
  have z1 := b1.size
  have bV := b1.alloc z1 (Obj.cells #[Value.int .i64 0, .int .i64 N] 63)
  obtain ⟨gK, hgK⟩ : ∃ g, g = w1.heap.size := ⟨_, rfl⟩
  rw [← hgK] at hK
  have c0 := hK.cell 0
  go_wp2
  clear c0
  generalize hV : w1.alloc (Obj.cells #[Value.int .i64 0, .int .i64 N] 63) = V at hK bV ⊢
  have zV : w1.heap.size + 1 = V.heap.size := by rw [← hV]; simp
  rw [zV, ← hgK]
  have hRV : RdT V W.heap.size A t := hR.below bV
  have hTV : Tab V := hTW.below bV
  have hgV : gK < V.heap.size := hK.lt
  have zW : W.heap.size ≤ V.heap.size := bV.size
  have hgJ : w.heap.size < V.heap.size := by have := W_size HW.out; omega
  have hJ : Bk V w.heap.size #[Value.int .i64 0, .slice none 0 0] 35 := by
    have h1 : Bk W w.heap.size #[Value.int .i64 0, .slice none 0 0] 35 := by rw [HW.out]; exact Bk.new w _ _
    exact h1.kept bV
  have ob : OutS V [67, (t.length : Int)] (.slice (some ⟨V.heap.size, 0, none⟩) 2 2) ((V.alloc (Obj.cells #[.int .u8 67, .int .u8 t.length] 5)).alloc (Obj.cells #[.slice (some ⟨V.heap.size, 0, none⟩) 2 2] 22)) := by
    have b0 : OwnB V [67, (t.length : Int)] (.slice (some ⟨V.heap.size, 0, none⟩) 2 2) (V.alloc (Obj.cells #[.int .u8 67, .int .u8 t.length] 5)) := ⟨World.ownsRow_lit V #[.int .u8 67, .int .u8 t.length] 2 (Nat.le_refl _) (by unfold maxLen; omega) rfl, (Below.refl _ _).alloc (Nat.le_refl _) _⟩
    refine ⟨?_, own_below b0.1 ((Below.refl _ _).alloc (Nat.le_refl _) _) (Nat.le_refl _), (b0.2.alloc b0.2.size _)⟩
    have := Bk.new (V.alloc (Obj.cells #[.int .u8 67, .int .u8 t.length] 5)) #[.slice (some ⟨V.heap.size, 0, none⟩) 2 2] 22
    simpa using this
  clear hV hgK zV b1 z1 hR hTW
  refine wp_loop (fun a' w' => ∃ (k : Nat) (v : Value) (xs : List Int) (Ds : List Nat) (u8 u9 u27 u28 u29 u30 u31 u32 u33 u42 u43 u44 u45 u46 : Value), k ≤ t.length ∧ OutS V xs v w' ∧ Mks V.heap.size Ds w' ∧ Hid (xs ++ filF b k (t.drop k) = [67, (t.length : Int)] ++ filF b 0 t) ∧
    a' = { tmps := #[Value.slice A t.length c, Value.int IntKind.i64 b, undef, undef, Value.pointer (some ⟨w.heap.size, 0, none⟩), Value.pointer (some ⟨gK, 0, none⟩), Value.pointer (some ⟨V.heap.size + 1, 0, none⟩), Value.int IntKind.i64 (sumT (t.take k) : Nat), u8, u9,
          undef, Value.slice A t.length c, Value.int IntKind.i64 b, Value.agg #[Value.int IntKind.i64 0, Value.int IntKind.i64 N], Value.pointer (some ⟨gK, 0, none⟩), Value.int IntKind.i64 0, Value.bool false, undef,
          undef, undef, Value.slice A t.length c, Value.int IntKind.i64 t.length, Value.int IntKind.u8 t.length, Value.slice (some ⟨V.heap.size, 0, none⟩) 2 2, Value.slice A t.length c,
          Value.int IntKind.i64 t.length, Value.int IntKind.i64 k, u27, u28, u29, u30, u31, u32, u33, undef, undef, undef, undef, undef, undef, undef, undef, u42, u43, u44, u45, u46, undef, undef, undef, undef, undef, undef, undef, undef, undef, undef, undef, undef, undef], defers := Ds.map mark }) (fun a' _ => t.length - (intOf (a'.tmps.getD 26 undef)).toNat) ?start ?round
  case start => exact ⟨0, _, _, [], _, _, _, _, _, _, _, _, _, _, _, _, _, _, Nat.zero_le _, ob, Mks.nil _ _, hide (by simp), rfl⟩
  case round =>
    rintro a' wr ⟨k, v, xs, Ds, u8, u9, u27, u28, u29, u30, u31, u32, u33, u42, u43, u44, u45, u46, hk, ho, hM, HR, rfl⟩
    by_cases hlt : k < t.length
    · obtain ⟨bk, off, a, d, hA, hbb, hc0, hle, hcm, hr⟩ := hRV.get hlt
      subst hA
      have hc1 : wr.cell? ⟨bk, off + k, none⟩ = some (.slice a t[k].length d) := (ho.old.cell (p := ⟨bk, off + k, none⟩) (by simp only; omega)).trans hc0
      have hst := hall _ (List.getElem_mem hlt)
      have h8 := (stF_zero hst).1
      have HFa := hide (filF_at b k t hlt)
      have HSu := hide (show sumT (t.take (k + 1)) = sumT (t.take k) + t[k].length from sumT_take t k hlt)
      obtain ⟨es, hes⟩ : ∃ es, es = t[k] := ⟨_, rfl⟩
      rw [← hes] at hc0 hc1 hle hr hst h8 HFa HSu
      clear hes
      go_wp2_with fail
      have hgC : wr.heap.size < (wr.alloc (Obj.cells #[Value.int .i64 k] 3)).heap.size := by simp
      have hkC := Bk.new wr #[Value.int .i64 k] 3
      have oY := ho.alloc (Obj.cells #[Value.int .i64 k] 3)
      have mY := hM.kept ((Below.refl _ _).alloc (Nat.le_refl _) (Obj.cells #[Value.int .i64 k] 3))
      have hqC : V.heap.size + 1 < wr.heap.size := ho.box.lt
      obtain ⟨gC, hgC2⟩ : ∃ g, g = wr.heap.size := ⟨_, rfl⟩
      rw [← hgC2] at hgC hkC hqC
      rw [← hgC2]
      generalize hY : wr.alloc (Obj.cells #[Value.int .i64 k] 3) = Y at hgC hkC oY mY ⊢
      clear hY hgC2 hc1 hc0
      refine (chunk_any a es.length d b _ hb1).mono ?_
      rintro e w2 ⟨rfl, rfl⟩
      have hkS := (Bk.new Y #[.slice a es.length d] 78).alloc (Obj.cells #[Value.int .i64 b] 3)
      have hkN := Bk.new (Y.alloc (Obj.cells #[.slice a es.length d] 78)) #[Value.int .i64 b] 3
      rw [World.size_alloc] at hkN
      have oX := (oY.alloc (Obj.cells #[.slice a es.length d] 78)).alloc (Obj.cells #[Value.int .i64 b] 3)
      have bX := ((Below.refl Y.heap.size Y).alloc (Nat.le_refl _) (Obj.cells #[.slice a es.length d] 78)).alloc (by simp) (Obj.cells #[Value.int .i64 b] 3)
      have zX : ((Y.alloc (Obj.cells #[.slice a es.length d] 78)).alloc (Obj.cells #[Value.int .i64 b] 3)).heap.size = Y.heap.size + 2 := by simp
      have mX := mY.kept bX
      have kX := hkC.kept bX
      obtain ⟨Bs, hBs⟩ : ∃ B, B = Y.heap.size := ⟨_, rfl⟩
      rw [← hBs] at hkS hkN hgC zX
      rw [← hBs]
      generalize hX : (Y.alloc (Obj.cells #[.slice a es.length d] 78)).alloc (Obj.cells #[Value.int .i64 b] 3) = X at hkS hkN oX zX mX kX ⊢
      have hdl : ∀ D ∈ Ds, D < X.heap.size := mX.lt
      clear hX hBs bX mY oY hkC
      go_wp2_with fail
      have hAa : 0 < es.length → ∃ g off, a = some ⟨g, off, none⟩ := fun h0 => by
        obtain ⟨g, o, e, _⟩ := hr (by rw [evs_length]; omega)
        exact ⟨g, o, e⟩
      have hfew := plcs_few (b := b) (n := es.length) hb1 es.length 0 (by omega)
      refine wpIn_wide.1 (wpIn_rangeFunc_ownF (F := Fence.wide) (n := 4) rfl (by decide) (gf := 72) (lb := #[.pointer (some ⟨Bs, 0, none⟩), .pointer (some ⟨Bs + 1, 0, none⟩)]) rfl trivial (enters_of Tryz.func72 (by kernel_rfl) rfl)
        (chunk_stops Fence.wide 3 trivial rfl (by decide) Bs (Bs + 1) a es.length d b hb1 hb8 (by omega) hle hAa X hkS hkN) (fun h k => kpB_t h k) kpB_b (Below.refl _ _) (fun _ => rfl)
        (fun pre W' => (∃ v', OutS V (xs ++ pcsB k (pre.map (pce b es))) v' W') ∧ Mks V.heap.size Ds W' ∧ Bk W' gC #[.int .i64 k] 3)
        (fun _ _ _ => False)
        (fun s X' Y' row hs hg hr' => by
          obtain ⟨⟨v', h1⟩, h2, h3⟩ := hs
          refine ⟨⟨v', OutS.own (β := Unit) (B := X.heap.size) (by omega) () X' Y' row h1 hg hr'⟩, Mks.own (β := Unit) (B' := X.heap.size) hdl () X' Y' row h2 hg hr', h3.grown hg (fun e => ?_)⟩
          have := (hr' gC e.symm).1
          omega)
        (fun _ _ _ _ _ hs _ _ => hs)
        ⟨⟨v, by simpa [pcsB] using oX⟩, mX, kX⟩
        (fun x => { tmps := #[Value.slice (some ⟨bk, off, none⟩) t.length c, Value.int .i64 b, undef, undef, Value.pointer (some ⟨w.heap.size, 0, none⟩), Value.pointer (some ⟨gK, 0, none⟩),
              Value.pointer (some ⟨V.heap.size + 1, 0, none⟩), Value.int .i64 (sumT (t.take k) : Nat), Value.pointer (some ⟨gC, 0, none⟩),
              Value.slice a es.length d, .slice (a.map (·.add (x.1 * 3))) (min b (es.length - x.1)) (min b (es.length - x.1)), Value.slice (some ⟨bk, off, none⟩) t.length c,
              Value.int .i64 b, Value.agg #[Value.int .i64 0, Value.int .i64 N],
              Value.pointer (some ⟨gK, 0, none⟩), Value.int .i64 0, Value.bool false, undef, undef,
              undef, Value.slice (some ⟨bk, off, none⟩) t.length c, Value.int .i64 t.length,
              Value.int .u8 t.length, Value.slice (some ⟨V.heap.size, 0, none⟩) 2 2,
              Value.slice (some ⟨bk, off, none⟩) t.length c, Value.int .i64 t.length,
              Value.int .i64 k, Value.bool true, Value.int .i64 k,
              Value.pointer (some ⟨bk, off + k, none⟩), Value.slice a es.length d,
              Value.slice a es.length d, Value.int .i64 b, .func (.func 72) #[] #[.pointer (some ⟨Bs, 0, none⟩), .pointer (some ⟨Bs + 1, 0, none⟩)], .slice (a.map (·.add (x.1 * 3))) (min b (es.length - x.1)) (min b (es.length - x.1)), undef, undef, undef, undef, undef, undef,
              undef, u42, u43, u44, u45, u46, undef, undef, undef, undef, undef, undef, undef, undef, undef, undef,
              undef, undef, undef], defers := [] }) ?assign ?body ?done ?stop)
      case assign =>
        intro l x W' K hK'
        simp only [encP]
        gi_wp2
        exact hK'
      case body =>
        rintro l pre x W' ⟨⟨v', o'⟩, m', k'⟩ hlenN
        have hx := x.2
        have hpl : min b (es.length - x.1) = (pce b es x).length := by unfold pce; rw [List.length_take, List.length_drop]
        have hrp : RdE W' W'.heap.size (a.map (·.add (x.1 * 3))) (pce b es x) := by
          have := ((hr.cut (n := x.1) (by omega) hle).take_ b)
          unfold cutE at this
          rw [if_neg (by omega)] at this
          exact (this.below (o'.old.mono zW)).lt
        have hsp : stF (pce b es x) = 0 := stF_part hst (by unfold pce; rw [List.length_take, List.length_drop]; omega) (fun y hy => List.mem_of_mem_drop (List.mem_of_mem_take hy))
        have hp0 : 0 < (pce b es x).length := by rw [← hpl]; omega
        have hp8 : (pce b es x).length ≤ 8 := by rw [← hpl]; omega
        have hf0 : frF (k : Int) (pce b es x) = 0 := frF_of (by omega) (by omega) hp0 hsp
        have hfb := frB_ok hf0
        have hfl := frB_len (k : Int) (pce b es x)
        rw [hpl]
        obtain ⟨p, hp⟩ : ∃ p, p = pce b es x := ⟨_, rfl⟩
        have HS := hide (show pcsB (k : Int) ((pre ++ [x]).map (pce b es)) = pcsB k (pre.map (pce b es)) ++ frB k p by rw [List.map_append, List.map_cons, List.map_nil, pcsB_snoc, hp, hfb])
        rw [← hp] at hrp hf0 hfl hp8
        rw [← hp]
        obtain ⟨Ap, hAp⟩ : ∃ Ap, Ap = a.map (·.add (x.1 * 3)) := ⟨_, rfl⟩
        rw [← hAp] at hrp
        rw [← hAp]
        have PF := hide (fun W h1 h2 => implPackF_any k p Ap p.length W (by unfold maxLen; omega) h1 h2)
        rw [hf0] at PF
        obtain ⟨fb, hfb2⟩ : ∃ fb, fb = frB (k : Int) p := ⟨_, rfl⟩
        rw [← hfb2] at PF HS hfl
        clear hf0 hfb hp hAp hfb2 hpl hsp hp0
        have hmx : Tryz.prog.follows .mixedOrders = true := by kernel_rfl
        have hcB : W'.cell? ⟨V.heap.size + 1, 0, none⟩ = some v' := by rw [o'.box.cell 0]; rfl
        have hcC : W'.cell? ⟨gC, 0, none⟩ = some (.int .i64 k) := by rw [k'.cell 0]; rfl
        have hT' : Tab W'.drew := hTV.below o'.drew.old
        have hfd := field_bytes
        have hxl : (xs ++ pcsB (k : Int) (pre.map (pce b es))).length ≤ 3000 := by
          have q1 := pcsB_len (k : Int) (pre.map (pce b es)) (fun y hy => by
            obtain ⟨z, _, rfl⟩ := List.mem_map.1 hy
            exact stF_part hst (by unfold pce; rw [List.length_take, List.length_drop]; omega) (fun y hy => List.mem_of_mem_drop (List.mem_of_mem_take hy)))
          have q2 := pcs_short b hb8 es pre
          have q3 := congrArg List.length HR.out
          simp only [List.length_append, List.length_cons, List.length_nil] at q3 ⊢
          rw [List.length_map] at q1
          omega
        have hrp' : RdE W'.drew W'.drew.heap.size Ap p := hrp
        obtain ⟨xs', hxs'⟩ : ∃ xs', xs' = xs ++ pcsB (k : Int) (pre.map (pce b es)) := ⟨_, rfl⟩
        rw [← hxs'] at o' hxl
        have HX := hide hxs'
        clear hxs'
        have hcBd : W'.drew.cell? ⟨V.heap.size + 1, 0, none⟩ = some v' := hcB
        have hcCd : W'.drew.cell? ⟨gC, 0, none⟩ = some (.int .i64 k) := hcC
        gi_wp2
        refine wpIn_region_E 7 (fun w' => w'.cell? ⟨V.heap.size + 1, 0, none⟩ = some v' ∧ w'.cell? ⟨gC, 0, none⟩ = some (.int .i64 k)) hmx (fun ⟨_, _, h⟩ => h) (by kernel_rfl) ⟨hcBd, hcCd⟩ (fun hHeld => ?_)
        try simp only [Act.put, List.setIfInBounds_toArray, List.set_cons_zero, List.set_cons_succ]
        refine wpAnyE_load (i := 0) (v := ?_) (by (simp only [List.getElem?_toArray, List.getElem?_cons_zero]; rfl)) (by kernel_rfl) (by kernel_rfl) (by kernel_rfl) (by decide) (by exact fun _ _ _ h => h) hHeld (by kernel_rfl) (by kernel_rfl) (Or.inl ⟨by rfl, ?_⟩) ?_
        rotate_left
        · (intro w' hSw; obtain ⟨hSw1, hSw2⟩ := hSw; go_simp <;> with_reducible rfl)
        try simp only [Act.put, List.setIfInBounds_toArray, List.set_cons_zero, List.set_cons_succ]
        refine wpAnyE_load (i := 1) (v := ?_) (by (simp only [List.getElem?_toArray, List.getElem?_cons_succ, List.getElem?_cons_zero]; rfl)) (by kernel_rfl) (by kernel_rfl) (by kernel_rfl) (by decide) (by exact fun _ _ _ h => h) hHeld (by kernel_rfl) (by kernel_rfl) (Or.inl ⟨by rfl, ?_⟩) ?_
        rotate_left
        · (intro w' hSw; obtain ⟨hSw1, hSw2⟩ := hSw; go_simp <;> with_reducible rfl)
        try simp only [Act.put, List.setIfInBounds_toArray, List.set_cons_zero, List.set_cons_succ]
        refine wpAnyE_take (i := 2) (v := ?_) (by (simp only [List.getElem?_toArray, List.getElem?_cons_succ, List.getElem?_cons_zero]; rfl)) (by kernel_rfl) (by kernel_rfl) (by kernel_rfl) (by decide) (by exact fun _ _ _ h => h) (.inr hHeld) (Or.inl ⟨by rfl, ?_⟩) ?_
        rotate_left
        · (intro w' _; go_simp <;> with_reducible rfl)
        try simp only [Act.put, List.setIfInBounds_toArray, List.set_cons_zero, List.set_cons_succ]
        refine wpAnyE_take (i := 3) (v := ?_) (by (simp only [List.getElem?_toArray, List.getElem?_cons_succ, List.getElem?_cons_zero]; rfl)) (by kernel_rfl) (by kernel_rfl) (by kernel_rfl) (by decide) (by exact fun _ _ _ h => h) (.inr hHeld) (Or.inl ⟨by rfl, ?_⟩) ?_
        rotate_left
        · (intro w' _; go_simp <;> with_reducible rfl)
        try simp only [Act.put, List.setIfInBounds_toArray, List.set_cons_zero, List.set_cons_succ]
        refine wpAnyE_ready (rs := [4]) (by kernel_rfl) (by simp) ?_
        refine AllReadyE.cons (by (simp only [List.getElem?_toArray, List.getElem?_cons_succ, List.getElem?_cons_zero]; rfl)) (fun K hK => ?_) AllReadyE.nil
        go_simp
        go_at_call 48
        refine (PF.out _ hrp' hT').mono ?_
        rintro e w3 ⟨A3, c3, rfl, o3, b3⟩
        have o4 := o'.drew.below b3
        have r3 := Rd.of_own o3
        have hcB3 : w3.cell? ⟨V.heap.size + 1, 0, none⟩ = some v' := by rw [o4.box.cell 0]; rfl
        have k4 : Bk w3 gC #[.int .i64 k] 3 := (show Bk W'.drew gC #[.int .i64 k] 3 from k').kept b3
        have hcC3 : w3.cell? ⟨gC, 0, none⟩ = some (.int .i64 k) := by rw [k4.cell 0]; rfl
        refine hK.out _ _ ⟨hcB3, hcC3⟩ (fun hNew => ?_)
        clear hK K hHeld
        have hHeld := hNew
        clear hNew
        try simp only [Act.put, List.setIfInBounds_toArray, List.set_cons_zero, List.set_cons_succ]
        refine wpAnyE_take (i := 5) (v := ?_) (by (simp only [List.getElem?_toArray, List.getElem?_cons_succ, List.getElem?_cons_zero]; rfl)) (by kernel_rfl) (by kernel_rfl) (by kernel_rfl) (by decide) (by exact fun _ _ _ h => h) (.inr hHeld) (Or.inl ⟨by rfl, ?_⟩) ?_
        rotate_left
        · (intro w' _; go_simp <;> with_reducible rfl)
        try simp only [Act.put, List.setIfInBounds_toArray, List.set_cons_zero, List.set_cons_succ]
        refine wpAnyE_ready (rs := [6]) (by kernel_rfl) (by simp) ?_
        refine AllReadyE.cons (by (simp only [List.getElem?_toArray, List.getElem?_cons_succ, List.getElem?_cons_zero]; rfl)) (fun K hK => ?_) AllReadyE.nil
        refine step_append_rd _ (by rfl) (.tmp 35) (.tmp 40) 22 rfl V.heap.size 5 i0 (.int .u8 0) 1 Tryz.underlying22 hi hz0 hz1 hz2 rfl .u8 _ _ _ rfl o4.row A3 fb c3 _ rfl r3 (by unfold maxLen; omega) (by omega) o4.old.size ?_
        intro v5 w5 o5 g5 hat5
        have bx5 := o4.boxed g5
        have c5 : w5.cell? ⟨V.heap.size + 1, 0, none⟩ = some v' := by rw [bx5.cell 0]; rfl
        have f5 := bx5.frozen 0
        have k5 := k4.grown g5 (o4.ne2 k4 (by decide))
        have hcC5 : w5.cell? ⟨gC, 0, none⟩ = some (.int .i64 k) := by rw [k5.cell 0]; rfl
        refine hK.out _ _ ⟨c5, hcC5⟩ (fun hNew => ?_)
        clear hK K hHeld
        try simp only [Act.put, List.setIfInBounds_toArray, List.set_cons_zero, List.set_cons_succ]
        obtain ⟨A5, d5, hv5⟩ := own_shape o5
        have fin1 := OutS.others (v' := v5) o4 g5
        have fin2 := o4.app o5 g5
        have fin3 := fun g u ty (h : Bk w3 g #[u] ty) ht hne => OutS.far (v' := v5) o4 g5 h ht hne
        rw [hv5] at fin1 fin2 fin3
        rw [hv5]
        refine wpAnyE_ready (rs := [7]) (by kernel_rfl) (by simp) ?_
        refine AllReadyE.last (by (simp only [List.getElem?_toArray, List.getElem?_cons_succ, List.getElem?_cons_zero]; rfl)) (by kernel_rfl) (fun K hK => ?_) AllReadyE.nil
        go_simp
        refine hK.out _ _ ?_
        clear hK K
        try simp only [Act.put, List.setIfInBounds_toArray, List.set_cons_zero, List.set_cons_succ]
        refine wpAnyE_done (by kernel_rfl) ?_ _
        have kp1 := (KeepsOthers.drew W').trans ((keeps_below b3).trans fin1)
        have e3 : ∀ g u ty, Bk W' g #[u] ty → Bk w3 g #[u] ty := fun g u ty h => (show Bk W'.drew g #[u] ty from h).kept b3
        exact ⟨kp1, ⟨fun u h => fin3 _ u _ (e3 _ _ _ h) (by decide) (by omega), fun u h => fin3 _ u _ (e3 _ _ _ h) (by decide) (by omega)⟩, ⟨⟨_, by rw [HS.out, ← List.append_assoc, ← HX.out]; exact fin2⟩, m'.others kp1, fin3 _ _ _ k4 (by decide) (by omega)⟩⟩
      case done =>
        rintro D ys W3 hD rfl ⟨⟨v3, o3⟩, m3, k3⟩ hKD
        have hpc := plcs_pces hb1 es es.length 0 (by omega)
        rw [List.drop_zero] at hpc
        rw [hpc] at o3
        have hm3 : Mks V.heap.size (D :: Ds) W3 := ⟨List.nodup_cons.2 ⟨fun hd => by have := hdl D hd; omega, m3.one⟩, fun E hE => by
          rcases List.mem_cons.1 hE with rfl | hE
          · exact ⟨by omega, hKD⟩
          · exact m3.lie E hE⟩
        have hsk : sumT (t.take k) ≤ 1000 := by have := sumT_le t k; omega
        go_wp2
        exact ⟨⟨k + 1, v3, _, D :: Ds, _, _, _, _, _, _, _, _, _, _, _, _, _, _, by omega, o3, hm3, hide (by rw [List.append_assoc, ← HFa.out]; exact HR.out), by simp only [HSu.out, Int.natCast_add]; rfl⟩, by simp [intOf]; omega⟩
      case stop =>
        rintro D c' pre W' _ _ h'
        exact h'.elim
    · obtain rfl : k = t.length := by omega
      have e1 := HR.out
      rw [filF_end b t.length t (by omega), List.append_nil] at e1
      rw [List.take_length]
      have hS32 : sumT t ≤ 32 := by omega
      have hN32 : N ≤ 32 := by omega
      have HD : Hid (hdF b t = xs ++ [69, (N : Int), (sumT t : Int)]) := hide (by unfold hdF; rw [e1, HN.out])
      have hdl := hdF_len hb1 h0
      have hd8 := hdF_B8 hb1 h0
      obtain ⟨H, hH⟩ : ∃ H, H = hdF b t := ⟨_, rfl⟩
      have FL : Hid (filL b t = H ++ fourL (crcV H)) := hide (by rw [hH]; rfl)
      rw [← hH] at HD hdl hd8
      have SB := hide (fun A c W hR hT => sumBytes_any H A c W (by omega) hR hd8 hT)
      obtain ⟨L, hL⟩ : ∃ L, L = filL b t := ⟨_, rfl⟩
      rw [← hL] at FL
      have HL := hide hL
      have hbd := crcV_bd hd8
      obtain ⟨cv, hcv⟩ : ∃ cv, cv = crcV H := ⟨_, rfl⟩
      rw [← hcv] at SB FL hbd
      have hxl : xs.length ≤ 840 := by
        have := congrArg List.length HD.out
        simp only [List.length_append] at this
        omega
      obtain ⟨S, hS⟩ : ∃ S, S = sumT t := ⟨_, rfl⟩
      rw [← hS] at HD hS32 ⊢
      clear hcv hL hH e1 hS hall hsum hlen
      have kW := hK.below ho.old hgV
      have kc1 : wr.cell? ⟨gK, 1, none⟩ = some (.int .i64 N) := by rw [kW.cell 1]; rfl
      have bc1 : wr.cell? ⟨V.heap.size + 1, 0, none⟩ = some v := by rw [ho.box.cell 0]; rfl
      have ob := ho.alloc (Obj.cells #[.int .u8 69, .int .u8 N, .int .u8 S] 5)
      have r1 := Rd.of_own (k := .u8) (l := [69, (N : Int), (S : Int)]) (World.ownsRow_lit wr #[.int .u8 69, .int .u8 N, .int .u8 S] 3 (e := 5) (size := 1) (base := wr.heap.size) (Nat.le_refl _) (by unfold maxLen; omega) rfl)
      have jW := hJ.below ho.old hgJ
      go_wp2_with (at_builtin; refine wpList_append_rd _ rfl (.tmp 47) (.tmp 53) 22 rfl V.heap.size 5 i0 (.int .u8 0) 1 Tryz.underlying22 hi hz0 hz1 hz2 rfl .u8 v _ _ rfl ob.row (some ⟨wr.heap.size, 0, none⟩) [69, (N : Int), (S : Int)] 3 _ rfl r1 (by unfold maxLen; simp; omega) (by simp; omega) ob.old.size ?_; intro v4 w4 o4 g4 hat4; have oc := OutS.app (v' := v4) ob o4 g4; have m4 := (hM.others ((KeepsOthers.alloc wr (Obj.cells #[.int .u8 69, .int .u8 N, .int .u8 S] 5)).trans (OutS.others (v' := v4) ob g4))); have bx4 := ob.boxed g4; have c4 : w4.cell? ⟨V.heap.size + 1, 0, none⟩ = some v := (by rw [bx4.cell 0]; rfl); have f4 := bx4.frozen 0; obtain ⟨D4, d4, hv4⟩ := own_shape o4; rw [hv4] at oc m4; rw [hv4])
      have hHl : H.length = xs.length + 3 := by rw [HD.out]; simp
      have oc' : OutS V H (.slice D4 H.length d4) (w4.setCell ⟨V.heap.size + 1, 0, none⟩ (.slice D4 H.length d4)) := by
        rw [HD.out]; simpa using oc
      have m4' : Mks V.heap.size Ds (w4.setCell ⟨V.heap.size + 1, 0, none⟩ (.slice D4 H.length d4)) := by
        rw [HD.out]; simpa using m4
      have hlen4 : xs.length + ([69, (N : Int), (S : Int)] : List Int).length = H.length := by rw [hHl]; rfl
      try rw [hlen4]
      try rw [show xs.length + 3 = H.length from hHl.symm]
      generalize hW4 : w4.setCell ⟨V.heap.size + 1, 0, none⟩ (.slice D4 H.length d4) = W4 at oc' m4' ⊢
      clear hW4 c4 f4 bx4 oc m4 o4 g4 hat4 hv4 ob r1 bc1 kc1 kW jW ho hM hlen4 hHl
      have d1 : W4.drew.cell? ⟨V.heap.size + 1, 0, none⟩ = some (.slice D4 H.length d4) := by rw [oc'.drew.box.cell 0]; rfl
      have r4 : Rd .u8 W4.drew W4.drew.heap.size D4 H := Rd.of_own oc'.drew.row
      have hT4 : Tab W4.drew := hTV.below oc'.drew.old
      have hJ4 := hJ.below oc'.old hgJ
      refine wp_region_E 5 (fun w' => w'.cell? ⟨V.heap.size + 1, 0, none⟩ = some (.slice D4 H.length d4)) (by kernel_rfl) d1 (fun hHeld => ?_)
      try simp only [Act.put, List.setIfInBounds_toArray, List.set_cons_zero, List.set_cons_succ]
      refine wpAnyE_load (i := 0) (v := ?_) (by (simp only [List.getElem?_toArray, List.getElem?_cons_zero]; rfl)) (by kernel_rfl) (by kernel_rfl) (by kernel_rfl) (by decide) (by exact fun _ _ _ h => h) hHeld (by kernel_rfl) (by kernel_rfl) (Or.inl ⟨by rfl, ?_⟩) ?_
      rotate_left
      · (intro w' hSw; (try dsimp only at hSw); go_simp <;> with_reducible rfl)
      try simp only [Act.put, List.setIfInBounds_toArray, List.set_cons_zero, List.set_cons_succ]
      refine wpAnyE_load (i := 1) (v := ?_) (by (simp only [List.getElem?_toArray, List.getElem?_cons_succ, List.getElem?_cons_zero]; rfl)) (by kernel_rfl) (by kernel_rfl) (by kernel_rfl) (by decide) (by exact fun _ _ _ h => h) hHeld (by kernel_rfl) (by kernel_rfl) (Or.inl ⟨by rfl, ?_⟩) ?_
      rotate_left
      · (intro w' hSw; (try dsimp only at hSw); go_simp <;> with_reducible rfl)
      try simp only [Act.put, List.setIfInBounds_toArray, List.set_cons_zero, List.set_cons_succ]
      refine wpAnyE_ready (rs := [2]) (by kernel_rfl) (by simp) ?_
      refine AllReadyE.cons (by (simp only [List.getElem?_toArray, List.getElem?_cons_succ, List.getElem?_cons_zero]; rfl)) (fun K hK => ?_) AllReadyE.nil
      go_simp
      go_at_call 49
      refine (SB.out _ _ _ r4 hT4).mono ?_
      rintro e w6 ⟨g6, rfl, o6, b6⟩
      have oc6 := oc'.drew.below b6
      have c6 : w6.cell? ⟨V.heap.size + 1, 0, none⟩ = some (.slice D4 H.length d4) := by rw [oc6.box.cell 0]; rfl
      refine hK.out _ _ c6 (fun hNew => ?_)
      clear hK K hHeld
      have hHeld := hNew
      clear hNew
      try simp only [Act.put, List.setIfInBounds_toArray, List.set_cons_zero, List.set_cons_succ]
      refine wpAnyE_ready (rs := [3]) (by kernel_rfl) (by simp) ?_
      refine AllReadyE.cons (by (simp only [List.getElem?_toArray, List.getElem?_cons_succ, List.getElem?_cons_zero]; rfl)) (fun K hK => ?_) AllReadyE.nil
      refine step_append_rd _ (by rfl) (.tmp 55) (.tmp 57) 22 rfl V.heap.size 5 i0 (.int .u8 0) 1 Tryz.underlying22 hi hz0 hz1 hz2 rfl .u8 _ _ _ rfl oc6.row (some ⟨g6, 0, none⟩) (fourL cv) 4 _ rfl (Rd.of_own o6) (by unfold maxLen; rw [fourL_length]; omega) (by rw [fourL_length]; omega) oc6.old.size ?_
      intro v7 w7 o7 g7 hat7
      have bx7 := oc6.boxed g7
      have c7 : w7.cell? ⟨V.heap.size + 1, 0, none⟩ = some (.slice D4 H.length d4) := by rw [bx7.cell 0]; rfl
      refine hK.out _ _ c7 (fun hNew => ?_)
      clear hK K hHeld
      have hHeld := hNew
      clear hNew
      try simp only [Act.put, List.setIfInBounds_toArray, List.set_cons_zero, List.set_cons_succ]
      have bl7 := oc6.old.grown g7 oc6.old.size (fun k hk => (oc6.row.lt k hk).1)
      have m7 : Mks V.heap.size Ds w7 := ((show Mks V.heap.size Ds W4.drew from m4'.kept (Below.refl _ _).drew).kept b6).others (KeepsOthers.of_grownBy g7 (fun j o ej hj => oc6.cells j o ej hj))
      have hLl : H.length + (fourL cv).length = L.length := by rw [FL.out, List.length_append]
      rw [← List.map_append, ← FL.out, hLl] at o7
      obtain ⟨A7, c7', hv7⟩ := own_shape o7
      rw [hv7] at o7
      rw [hv7]
      have j7 := hJ.below bl7 hgJ
      have q0 := j7.cell 0
      have q1 := j7.cell 1
      have f0 := j7.frozen 0
      have f1 := j7.frozen 1
      simp at q0 q1
      refine wpAnyE_take (i := 4) (v := ?_) (by (simp only [List.getElem?_toArray, List.getElem?_cons_succ, List.getElem?_cons_zero]; rfl)) (by kernel_rfl) (by kernel_rfl) (by kernel_rfl) (by decide) (by exact fun _ _ _ h => h) (.inr hHeld) (Or.inl ⟨by rfl, ?_⟩) ?_
      rotate_left
      · (intro w' _; go_simp <;> with_reducible rfl)
      try simp only [Act.put, List.setIfInBounds_toArray, List.set_cons_zero, List.set_cons_succ]
      refine wpAnyE_ready (rs := [5]) (by kernel_rfl) (by simp) ?_
      refine AllReadyE.last (by (simp only [List.getElem?_toArray, List.getElem?_cons_succ, List.getElem?_cons_zero]; rfl)) (by kernel_rfl) (fun K hK => ?_) AllReadyE.nil
      go_simp
      refine hK.out _ _ ?_
      clear hK K
      try simp only [Act.put, List.setIfInBounds_toArray, List.set_cons_zero, List.set_cons_succ]
      refine wpAnyE_done (by kernel_rfl) ?_ _
      go_wp2
      rw [← HL.out]
      have bw := W_below HW.out bV
      have j8 : Bk ((w7.setCell ⟨w.heap.size, 0, none⟩ (.int .i64 0)).setCell ⟨w.heap.size, 1, none⟩ (.slice A7 L.length c7')) w.heap.size #[Value.int .i64 0, .slice A7 L.length c7'] 35 := by
        have := (j7.set_ 0 (.int .i64 0)).set_ 1 (.slice A7 L.length c7')
        simpa using this
      have o8 := ownsRow_setCell_below (ownsRow_setCell_below o7 (a := ⟨w.heap.size, 0, none⟩) hgJ (.int .i64 0)) (a := ⟨w.heap.size, 1, none⟩) hgJ (.slice A7 L.length c7')
      have b8 := ((bw.trans (bl7.mono bw.size)).setCell (p := ⟨w.heap.size, 0, none⟩) (Nat.le_refl _) (.int .i64 0)).setCell (p := ⟨w.heap.size, 1, none⟩) (Nat.le_refl _) (.slice A7 L.length c7')
      have m8 := (m7.others (KeepsOthers.setCell w7 ⟨w.heap.size, 0, none⟩ (.int .i64 0))).others (KeepsOthers.setCell _ ⟨w.heap.size, 1, none⟩ (.slice A7 L.length c7'))
      refine leaves_marks (B := V.heap.size) (Φ := fun w' => Bk w' w.heap.size #[Value.int .i64 0, .slice A7 L.length c7'] 35 ∧ w'.ownsRow w.heap.size 5 1 (.slice A7 L.length c7') L.length (L.map (Value.int .u8)) ∧ Below w.heap.size w w') ?_ ?_ Ds _ m8 ⟨j8, own_mono o8 (by omega), b8⟩
      · rintro s X Y row ⟨h1, h2, h3⟩ hg hr
        refine ⟨h1.grown hg (fun e => ?_), h2.kept hg ?_, h3.grown hg (Nat.le_trans h3.size (Nat.le_refl _)) (fun k e => by have := (hr k e).1; omega)⟩
        · have := (hr _ e.symm).1
          omega
        · rcases h2.2 with ⟨h', _⟩ | ⟨g, cap, cur, h', _, hgb, _⟩
          · exact .inl (by rw [h']; rfl)
          · refine .inr fun e' => ?_
            rw [h'] at e'
            obtain ⟨_, o, ho, hc⟩ := hr g (by simpa [Value.ownBlock] using e'.symm)
            rw [hgb] at ho; cases ho; cases hc
      · rintro w' ⟨h1, h2, h3⟩
        have q0 := h1.cell 0
        have q1 := h1.cell 1
        simp at q0 q1
        exact ⟨.agg #[.int .i64 0, .slice A7 L.length c7'], by simp [results, Tryz.results18, go_sem, q0, q1], ⟨A7, c7', rfl, h2, h3⟩⟩

set_option maxRecDepth 100000 in
set_option maxHeartbeats 800000 in
theorem implEnc_any (t : List (List Ev)) (b : Int) (A : Option Addr) (c : Nat) (w : World) (hm : t.length ≤ maxLen) (h : RdT w w.heap.size A t) (hT : Tab w) :
    Calls Tryz.prog 18 #[.slice A t.length c, .int .i64 b] w fun e w' => ∃ A c, e = .returned (.agg #[.int .i64 (fcC t b), .slice A (fcB t b).length c]) ∧ w'.ownsRow w.heap.size 5 1 (.slice A (fcB t b).length c) (fcB t b).length ((fcB t b).map (Value.int .u8)) ∧ Below w.heap.size w w' := by
  by_cases h0 : fcC t b = 0
  · obtain ⟨e0, e1, e2⟩ := fcC_zero h0
    obtain ⟨B, rfl⟩ := Int.eq_ofNat_of_zero_le (show 0 ≤ b by omega)
    have HB : fcB t (B : Int) = filL B t := by unfold fcB; rw [if_pos h0]; rfl
    rw [h0, HB]
    exact implEnc_ok t B A c w hm h hT e0 (by omega) (by omega)
  · have HB : fcB t b = [] := if_neg h0
    have HN : fcN t b = 0 := if_neg h0
    obtain ⟨W, hW⟩ : ∃ W, W = w.alloc (Obj.cells #[Value.int .i64 0, .slice none 0 0] 35) := ⟨_, rfl⟩
    have HW := hide hW
    have hR : RdT W W.heap.size A t := by subst hW; exact (h.alloc (Nat.le_refl _) _).lt
    clear hW h hT
    have FN := hide (implFin_any t b A c W hm hR)
    rw [HN] at FN
    rw [HB]
    obtain ⟨F, hF⟩ : ∃ F, F = fcC t b := ⟨_, rfl⟩
    rw [← hF] at FN h0 ⊢
    have g0 : (F != 0) = true := bne_iff_ne.2 h0
    have g1 : (F == 0) = false := beq_eq_false_iff_ne.2 h0
    clear hF h0 HB HN
    go_enter Tryz.func18, Tryz.ntmps18
    go_wp2_with fail
    rw [← HW.out]
    refine FN.out.mono ?_
    rintro e w1 ⟨rfl, b1⟩
    have hb := b1.alloc b1.size (Obj.cells #[Value.int .i64 F, .int .i64 0] 63)
    have q0 := W_cell HW.out hb 0
    have q1 := W_cell HW.out hb 1
    have f0 := W_frozen HW.out hb 0
    have f1 := W_frozen HW.out hb 1
    simp at q0 q1
    go_wp2
    refine bodyPost_ret (v := .agg #[.int .i64 F, .slice none 0 0]) (by simp [results, Tryz.results18, go_sem, q0, q1]) rfl ?_
    exact ⟨none, 0, rfl, World.ownsRow_nil _ _ _ _, ((W_below HW.out hb).setCell (Nat.le_refl _) _).setCell (Nat.le_refl _) _⟩
end Go.Proofs.YtldepledinolmaaGreatDoor
