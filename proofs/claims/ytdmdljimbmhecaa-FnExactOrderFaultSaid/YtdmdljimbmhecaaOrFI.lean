/- The contract of OrderFault in the program; slices.Index, Contains at ids, sameStores. -/
import Derived.Test.YtdmdljimbmhecaaOrdI
import Derived.Test.YtdmdljimbmhecaaEqW
import Derived.Test.YtdmdljimbmhecaaOdm6
import Derived.Test.YtdmdljimbmhecaaMergeI
import Derived.Test.YtdmdljimbmhecaaGTrS
namespace Go.Proofs.Ytdmdljimbmhecaa
open Go.RowKit

set_option maxRecDepth 100000 in
set_option maxHeartbeats 400000 in
theorem indexId_any (l : List Wid) (A : Option Addr) (c : Nat) (x : Wid) (w : World) (hm : l.length ≤ maxLen) (h : RdC w w.heap.size A (wids l)) :
    Calls Try.prog 131 #[.slice A l.length c, .agg #[.int .i64 x.c, .int .i64 x.i]] w fun e w' => ∃ r : Int, e = .returned (.int .i64 r) ∧ (0 ≤ r ↔ x ∈ l) ∧ Below w.heap.size w w' := by
  unfold maxLen at hm
  have kb := Bk.new w #[.int .i64 x.c, .int .i64 x.i] 96
  have hb0 := (Below.refl w.heap.size w).alloc (Nat.le_refl _) (Obj.cells #[.int .i64 x.c, .int .i64 x.i] 96)
  go_enter Try.func131, Try.ntmps131
  go_wp2
  go_loopw [8] (fun i wr => ∃ k : Nat, k ≤ l.length ∧ i = .int .i64 k ∧ Below w.heap.size w wr ∧ Bk wr w.heap.size #[.int .i64 x.c, .int .i64 x.i] 96 ∧ Hid (∀ j (hj : j < l.length), j < k → l[j] ≠ x)) (fun i _ => l.length - (intOf i).toNat)
  case atStart => exact ⟨0, Nat.zero_le _, rfl, hb0, kb, hide fun j hj h => by omega⟩
  case round =>
    clear kb hb0
    obtain ⟨k, hk, rfl, hb, kb, HR⟩ := hrel
    have q0 := (kb.cell 0).trans (rfl : _ = some (Value.int .i64 x.c))
    have q1 := (kb.cell 1).trans (rfl : _ = some (Value.int .i64 x.i))
    by_cases hlt : k < l.length
    · obtain ⟨b, off, rfl, hbb, hc0, hc1⟩ := ids_get (h.below hb) hlt
      by_cases he : x = l[k]
      · have HM := hide (show x ∈ l from by rw [he]; exact List.getElem_mem hlt)
        rw [← he] at hc0 hc1
        clear he
        go_wp2
        go_quiet (fail)
        go_wp2
        go_ret
        exact ⟨(k : Int), rfl, ⟨fun _ => HM.out, fun _ => by omega⟩, below_drewN hb _⟩
      · have HE := hide (show ∀ j (hj : j < l.length), j < k + 1 → l[j] ≠ x from fun j hj h1 e => by
          by_cases hjk : j = k
          · subst hjk; exact he e.symm
          · exact HR.out j hj (by omega) e)
        rcases wid_ne he with hx | ⟨hx0, hx⟩
        · have f0 := beq_eq_false_iff_ne.2 hx
          clear he hx
          go_wp2
          go_quiet (fail)
          go_wp2
          go_roundw
          case rel => exact ⟨k + 1, by omega, by go_num, below_drewN hb _, kb.drewN _, HE⟩
          case measure => simp [intOf]; omega
        · rw [← hx0] at hc0
          have f0 := beq_eq_false_iff_ne.2 hx
          clear he hx hx0
          go_wp2
          go_quiet (fail)
          go_wp2
          go_roundw
          case rel => exact ⟨k + 1, by omega, by go_num, below_drewN hb _, kb.drewN _, HE⟩
          case measure => simp [intOf]; omega
    · obtain rfl : k = l.length := by omega
      have HM := hide (show ¬ x ∈ l from fun hx => by
        obtain ⟨j, hj, e⟩ := List.getElem_of_mem hx
        exact HR.out j hj hj e)
      go_wp2
      go_ret
      exact ⟨-1, rfl, ⟨fun h => by omega, fun h => absurd h HM.out⟩, hb⟩
theorem containsId_any (l : List Wid) (A : Option Addr) (c : Nat) (x : Wid) (w : World) (hm : l.length ≤ maxLen) (h : RdC w w.heap.size A (wids l)) :
    Calls Try.prog 106 #[.slice A l.length c, .agg #[.int .i64 x.c, .int .i64 x.i]] w fun e w' => e = .returned (.bool (decide (x ∈ l))) ∧ Below w.heap.size w w' := by
  have hR := (h.alloc (Nat.le_refl _) (Obj.cells #[.int .i64 x.c, .int .i64 x.i] 96)).lt
  go_enter Try.func106, Try.ntmps106
  go_wp2_with fail
  refine (indexId_any l A c x _ hm hR).mono ?_
  rintro e w1 ⟨r, rfl, hr, b1⟩
  have HR := hide (show decide (0 ≤ r) = decide (x ∈ l) from decide_eq_decide.2 hr)
  clear hr
  go_wp2
  go_ret
  exact ⟨ret_bool HR.out, below_alloc b1⟩

/-- As the program asks of two lists. -/
def sameSt (x y : Wls) : Bool := decide (sameStW x y)
theorem sameSt_true {x y : Wls} : sameSt x y = true ↔ sameStW x y := decide_eq_true_iff
set_option maxRecDepth 100000 in
set_option maxHeartbeats 800000 in
theorem sameStores_any : TellsW 62 sameSt := by
  intro x y a a' d d' w hx hy hr hr'
  unfold maxLen at hx hy
  obtain ⟨W, hW⟩ : ∃ W, W = (w.alloc (Obj.cells #[.int .i64 x.a, .slice a x.ids.length d] 82)).alloc (Obj.cells #[.int .i64 y.a, .slice a' y.ids.length d'] 82) := ⟨_, rfl⟩
  obtain ⟨k1, k2, hz, B0⟩ := two_new _ _ _ _ _ W hW
  have HW := hide hW
  clear hW
  have q0 := (k1.cell 0).trans (rfl : _ = some (Value.int .i64 x.a))
  have q1 := (k1.cell 1).trans (rfl : _ = some (Value.slice a x.ids.length d))
  have p0 := (k2.cell 0).trans (rfl : _ = some (Value.int .i64 y.a))
  have p1 := (k2.cell 1).trans (rfl : _ = some (Value.slice a' y.ids.length d'))
  go_enter Try.func62, Try.ntmps62
  generalize hQ : w.heap.size = Q at *
  by_cases ha : x.a = y.a
  · have f0 : (x.a == y.a) = true := beq_iff_eq.2 ha
    have f1 : (x.a != y.a) = false := by rw [bne, f0]; rfl
    by_cases hn : y.ids.length = x.ids.length
    · have HS := hide (show (∀ z ∈ y.ids, z ∈ x.ids) → sameSt x y = true from fun h => sameSt_true.2 ⟨ha, hn.symm, h⟩)
      have HN := hide (show ∀ z ∈ y.ids, ¬ z ∈ x.ids → sameSt x y = false from fun z hz h => by
        cases hh : sameSt x y
        · rfl
        · exact absurd ((sameSt_true.1 hh).2.2 z hz) h)
      have g0 : ((x.ids.length : Int) == (y.ids.length : Int)) = true := by rw [hn]; simp
      have g1 : ((x.ids.length : Int) != (y.ids.length : Int)) = false := by rw [bne, g0]; rfl
      clear ha hn
      have HC := hide (fun V (z : Wid) (hV : RdC V V.heap.size a (wids x.ids)) => containsId_any x.ids a d z V (by unfold maxLen; omega) hV)
      go_wp2_with (rw [← HW.out])
      clear q0 q1 p0 p1 k2
      go_loopw [24] (fun i wr => ∃ k : Nat, k ≤ y.ids.length ∧ i = .int .i64 k ∧ Below Q w wr ∧ Bk wr Q #[.int .i64 x.a, .slice a x.ids.length d] 82 ∧ Hid (∀ j (hj : j < y.ids.length), j < k → y.ids[j] ∈ x.ids)) (fun i _ => y.ids.length - (intOf i).toNat)
      case atStart => exact ⟨0, Nat.zero_le _, rfl, B0, k1, hide fun j hj h => by omega⟩
      case round =>
        clear k1 B0
        obtain ⟨k, hk, rfl, hb, kb, HR⟩ := hrel
        by_cases hlt : k < y.ids.length
        · obtain ⟨b, off, rfl, hbb, hc0, hc1⟩ := ids_get (hr'.below hb) hlt
          obtain ⟨z, hzz⟩ : ∃ z, z = y.ids[k] := ⟨_, rfl⟩
          rw [← hzz] at hc0 hc1
          obtain ⟨W2, hW2⟩ : ∃ W2, W2 = wr.alloc (Obj.cells #[.int .i64 z.c, .int .i64 z.i] 96) := ⟨_, rfl⟩
          have kz : Bk W2 wr.heap.size #[.int .i64 z.c, .int .i64 z.i] 96 := by rw [hW2]; exact Bk.new wr _ _
          have kb2 : Bk W2 Q #[.int .i64 x.a, .slice a x.ids.length d] 82 := by rw [hW2]; exact kb.alloc _
          have hb2 : Below Q w W2 := by rw [hW2]; exact hb.alloc (by have := hb.size; omega) _
          have HW2 := hide hW2
          have HZ := hide hzz
          clear hW2 hzz
          have q1 := (kb2.cell 1).trans (rfl : _ = some (Value.slice a x.ids.length d))
          have z0 := (kz.cell 0).trans (rfl : _ = some (Value.int .i64 z.c))
          have z1 := (kz.cell 1).trans (rfl : _ = some (Value.int .i64 z.i))
          have CC := hide (HC.out W2 z ((hr.below hb2).lt))
          by_cases hin : z ∈ x.ids
          · have HE := hide (show ∀ j (hj : j < y.ids.length), j < k + 1 → y.ids[j] ∈ x.ids from fun j hj h1 => by
              by_cases hjk : j = k
              · subst hjk; rw [← HZ.out]; exact hin
              · exact HR.out j hj (by omega))
            rw [decide_eq_true hin] at CC
            clear hin
            go_upto_region 6 with fail
            rw [← HW2.out]
            go_wp2_with fail
            refine CC.out.mono ?_
            rintro e w3 ⟨rfl, b3⟩
            have kb3 := kb2.kept b3
            have hb3 := hb2.trans (b3.mono (by have := hb2.size; omega))
            go_wp2
            go_roundw
            case rel => exact ⟨k + 1, by omega, by go_num, hb3, kb3, HE⟩
            case measure => simp [intOf]; omega
          · have HE := hide (HN.out z (by rw [HZ.out]; exact List.getElem_mem hlt) hin)
            rw [decide_eq_false hin] at CC
            clear hin
            go_upto_region 6 with fail
            rw [← HW2.out]
            go_wp2_with fail
            refine CC.out.mono ?_
            rintro e w3 ⟨rfl, b3⟩
            have hb3 := hb2.trans (b3.mono (by have := hb2.size; omega))
            go_wp2
            go_ret
            exact ⟨ret_bool HE.out.symm, hb3⟩
        · obtain rfl : k = y.ids.length := by omega
          have HE := hide (HS.out fun z hz => by
            obtain ⟨j, hj, e⟩ := List.getElem_of_mem hz
            rw [← e]
            exact HR.out j hj hj)
          go_wp2
          go_ret
          exact ⟨ret_bool HE.out.symm, hb⟩
    · have HE := hide (show sameSt x y = false from by
        cases hh : sameSt x y
        · rfl
        · exact absurd (sameSt_true.1 hh).2.1.symm hn)
      have g0 : ((x.ids.length : Int) == (y.ids.length : Int)) = false := beq_eq_false_iff_ne.2 (by omega)
      have g1 : ((x.ids.length : Int) != (y.ids.length : Int)) = true := bne_iff_ne.2 (by omega)
      clear hn ha
      go_wp2_with (rw [← HW.out])
      go_ret
      exact ⟨ret_bool HE.out.symm, B0⟩
  · have HE := hide (show sameSt x y = false from by
      cases hh : sameSt x y
      · rfl
      · exact absurd (sameSt_true.1 hh).1 ha)
    have f0 : (x.a == y.a) = false := beq_eq_false_iff_ne.2 ha
    have f1 : (x.a != y.a) = true := bne_iff_ne.2 ha
    clear ha
    go_wp2_with (rw [← HW.out])
    go_ret
    exact ⟨ret_bool HE.out.symm, B0⟩

set_option maxRecDepth 100000 in
set_option maxHeartbeats 800000 in
theorem eqFuncS_any (os O : List Wls) (A A' : Option Addr) (c c' : Nat) (w : World) (hm : os.length ≤ maxLen) (h : RdW w w.heap.size A os) (h' : RdW w w.heap.size A' O) :
    Calls Try.prog 58 #[.slice A os.length c, .slice A' O.length c', .func (.func 62) #[] #[]] w fun e w' => e = .returned (.bool (relB sameSt os O)) ∧ Below w.heap.size w w' := by
  unfold maxLen at hm
  by_cases hlen : O.length = os.length
  · have HS := hide (fun (h : UpF sameSt os O os.length) => relB_all hlen.symm h)
    rw [hlen]
    have hfl : ∀ k : Nat, k < os.length → k < O.length := fun k h => by omega
    have HL := hide hfl
    clear hfl hlen
    go_enter Try.func58, Try.ntmps58
    go_wp2
    go_loopw [17] (fun i wr => ∃ k : Nat, k ≤ os.length ∧ i = .int .i64 k ∧ Below w.heap.size w wr ∧ Hid (UpF sameSt os O k)) (fun i _ => os.length - (intOf i).toNat)
    case atStart => exact ⟨0, Nat.zero_le _, rfl, Below.refl _ _, hide fun i _ _ h => by omega⟩
    case round =>
      obtain ⟨k, hk, rfl, hb, HR⟩ := hrel
      by_cases hlt : k < os.length
      · obtain ⟨b, off, a, d, rfl, hbb, hc0, hc1, hle, hcm, hr⟩ := (h.below hb).get hlt
        obtain ⟨b', off', a', d', rfl, hbb', hd0, hd1, hle', hdm, hr'⟩ := (h'.below hb).get (HL.out _ hlt)
        obtain ⟨x, hx⟩ : ∃ x, x = os[k] := ⟨_, rfl⟩
        obtain ⟨y, hy⟩ : ∃ y, y = O[k]'(HL.out _ hlt) := ⟨_, rfl⟩
        rw [← hx] at hc0 hc1 hle hr
        rw [← hy] at hd0 hd1 hle' hr'
        obtain ⟨W, hW⟩ : ∃ W, W = (wr.alloc (Obj.cells #[.int .i64 x.a, .slice a x.ids.length d] 82)).alloc (Obj.cells #[.int .i64 y.a, .slice a' y.ids.length d'] 82) := ⟨_, rfl⟩
        obtain ⟨k1, k2, hz, B0⟩ := two_new _ _ _ _ _ W hW
        have HW := hide hW
        have e0 := (World.cell?_alloc_lt wr (Obj.cells #[.int .i64 x.a, .slice a x.ids.length d] 82) ⟨b', off' + k * 2, none⟩ (block_lt_of_cell hd0)).trans hd0
        have e1 := (World.cell?_alloc_lt wr (Obj.cells #[.int .i64 x.a, .slice a x.ids.length d] 82) ⟨b', off' + k * 2 + 1, none⟩ (block_lt_of_cell hd1)).trans hd1
        have q0 := (k1.cell 0).trans (rfl : _ = some (Value.int .i64 x.a))
        have q1 := (k1.cell 1).trans (rfl : _ = some (Value.slice a x.ids.length d))
        have p0 := (k2.cell 0).trans (rfl : _ = some (Value.int .i64 y.a))
        have p1 := (k2.cell 1).trans (rfl : _ = some (Value.slice a' y.ids.length d'))
        have B1 := hb.trans (B0.mono hb.size)
        have SP := hide (sameStores_any x y a a' d d' W (by omega) (by omega) ((hr.lt.below B0).lt) ((hr'.lt.below B0).lt))
        have HX := hide hx
        have HY := hide hy
        clear hW hx hy hr hr' k1 k2 hz B0
        cases hf : sameSt x y
        · have HE := hide (show relB sameSt os O = false from relB_not hlt (HL.out _ hlt) (by rw [← HX.out, ← HY.out]; exact hf))
          rw [hf] at SP
          clear hf
          go_upto_region 7 with fail
          rw [← HW.out]
          go_wp2_with fail
          refine SP.out.mono ?_
          rintro e w3 ⟨rfl, hb3⟩
          have hb4 := B1.trans (hb3.mono B1.size)
          go_wp2
          go_ret
          exact ⟨ret_bool HE.out.symm, hb4⟩
        · have HE := hide (HR.out.step (k := k) fun h1 h2 => by rw [← HX.out, ← HY.out]; exact hf)
          rw [hf] at SP
          clear hf
          go_upto_region 7 with fail
          rw [← HW.out]
          go_wp2_with fail
          refine SP.out.mono ?_
          rintro e w3 ⟨rfl, hb3⟩
          have hb4 := B1.trans (hb3.mono B1.size)
          go_wp2
          go_roundw
          case rel => exact ⟨k + 1, by omega, by go_num, hb4, HE⟩
          case measure => simp [intOf]; omega
      · obtain rfl : k = os.length := by omega
        go_wp2
        go_ret
        exact ⟨ret_bool (HS.out HR.out).symm, hb⟩
  · rw [relB_len (fun e => hlen e.symm)]
    have f0 : ((os.length : Int) == (O.length : Int)) = false := beq_eq_false_iff_ne.2 (by omega)
    have f1 : ((os.length : Int) != (O.length : Int)) = true := bne_iff_ne.2 (by omega)
    clear hlen
    go_enter Try.func58, Try.ntmps58
    go_wp2
    go_ret
    exact ⟨rfl, Below.refl _ _⟩

theorem relB_st (os O : List Wls) : relB sameSt os O = true ↔ os.length = O.length ∧ ∀ i (h : i < os.length) (h' : i < O.length), sameStW os[i] O[i] := by
  unfold relB
  constructor
  · intro h
    by_cases hh : os.length = O.length ∧ ∀ i (h : i < os.length) (h' : i < O.length), sameSt os[i] O[i] = true
    · exact ⟨hh.1, fun i h h' => sameSt_true.1 (hh.2 i h h')⟩
    · rw [if_neg hh] at h; cases h
  · rintro ⟨h1, h2⟩
    exact if_pos ⟨h1, fun i h h' => sameSt_true.2 (h2 i h h')⟩
theorem field_log (a : Int) (D : Option Addr) (n d : Nat) (W : World) : (Instr.field 88 (.agg #[.int .i64 a, .slice D n d]) 1).run Try.prog W = .ok (.slice D n d) W := by kernel_rfl
/-- The log of a trace without picks, and its write order. -/
theorem log_right {t : List (List Ev)} (h : trF t = 0) : (mgL t []).length ≤ 32 ∧ (∀ s ∈ mgL t [], 0 ≤ s.c ∧ s.c < 4) ∧ rightO t (ordW (mgL t [])) := by
  have h0 : mgC t [] = 0 := mgC_ok h (by simp)
  have hok := mgL_ok h0
  have hlog : logF (mgL t []) (t.length : Int) = 0 := by rw [hok]; exact logF_logO h
  obtain ⟨hn, hl, hG, _⟩ := logF_zero hlog
  have hall := logG_all hG
  refine ⟨hl, fun s hs => by have := (hall s hs).1; omega, ?_⟩
  have hr := ordW_right (ss := mgL t []) (N := t.length) fun s hs => by have := (hall s hs).1; omega
  have e : spT t.length (mgL t []) = t := by rw [hok]; exact spT_logO t []
  rw [e] at hr
  exact hr

set_option maxRecDepth 100000 in
set_option maxHeartbeats 800000 in
theorem implOrF_any (t : List (List Ev)) (os : List Wls) (A A' : Option Addr) (c c' : Nat) (w : World) (hm : t.length ≤ maxLen) (hm' : os.length ≤ maxLen) (h : RdT w w.heap.size A t) (h' : RdW w w.heap.size A' os) :
    Calls Try.prog 17 #[.slice A t.length c, .slice A' os.length c'] w fun e w' => e = .returned (.int .i64 (odF t os)) ∧ Below w.heap.size w w' := by
  have TF := hide (implTrF_any t A c w hm h)
  by_cases h0 : trF t = 0
  · rw [h0] at TF
    obtain ⟨l1, l2, l3⟩ := log_right h0
    have MG := hide (fun V (hV : RdT V V.heap.size A t) => implMg_any t [] A none c 0 V hm (by simp) (fun p hp => by simp at hp) hV Rd.nil_)
    unfold MgPost at MG
    rw [mgC_ok h0 (by simp)] at MG
    obtain ⟨L, hL⟩ : ∃ L, L = mgL t [] := ⟨_, rfl⟩
    rw [← hL] at MG l1 l2 l3
    have hLm : L.length ≤ maxLen := by unfold maxLen; omega
    have OO := hide (fun B c V (hV : RdP V V.heap.size B L) => ordersOf_any L B c V l1 l2 hV)
    obtain ⟨O, hO⟩ : ∃ O, O = ordW L := ⟨_, rfl⟩
    rw [← hO] at OO l3
    have EF := hide (fun A A' c c' V (hV : RdW V V.heap.size A os) hV' => eqFuncS_any os O A A' c c' V hm' hV hV')
    have HR := hide (relB_st os O)
    obtain ⟨r, hr⟩ : ∃ r, r = relB sameSt os O := ⟨_, rfl⟩
    rw [← hr] at EF HR
    have HV := hide (show odF t os = if r = true then 0 else 7 by
      by_cases hrr : r = true
      · rw [if_pos hrr]; exact odF_ok h0 ((right_iff l3).2 (HR.out.1 hrr))
      · rw [if_neg hrr]; exact odF_no h0 fun hh => hrr (HR.out.2 ((right_iff l3).1 hh)))
    have ff := field_log
    clear hL hO hr HR l1 l2 l3 h0
    go_enter Try.func17, Try.ntmps17
    go_wp2_with fail
    refine TF.out.mono ?_
    rintro e w1 ⟨rfl, b1⟩
    have z1 := b1.size
    have h1 := (h.below b1).lt
    have h1' := h'.below b1
    go_wp2_with fail
    refine (MG.out w1 h1).mono ?_
    rintro e w2 ⟨B2, c2, rfl, o2, b2⟩
    have x2 := RdP.of_own o2
    have B2' := b1.trans (b2.mono z1)
    have h2' := h1'.below (b2.mono z1)
    clear o2
    go_wp2_with fail
    refine (OO.out _ _ w2 x2).mono ?_
    rintro e w3 ⟨v3, us3, rfl, o3, b3⟩
    obtain ⟨A3, c3, hv3⟩ := own_shape o3.row
    subst hv3
    have x3 := o3.rd
    have B3' := B2'.trans (b3.mono B2'.size)
    have h3' := (h2'.below (b3.mono B2'.size)).lt
    clear o3
    go_wp2_with fail
    refine (EF.out _ _ _ _ w3 h3' x3).mono ?_
    rintro e w4 ⟨rfl, b4⟩
    have B4' := B3'.trans (b4.mono B3'.size)
    cases r
    · go_wp2
      go_ret
      exact ⟨ret_int (by rw [HV.out]; rfl), B4'⟩
    · go_wp2
      go_ret
      exact ⟨ret_int (by rw [HV.out]; rfl), B4'⟩
  · have HV := hide (odF_t (os := os) h0)
    obtain ⟨F, hF⟩ : ∃ F, F = trF t := ⟨_, rfl⟩
    rw [← hF] at TF h0 HV
    have g0 : (F != 0) = true := bne_iff_ne.2 h0
    have g1 : (F == 0) = false := beq_eq_false_iff_ne.2 h0
    clear hF h0
    go_enter Try.func17, Try.ntmps17
    go_wp2_with fail
    refine TF.out.mono ?_
    rintro e w1 ⟨rfl, b1⟩
    go_wp2
    go_ret
    exact ⟨ret_int (by rw [HV.out]), b1⟩
end Go.Proofs.Ytdmdljimbmhecaa
