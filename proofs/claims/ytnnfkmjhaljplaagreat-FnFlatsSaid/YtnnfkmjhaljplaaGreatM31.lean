/- What the laws' walks rest upon, part 31. -/
import Derived.Test.YtnnfkmjhaljplaaGreatM29
import Derived.Test.YtnnfkmjhaljplaaGreatM28
import Derived.Test.YtnnfkmjhaljplaaGreatM24
import Derived.Test.YtnnfkmjhaljplaaGreatM12
import Derived.Test.YtnnfkmjhaljplaaGreatM05
import Derived.BigQuiet
import Derived.Test.YtnnfkmjhaljplaaGreatM02
import Derived.StillTailTactics
import Derived.Test.YtnnfkmjhaljplaaGreatM30
import Derived.Test.YtnnfkmjhaljplaaGreatM04
namespace Go.Proofs.YtnnfkmjhaljplaaGreat
open Go.RowKit
set_option maxRecDepth 100000 in
set_option maxHeartbeats 400000 in
theorem indexId_any (l : List Wid) (A : Option Addr) (c : Nat) (x : Wid) (w : World) (hm : l.length ≤ maxLen) (h : RdC w w.heap.size A (wids l)) :
    Calls Tryz.prog 101 #[.slice A l.length c, .agg #[.int .i64 x.c, .int .i64 x.i]] w fun e w' => ∃ r : Int, e = .returned (.int .i64 r) ∧ (0 ≤ r ↔ x ∈ l) ∧ Below w.heap.size w w' := by
  unfold maxLen at hm
  have kb := Bk.new w #[.int .i64 x.c, .int .i64 x.i] 145
  have hb0 := (Below.refl w.heap.size w).alloc (Nat.le_refl _) (Obj.cells #[.int .i64 x.c, .int .i64 x.i] 145)
  go_enter Tryz.func101, Tryz.ntmps101
  go_wp2
  go_loopw [8] (fun i wr => ∃ k : Nat, k ≤ l.length ∧ i = .int .i64 k ∧ Below w.heap.size w wr ∧ Bk wr w.heap.size #[.int .i64 x.c, .int .i64 x.i] 145 ∧ Hid (∀ j (hj : j < l.length), j < k → l[j] ≠ x)) (fun i _ => l.length - (intOf i).toNat)
  case atStart => exact ⟨0, Nat.zero_le _, rfl, hb0, kb, hide fun j hj h => by omega⟩
  case round =>
    clear kb hb0
    obtain ⟨k, hk, rfl, hb, kb, HR⟩ := hrel
    have q0 := (kb.cell 0).trans (rfl : _ = some (Value.int .i64 x.c))
    have q1 := (kb.cell 1).trans (rfl : _ = some (Value.int .i64 x.i))
    by_cases hlt : k < l.length
    · obtain ⟨b, off, rfl, hbb, hc0, hc1⟩ := ids_get (h.below hb) hlt
      by_cases he : x = l[k]
      · have HM := hide (show x ∈ l from by rw [he]; exact List.getElem_mem hlt)
        rw [← he] at hc0 hc1
        clear he
        go_wp2
        go_quiet (fail)
        go_wp2
        go_ret
        exact ⟨(k : Int), rfl, ⟨fun _ => HM.out, fun _ => by omega⟩, below_drewN hb _⟩
      · have HE := hide (show ∀ j (hj : j < l.length), j < k + 1 → l[j] ≠ x from fun j hj h1 e => by
          by_cases hjk : j = k
          · subst hjk; exact he e.symm
          · exact HR.out j hj (by omega) e)
        rcases wid_ne he with hx | ⟨hx0, hx⟩
        · have f0 := beq_eq_false_iff_ne.2 hx
          clear he hx
          go_wp2
          go_quiet (fail)
          go_wp2
          go_roundw
          case rel => exact ⟨k + 1, by omega, by go_num, below_drewN hb _, kb.drewN _, HE⟩
          case measure => simp [intOf]; omega
        · rw [← hx0] at hc0
          have f0 := beq_eq_false_iff_ne.2 hx
          clear he hx hx0
          go_wp2
          go_quiet (fail)
          go_wp2
          go_roundw
          case rel => exact ⟨k + 1, by omega, by go_num, below_drewN hb _, kb.drewN _, HE⟩
          case measure => simp [intOf]; omega
    · obtain rfl : k = l.length := by omega
      have HM := hide (show ¬ x ∈ l from fun hx => by
        obtain ⟨j, hj, e⟩ := List.getElem_of_mem hx
        exact HR.out j hj hj e)
      go_wp2
      go_ret
      exact ⟨-1, rfl, ⟨fun h => by omega, fun h => absurd h HM.out⟩, hb⟩
theorem containsId_any (l : List Wid) (A : Option Addr) (c : Nat) (x : Wid) (w : World) (hm : l.length ≤ maxLen) (h : RdC w w.heap.size A (wids l)) :
    Calls Tryz.prog 88 #[.slice A l.length c, .agg #[.int .i64 x.c, .int .i64 x.i]] w fun e w' => e = .returned (.bool (decide (x ∈ l))) ∧ Below w.heap.size w w' := by
  have hR := (h.alloc (Nat.le_refl _) (Obj.cells #[.int .i64 x.c, .int .i64 x.i] 145)).lt
  go_enter Tryz.func88, Tryz.ntmps88
  go_wp2_with fail
  refine (indexId_any l A c x _ hm hR).mono ?_
  rintro e w1 ⟨r, rfl, hr, b1⟩
  have HR := hide (show decide (0 ≤ r) = decide (x ∈ l) from decide_eq_decide.2 hr)
  clear hr
  go_wp2
  go_ret
  exact ⟨ret_bool HR.out, below_alloc b1⟩
/-- As the program asks of two lists. -/
def sameSt (x y : Wls) : Bool := decide (sameStW x y)
theorem sameSt_true {x y : Wls} : sameSt x y = true ↔ sameStW x y := decide_eq_true_iff
set_option maxRecDepth 100000 in
set_option maxHeartbeats 800000 in
theorem sameStores_any : TellsW 68 sameSt := by
  intro x y a a' d d' w hx hy hr hr'
  unfold maxLen at hx hy
  obtain ⟨W, hW⟩ : ∃ W, W = (w.alloc (Obj.cells #[.int .i64 x.a, .slice a x.ids.length d] 149)).alloc (Obj.cells #[.int .i64 y.a, .slice a' y.ids.length d'] 149) := ⟨_, rfl⟩
  obtain ⟨k1, k2, hz, B0⟩ := two_new _ _ _ _ _ W hW
  have HW := hide hW
  clear hW
  have q0 := (k1.cell 0).trans (rfl : _ = some (Value.int .i64 x.a))
  have q1 := (k1.cell 1).trans (rfl : _ = some (Value.slice a x.ids.length d))
  have p0 := (k2.cell 0).trans (rfl : _ = some (Value.int .i64 y.a))
  have p1 := (k2.cell 1).trans (rfl : _ = some (Value.slice a' y.ids.length d'))
  go_enter Tryz.func68, Tryz.ntmps68
  generalize hQ : w.heap.size = Q at *
  by_cases ha : x.a = y.a
  · have f0 : (x.a == y.a) = true := beq_iff_eq.2 ha
    have f1 : (x.a != y.a) = false := by rw [bne, f0]; rfl
    by_cases hn : y.ids.length = x.ids.length
    · have HS := hide (show (∀ z ∈ y.ids, z ∈ x.ids) → sameSt x y = true from fun h => sameSt_true.2 ⟨ha, hn.symm, h⟩)
      have HN := hide (show ∀ z ∈ y.ids, ¬ z ∈ x.ids → sameSt x y = false from fun z hz h => by
        cases hh : sameSt x y
        · rfl
        · exact absurd ((sameSt_true.1 hh).2.2 z hz) h)
      have g0 : ((x.ids.length : Int) == (y.ids.length : Int)) = true := by rw [hn]; simp
      have g1 : ((x.ids.length : Int) != (y.ids.length : Int)) = false := by rw [bne, g0]; rfl
      clear ha hn
      have HC := hide (fun V (z : Wid) (hV : RdC V V.heap.size a (wids x.ids)) => containsId_any x.ids a d z V (by unfold maxLen; omega) hV)
      go_wp2_with (rw [← HW.out])
      clear q0 q1 p0 p1 k2
      go_loopw [24] (fun i wr => ∃ k : Nat, k ≤ y.ids.length ∧ i = .int .i64 k ∧ Below Q w wr ∧ Bk wr Q #[.int .i64 x.a, .slice a x.ids.length d] 149 ∧ Hid (∀ j (hj : j < y.ids.length), j < k → y.ids[j] ∈ x.ids)) (fun i _ => y.ids.length - (intOf i).toNat)
      case atStart => exact ⟨0, Nat.zero_le _, rfl, B0, k1, hide fun j hj h => by omega⟩
      case round =>
        clear k1 B0
        obtain ⟨k, hk, rfl, hb, kb, HR⟩ := hrel
        by_cases hlt : k < y.ids.length
        · obtain ⟨b, off, rfl, hbb, hc0, hc1⟩ := ids_get (hr'.below hb) hlt
          obtain ⟨z, hzz⟩ : ∃ z, z = y.ids[k] := ⟨_, rfl⟩
          rw [← hzz] at hc0 hc1
          obtain ⟨W2, hW2⟩ : ∃ W2, W2 = wr.alloc (Obj.cells #[.int .i64 z.c, .int .i64 z.i] 145) := ⟨_, rfl⟩
          have kz : Bk W2 wr.heap.size #[.int .i64 z.c, .int .i64 z.i] 145 := by rw [hW2]; exact Bk.new wr _ _
          have kb2 : Bk W2 Q #[.int .i64 x.a, .slice a x.ids.length d] 149 := by rw [hW2]; exact kb.alloc _
          have hb2 : Below Q w W2 := by rw [hW2]; exact hb.alloc (by have := hb.size; omega) _
          have HW2 := hide hW2
          have HZ := hide hzz
          clear hW2 hzz
          have q1 := (kb2.cell 1).trans (rfl : _ = some (Value.slice a x.ids.length d))
          have z0 := (kz.cell 0).trans (rfl : _ = some (Value.int .i64 z.c))
          have z1 := (kz.cell 1).trans (rfl : _ = some (Value.int .i64 z.i))
          have CC := hide (HC.out W2 z ((hr.below hb2).lt))
          by_cases hin : z ∈ x.ids
          · have HE := hide (show ∀ j (hj : j < y.ids.length), j < k + 1 → y.ids[j] ∈ x.ids from fun j hj h1 => by
              by_cases hjk : j = k
              · subst hjk; rw [← HZ.out]; exact hin
              · exact HR.out j hj (by omega))
            rw [decide_eq_true hin] at CC
            clear hin
            go_upto_region 6 with fail
            rw [← HW2.out]
            go_wp2_with fail
            refine CC.out.mono ?_
            rintro e w3 ⟨rfl, b3⟩
            have kb3 := kb2.kept b3
            have hb3 := hb2.trans (b3.mono (by have := hb2.size; omega))
            go_wp2
            go_roundw
            case rel => exact ⟨k + 1, by omega, by go_num, hb3, kb3, HE⟩
            case measure => simp [intOf]; omega
          · have HE := hide (HN.out z (by rw [HZ.out]; exact List.getElem_mem hlt) hin)
            rw [decide_eq_false hin] at CC
            clear hin
            go_upto_region 6 with fail
            rw [← HW2.out]
            go_wp2_with fail
            refine CC.out.mono ?_
            rintro e w3 ⟨rfl, b3⟩
            have hb3 := hb2.trans (b3.mono (by have := hb2.size; omega))
            go_wp2
            go_ret
            exact ⟨ret_bool HE.out.symm, hb3⟩
        · obtain rfl : k = y.ids.length := by omega
          have HE := hide (HS.out fun z hz => by
            obtain ⟨j, hj, e⟩ := List.getElem_of_mem hz
            rw [← e]
            exact HR.out j hj hj)
          go_wp2
          go_ret
          exact ⟨ret_bool HE.out.symm, hb⟩
    · have HE := hide (show sameSt x y = false from by
        cases hh : sameSt x y
        · rfl
        · exact absurd (sameSt_true.1 hh).2.1.symm hn)
      have g0 : ((x.ids.length : Int) == (y.ids.length : Int)) = false := beq_eq_false_iff_ne.2 (by omega)
      have g1 : ((x.ids.length : Int) != (y.ids.length : Int)) = true := bne_iff_ne.2 (by omega)
      clear hn ha
      go_wp2_with (rw [← HW.out])
      go_ret
      exact ⟨ret_bool HE.out.symm, B0⟩
  · have HE := hide (show sameSt x y = false from by
      cases hh : sameSt x y
      · rfl
      · exact absurd (sameSt_true.1 hh).1 ha)
    have f0 : (x.a == y.a) = false := beq_eq_false_iff_ne.2 ha
    have f1 : (x.a != y.a) = true := bne_iff_ne.2 ha
    clear ha
    go_wp2_with (rw [← HW.out])
    go_ret
    exact ⟨ret_bool HE.out.symm, B0⟩
set_option maxRecDepth 100000 in
set_option maxHeartbeats 800000 in
theorem eqFuncS_any (os O : List Wls) (A A' : Option Addr) (c c' : Nat) (w : World) (hm : os.length ≤ maxLen) (h : RdW w w.heap.size A os) (h' : RdW w w.heap.size A' O) :
    Calls Tryz.prog 67 #[.slice A os.length c, .slice A' O.length c', .func (.func 68) #[] #[]] w fun e w' => e = .returned (.bool (relB sameSt os O)) ∧ Below w.heap.size w w' := by
  unfold maxLen at hm
  by_cases hlen : O.length = os.length
  · have HS := hide (fun (h : UpF sameSt os O os.length) => relB_all hlen.symm h)
    rw [hlen]
    have hfl : ∀ k : Nat, k < os.length → k < O.length := fun k h => by omega
    have HL := hide hfl
    clear hfl hlen
    go_enter Tryz.func67, Tryz.ntmps67
    go_wp2
    go_loopw [17] (fun i wr => ∃ k : Nat, k ≤ os.length ∧ i = .int .i64 k ∧ Below w.heap.size w wr ∧ Hid (UpF sameSt os O k)) (fun i _ => os.length - (intOf i).toNat)
    case atStart => exact ⟨0, Nat.zero_le _, rfl, Below.refl _ _, hide fun i _ _ h => by omega⟩
    case round =>
      obtain ⟨k, hk, rfl, hb, HR⟩ := hrel
      by_cases hlt : k < os.length
      · obtain ⟨b, off, a, d, rfl, hbb, hc0, hc1, hle, hcm, hr⟩ := (h.below hb).get hlt
        obtain ⟨b', off', a', d', rfl, hbb', hd0, hd1, hle', hdm, hr'⟩ := (h'.below hb).get (HL.out _ hlt)
        obtain ⟨x, hx⟩ : ∃ x, x = os[k] := ⟨_, rfl⟩
        obtain ⟨y, hy⟩ : ∃ y, y = O[k]'(HL.out _ hlt) := ⟨_, rfl⟩
        rw [← hx] at hc0 hc1 hle hr
        rw [← hy] at hd0 hd1 hle' hr'
        obtain ⟨W, hW⟩ : ∃ W, W = (wr.alloc (Obj.cells #[.int .i64 x.a, .slice a x.ids.length d] 149)).alloc (Obj.cells #[.int .i64 y.a, .slice a' y.ids.length d'] 149) := ⟨_, rfl⟩
        obtain ⟨k1, k2, hz, B0⟩ := two_new _ _ _ _ _ W hW
        have HW := hide hW
        have e0 := (World.cell?_alloc_lt wr (Obj.cells #[.int .i64 x.a, .slice a x.ids.length d] 149) ⟨b', off' + k * 2, none⟩ (block_lt_of_cell hd0)).trans hd0
        have e1 := (World.cell?_alloc_lt wr (Obj.cells #[.int .i64 x.a, .slice a x.ids.length d] 149) ⟨b', off' + k * 2 + 1, none⟩ (block_lt_of_cell hd1)).trans hd1
        have q0 := (k1.cell 0).trans (rfl : _ = some (Value.int .i64 x.a))
        have q1 := (k1.cell 1).trans (rfl : _ = some (Value.slice a x.ids.length d))
        have p0 := (k2.cell 0).trans (rfl : _ = some (Value.int .i64 y.a))
        have p1 := (k2.cell 1).trans (rfl : _ = some (Value.slice a' y.ids.length d'))
        have B1 := hb.trans (B0.mono hb.size)
        have SP := hide (sameStores_any x y a a' d d' W (by omega) (by omega) ((hr.lt.below B0).lt) ((hr'.lt.below B0).lt))
        have HX := hide hx
        have HY := hide hy
        clear hW hx hy hr hr' k1 k2 hz B0
        cases hf : sameSt x y
        · have HE := hide (show relB sameSt os O = false from relB_not hlt (HL.out _ hlt) (by rw [← HX.out, ← HY.out]; exact hf))
          rw [hf] at SP
          clear hf
          go_upto_region 7 with fail
          rw [← HW.out]
          go_wp2_with fail
          refine SP.out.mono ?_
          rintro e w3 ⟨rfl, hb3⟩
          have hb4 := B1.trans (hb3.mono B1.size)
          go_wp2
          go_ret
          exact ⟨ret_bool HE.out.symm, hb4⟩
        · have HE := hide (HR.out.step (k := k) fun h1 h2 => by rw [← HX.out, ← HY.out]; exact hf)
          rw [hf] at SP
          clear hf
          go_upto_region 7 with fail
          rw [← HW.out]
          go_wp2_with fail
          refine SP.out.mono ?_
          rintro e w3 ⟨rfl, hb3⟩
          have hb4 := B1.trans (hb3.mono B1.size)
          go_wp2
          go_roundw
          case rel => exact ⟨k + 1, by omega, by go_num, hb4, HE⟩
          case measure => simp [intOf]; omega
      · obtain rfl : k = os.length := by omega
        go_wp2
        go_ret
        exact ⟨ret_bool (HS.out HR.out).symm, hb⟩
  · rw [relB_len (fun e => hlen e.symm)]
    have f0 : ((os.length : Int) == (O.length : Int)) = false := beq_eq_false_iff_ne.2 (by omega)
    have f1 : ((os.length : Int) != (O.length : Int)) = true := bne_iff_ne.2 (by omega)
    clear hlen
    go_enter Tryz.func67, Tryz.ntmps67
    go_wp2
    go_ret
    exact ⟨rfl, Below.refl _ _⟩
theorem relB_st (os O : List Wls) : relB sameSt os O = true ↔ os.length = O.length ∧ ∀ i (h : i < os.length) (h' : i < O.length), sameStW os[i] O[i] := by
  unfold relB
  constructor
  · intro h
    by_cases hh : os.length = O.length ∧ ∀ i (h : i < os.length) (h' : i < O.length), sameSt os[i] O[i] = true
    · exact ⟨hh.1, fun i h h' => sameSt_true.1 (hh.2 i h h')⟩
    · rw [if_neg hh] at h; cases h
  · rintro ⟨h1, h2⟩
    exact if_pos ⟨h1, fun i h h' => sameSt_true.2 (h2 i h h')⟩
theorem field_log (a : Int) (D : Option Addr) (n d : Nat) (W : World) : (Instr.field 75 (.agg #[.int .i64 a, .slice D n d]) 1).run Tryz.prog W = .ok (.slice D n d) W := by kernel_rfl
/-- The log of a trace without picks, and its write order. -/
theorem log_right {t : List (List Ev)} (h : trF t = 0) : (mgL t []).length ≤ 32 ∧ (∀ s ∈ mgL t [], 0 ≤ s.c ∧ s.c < 4) ∧ rightO t (ordW (mgL t [])) := by
  have h0 : mgC t [] = 0 := mgC_ok h (by simp)
  have hok := mgL_ok h0
  have hlog : logF (mgL t []) (t.length : Int) = 0 := by rw [hok]; exact logF_logO h
  obtain ⟨hn, hl, hG, _⟩ := logF_zero hlog
  have hall := logG_all hG
  refine ⟨hl, fun s hs => by have := (hall s hs).1; omega, ?_⟩
  have hr := ordW_right (ss := mgL t []) (N := t.length) fun s hs => by have := (hall s hs).1; omega
  have e : spT t.length (mgL t []) = t := by rw [hok]; exact spT_logO t []
  rw [e] at hr
  exact hr
set_option maxRecDepth 100000 in
set_option maxHeartbeats 800000 in
theorem implOrF_any (t : List (List Ev)) (os : List Wls) (A A' : Option Addr) (c c' : Nat) (w : World) (hm : t.length ≤ maxLen) (hm' : os.length ≤ maxLen) (h : RdT w w.heap.size A t) (h' : RdW w w.heap.size A' os) :
    Calls Tryz.prog 37 #[.slice A t.length c, .slice A' os.length c'] w fun e w' => e = .returned (.int .i64 (odF t os)) ∧ Below w.heap.size w w' := by
  have TF := hide (implTrF_any t A c w hm h)
  by_cases h0 : trF t = 0
  · rw [h0] at TF
    obtain ⟨l1, l2, l3⟩ := log_right h0
    have MG := hide (fun V (hV : RdT V V.heap.size A t) => implMg_any t [] A none c 0 V hm (by simp) (fun p hp => by simp at hp) hV Rd.nil_)
    unfold MgPost at MG
    rw [mgC_ok h0 (by simp)] at MG
    obtain ⟨L, hL⟩ : ∃ L, L = mgL t [] := ⟨_, rfl⟩
    rw [← hL] at MG l1 l2 l3
    have hLm : L.length ≤ maxLen := by unfold maxLen; omega
    have OO := hide (fun B c V (hV : RdP V V.heap.size B L) => ordersOf_any L B c V l1 l2 hV)
    obtain ⟨O, hO⟩ : ∃ O, O = ordW L := ⟨_, rfl⟩
    rw [← hO] at OO l3
    have EF := hide (fun A A' c c' V (hV : RdW V V.heap.size A os) hV' => eqFuncS_any os O A A' c c' V hm' hV hV')
    have HR := hide (relB_st os O)
    obtain ⟨r, hr⟩ : ∃ r, r = relB sameSt os O := ⟨_, rfl⟩
    rw [← hr] at EF HR
    have HV := hide (show odF t os = if r = true then 0 else 7 by
      by_cases hrr : r = true
      · rw [if_pos hrr]; exact odF_ok h0 ((right_iff l3).2 (HR.out.1 hrr))
      · rw [if_neg hrr]; exact odF_no h0 fun hh => hrr (HR.out.2 ((right_iff l3).1 hh)))
    have ff := field_log
    clear hL hO hr HR l1 l2 l3 h0
    go_enter Tryz.func37, Tryz.ntmps37
    go_wp2_with fail
    refine TF.out.mono ?_
    rintro e w1 ⟨rfl, b1⟩
    have z1 := b1.size
    have h1 := (h.below b1).lt
    have h1' := h'.below b1
    go_wp2_with fail
    refine (MG.out w1 h1).mono ?_
    rintro e w2 ⟨B2, c2, rfl, o2, b2⟩
    have x2 := RdP.of_own o2
    have B2' := b1.trans (b2.mono z1)
    have h2' := h1'.below (b2.mono z1)
    clear o2
    go_wp2_with fail
    refine (OO.out _ _ w2 x2).mono ?_
    rintro e w3 ⟨v3, us3, rfl, o3, b3⟩
    obtain ⟨A3, c3, hv3⟩ := own_shape o3.row
    subst hv3
    have x3 := o3.rd
    have B3' := B2'.trans (b3.mono B2'.size)
    have h3' := (h2'.below (b3.mono B2'.size)).lt
    clear o3
    go_wp2_with fail
    refine (EF.out _ _ _ _ w3 h3' x3).mono ?_
    rintro e w4 ⟨rfl, b4⟩
    have B4' := B3'.trans (b4.mono B3'.size)
    cases r
    · go_wp2
      go_ret
      exact ⟨ret_int (by rw [HV.out]; rfl), B4'⟩
    · go_wp2
      go_ret
      exact ⟨ret_int (by rw [HV.out]; rfl), B4'⟩
  · have HV := hide (odF_t (os := os) h0)
    obtain ⟨F, hF⟩ : ∃ F, F = trF t := ⟨_, rfl⟩
    rw [← hF] at TF h0 HV
    have g0 : (F != 0) = true := bne_iff_ne.2 h0
    have g1 : (F == 0) = false := beq_eq_false_iff_ne.2 h0
    clear hF h0
    go_enter Tryz.func37, Tryz.ntmps37
    go_wp2_with fail
    refine TF.out.mono ?_
    rintro e w1 ⟨rfl, b1⟩
    go_wp2
    go_ret
    exact ⟨ret_int (by rw [HV.out]), b1⟩
end Go.Proofs.YtnnfkmjhaljplaaGreat
namespace Go.Proofs.YtnnfkmjhaljplaaGreat
open Go.RowKit
end Go.Proofs.YtnnfkmjhaljplaaGreat
namespace Go.Proofs.YtnnfkmjhaljplaaGreat
open Go.RowKit
theorem cntY_le : ∀ l : List Ev, cntY l ≤ l.length
  | [] => Nat.le_refl _
  | e :: r => by have := cntY_le r; rw [cntY, List.length_cons]; split <;> omega
theorem allW_le : ∀ t : List (List Ev), (∀ l ∈ t, l.length ≤ 8) → allW t ≤ 8 * t.length
  | [], _ => Nat.le_refl _
  | l :: r, h => by
    have h1 := allW_le r fun x hx => h x (by simp [hx])
    have h2 := cntY_le l
    have h3 := h l (by simp)
    rw [allW, List.length_cons]; omega
theorem trF_short {t : List (List Ev)} (h : trF t = 0) : t.length ≤ 4 ∧ ∀ l ∈ t, l.length ≤ 8 := by
  have h1 : 1 ≤ t.length ∧ t.length ≤ 4 := by
    by_cases h2 : 1 ≤ t.length ∧ t.length ≤ 4
    · exact h2
    · rw [trF_many h2] at h; omega
  refine ⟨h1.2, fun l hl => ?_⟩
  rw [trF_few h1] at h
  have key : ∀ {t : List (List Ev)}, stsF t = 0 → ∀ l ∈ t, l.length ≤ 8 := by
    intro t
    induction t with
    | nil => intro _ l hl; simp at hl
    | cons x r ih =>
      intro h l hl
      rw [stsF] at h
      by_cases hx : stF x = 0
      · rw [if_pos hx] at h
        rcases List.mem_cons.1 hl with rfl | hl
        · unfold stF at hx
          by_cases h8 : l.length ≤ 8
          · exact h8
          · rw [if_neg h8] at hx; omega
        · exact ih h l hl
      · rw [if_neg hx] at h; exact absurd h hx
  exact key h l hl
end Go.Proofs.YtnnfkmjhaljplaaGreat
namespace Go.Proofs.YtnnfkmjhaljplaaGreat
open Go.RowKit
/-- So many of each core, as the program keeps them. -/
def dnQ (q : List Nat) : Array Value := #[.int .i64 (q.getD 0 0 : Nat), .int .i64 (q.getD 1 0 : Nat), .int .i64 (q.getD 2 0 : Nat), .int .i64 (q.getD 3 0 : Nat)]
theorem dnQ_get (q : List Nat) {i : Nat} (h : i < 4) : (dnQ q)[i]? = some (.int .i64 (q.getD i 0 : Nat)) := by
  rcases (show i = 0 ∨ i = 1 ∨ i = 2 ∨ i = 3 by omega) with rfl | rfl | rfl | rfl <;> rfl
theorem dnQ_next {q : List Nat} {c : Nat} (hc : c < q.length) : dnQ (nextQ q c) = #[.int .i64 ((if 0 = c then q.getD c 0 + 1 else q.getD 0 0 : Nat) : Int), .int .i64 ((if 1 = c then q.getD c 0 + 1 else q.getD 1 0 : Nat) : Int), .int .i64 ((if 2 = c then q.getD c 0 + 1 else q.getD 2 0 : Nat) : Int), .int .i64 ((if 3 = c then q.getD c 0 + 1 else q.getD 3 0 : Nat) : Int)] := by
  unfold dnQ
  rw [nextQ_get hc, nextQ_get hc, nextQ_get hc, nextQ_get hc]
set_option maxRecDepth 100000 in
set_option maxHeartbeats 400000 in
theorem with_any (q : List Nat) (c : Nat) (w : World) (hc : c < q.length) (h4 : q.length ≤ 4) (h8 : q.getD c 0 ≤ 1000) :
    Calls Tryz.prog 40 #[.agg (dnQ q), .int .i64 (c : Nat)] w fun e w' => e = .returned (.agg (dnQ (nextQ q c))) ∧ Below w.heap.size w w' := by
  have e := dnQ_next hc
  have hc4 : c < 4 := by omega
  rw [e]
  unfold dnQ
  clear e hc h4
  rcases (show c = 0 ∨ c = 1 ∨ c = 2 ∨ c = 3 by omega) with rfl | rfl | rfl | rfl
  all_goals
    generalize q.getD 0 0 = x0 at *
    generalize q.getD 1 0 = x1 at *
    generalize q.getD 2 0 = x2 at *
    generalize q.getD 3 0 = x3 at *
    go_enter Tryz.func40, Tryz.ntmps40
    go_wp2
    refine bodyPost_ret ?_ rfl ⟨rfl, by go_grown⟩
    simp [results, Tryz.results40, go_sem]
set_option maxRecDepth 100000 in
set_option maxHeartbeats 400000 in
theorem size_any (t : List (List Ev)) (A : Option Addr) (c : Nat) (v : Value) (w : World) (ht : t.length ≤ 1000) (hall : ∀ l ∈ t, l.length ≤ 1000) (h : RdT w w.heap.size A t) :
    Calls Tryz.prog 41 #[.agg #[.slice A t.length c, v]] w fun e w' => e = .returned (.int .i64 (evsT t : Nat)) ∧ Below w.heap.size w w' := by
  rw [evsT_sum]
  have hb : ∀ t : List (List Ev), (∀ l ∈ t, l.length ≤ 1000) → sumT t ≤ 1000 * t.length := by
    intro t
    induction t with
    | nil => intro _; simp [sumT]
    | cons l r ih =>
      intro h
      have h1 := ih fun x hx => h x (List.mem_cons_of_mem _ hx)
      have := h l (List.mem_cons_self ..)
      simp only [sumT, List.length_cons]
      omega
  have hs : sumT t ≤ 1000000 := by have := hb t hall; omega
  obtain ⟨W, hW⟩ : ∃ W, W = w.alloc (Obj.cells #[.slice A t.length c, v] 92) := ⟨_, rfl⟩
  have kb : Bk W w.heap.size #[.slice A t.length c, v] 92 := by rw [hW]; exact Bk.new w _ _
  have B0 : Below w.heap.size w W := by rw [hW]; exact (Below.refl _ _).alloc (Nat.le_refl _) _
  have q0 := (kb.cell 0).trans (rfl : _ = some (Value.slice A t.length c))
  have hR := h.below B0
  have HW := hide hW
  clear hW hb
  go_enter Tryz.func41, Tryz.ntmps41
  go_wp2_with (rw [← HW.out])
  go_loop [3, 9] (fun q i => ∃ k l : Nat, k ≤ t.length ∧ i = .int .i64 k ∧ q = .int .i64 l ∧ Hid (l + sumT (t.drop k) = sumT t)) (fun _ i => t.length - (intOf i).toNat)
  case atStart => exact ⟨0, 0, Nat.zero_le _, rfl, rfl, hide (by simp)⟩
  case round =>
    obtain ⟨k, l, hk, rfl, rfl, HL⟩ := hrel
    have hl := HL.out
    by_cases hlt : k < t.length
    · obtain ⟨b, off, a, c', rfl, hbb, hc0, hle, hcm, hr⟩ := hR.get hlt
      have hd := sumT_drop t k hlt
      have hx1 : l + t[k].length ≤ 1000000 := by omega
      have HD := hide hd
      clear hd hl
      go_wp2
      go_round
      case rel => exact ⟨k + 1, l + t[k].length, by omega, by go_num, by go_num, hide (by have := HL.out; have := HD.out; omega)⟩
      case measure => simp [intOf]; omega
    · obtain rfl : k = t.length := by omega
      rw [sumT_end hlt] at hl
      obtain rfl : l = sumT t := by omega
      go_wp2
      go_ret
      exact ⟨rfl, B0⟩
theorem find_found {os : List Wls} {a : Int} {i : Nat} (hr : risO os) (hi : i < os.length) (ha : os[i].a = a) : findW os a = os[i].ids := by
  obtain ⟨w, h1, h2, h3⟩ := find_at (a := a) (os := os) (List.mem_map.2 ⟨os[i], List.getElem_mem hi, ha⟩)
  obtain ⟨j, hj, rfl⟩ := List.getElem_of_mem h1
  rw [h3]
  rcases Nat.lt_trichotomy i j with hh | rfl | hh
  · have := List.pairwise_iff_getElem.1 hr i j hi hj hh; omega
  · rfl
  · have := List.pairwise_iff_getElem.1 hr j i hj hi hh; omega
set_option maxRecDepth 100000 in
set_option maxHeartbeats 400000 in
theorem idsOf_any (os : List Wls) (A : Option Addr) (c : Nat) (a : Int) (v : Value) (w : World) (hb : os.length ≤ 1000000) (hr : risO os) (h : RdW w w.heap.size A os) :
    Calls Tryz.prog 69 #[.agg #[v, .slice A os.length c], .int .i64 a] w fun e w' => ∃ D d, e = .returned (.slice D (findW os a).length d) ∧ (findW os a).length ≤ d ∧ d ≤ maxLen ∧ RdC w' w.heap.size D (wids (findW os a)) ∧ Below w.heap.size w w' := by
  obtain ⟨W, hW⟩ : ∃ W, W = w.alloc (Obj.cells #[v, .slice A os.length c] 92) := ⟨_, rfl⟩
  have kb : Bk W w.heap.size #[v, .slice A os.length c] 92 := by rw [hW]; exact Bk.new w _ _
  have B0 : Below w.heap.size w W := by rw [hW]; exact (Below.refl _ _).alloc (Nat.le_refl _) _
  have q1 := (kb.cell 1).trans (rfl : _ = some (Value.slice A os.length c))
  have HW := hide hW
  clear hW
  go_enter Tryz.func69, Tryz.ntmps69
  go_wp2_with (rw [← HW.out])
  refine (placeW_any os A c a W hb hr ((h.below B0).lt)).mono ?_
  rintro e w1 ⟨i, f, rfl, hF, b1⟩
  have kb1 := kb.kept b1
  have r1 := (kb1.cell 1).trans (rfl : _ = some (Value.slice A os.length c))
  have B1 := B0.trans (b1.mono B0.size)
  cases f
  · have e0 : findW os a = [] := find_none fun hm => by
      obtain ⟨x, hx, e⟩ := List.mem_map.1 hm
      exact hF.no hr x hx e
    go_wp2
    go_ret
    rw [e0]
    exact ⟨none, 0, rfl, Nat.le_refl _, Nat.zero_le _, RdC.nil_, B1⟩
  · obtain ⟨hi, ha⟩ := hF.yes
    have e0 := find_found hr hi ha
    obtain ⟨b, off, a', d, rfl, hbb, hc0, hc1, hle, hcm, hrr⟩ := (h.below B1).get hi
    have HA := hide e0
    clear hF e0 ha
    go_wp2
    go_ret
    rw [HA.out]
    exact ⟨a', d, rfl, hle, hcm, hrr, B1⟩
set_option maxRecDepth 100000 in
set_option maxHeartbeats 400000 in
theorem among_any (q : List Nat) (l : List Wid) (A : Option Addr) (c : Nat) (w : World) (hm : l.length ≤ maxLen) (hG : ∀ x ∈ l, 0 ≤ x.c ∧ x.c < 4) (h : RdC w w.heap.size A (wids l)) :
    Calls Tryz.prog 70 #[.agg (dnQ q), .slice A l.length c] w fun e w' => e = .returned (.int .i64 (passW q l : Nat)) ∧ Below w.heap.size w w' := by
  unfold maxLen at hm
  obtain ⟨W, hW⟩ : ∃ W, W = w.alloc (Obj.cells (dnQ q) 94) := ⟨_, rfl⟩
  have kd0 : Bk W w.heap.size (dnQ q) 94 := by rw [hW]; exact Bk.new w _ _
  have B0 : Below w.heap.size w W := by rw [hW]; exact (Below.refl _ _).alloc (Nat.le_refl _) _
  have HW := hide hW
  have HG := hide hG
  clear hW hG
  go_enter Tryz.func70, Tryz.ntmps70
  go_wp2_with (rw [← HW.out])
  go_loopw [9] (fun i wr => ∃ k : Nat, k ≤ l.length ∧ i = .int .i64 k ∧ Bk wr w.heap.size (dnQ q) 94 ∧ Below w.heap.size w wr ∧ Hid (∀ j (hj : j < l.length), j < k → l[j].i < (q.getD l[j].c.toNat 0 : Int))) (fun i _ => l.length - (intOf i).toNat)
  case atStart => exact ⟨0, Nat.zero_le _, rfl, kd0, B0, hide fun j hj h => by omega⟩
  case round =>
    clear kd0 B0
    obtain ⟨k, hk, rfl, kd, hb, HR⟩ := hrel
    by_cases hlt : k < l.length
    · obtain ⟨b, off, rfl, hbb, hc0, hc1⟩ := ids_get (h.below hb) hlt
      have hcr := HG.out _ (List.getElem_mem hlt)
      obtain ⟨i, hi⟩ := Int.eq_ofNat_of_zero_le hcr.1
      have hi4 : i < 4 := by omega
      have hx2 : (l[k].c).toNat = i := by omega
      have HP := hide (pass_step (q := q) hlt)
      have HF := hide (pass_from (q := q) (l := l) (k := k) hk fun j hj => HR.out j (by omega) hj)
      have HN := hide (fun (hh : l[k].i < (q.getD l[k].c.toNat 0 : Int)) => (fun j hj h1 => by
          by_cases hjk : j = k
          · subst hjk; exact hh
          · exact HR.out j hj (by omega) : ∀ j (hj : j < l.length), j < k + 1 → l[j].i < (q.getD l[j].c.toNat 0 : Int)))
      rw [hx2] at HP HN
      obtain ⟨x, hx⟩ : ∃ x, x = l[k].i := ⟨_, rfl⟩
      rw [← hx] at hc1 HP HN
      rw [hi] at hc0
      obtain ⟨n, hn⟩ : ∃ n, n = q.getD i 0 := ⟨_, rfl⟩
      rw [← hn] at HP HN
      obtain ⟨W1, hW1⟩ : ∃ W1, W1 = wr.alloc (Obj.cells #[.int .i64 i, .int .i64 x] 145) := ⟨_, rfl⟩
      have kp : Bk W1 wr.heap.size #[.int .i64 i, .int .i64 x] 145 := by rw [hW1]; exact Bk.new wr _ _
      have kd1 : Bk W1 w.heap.size (dnQ q) 94 := by rw [hW1]; exact kd.alloc _
      have hb1 : Below w.heap.size w W1 := by rw [hW1]; exact hb.alloc hb.size _
      have hcd := (kd1.cell i).trans (dnQ_get q hi4)
      rw [← hn] at hcd
      have q0 := (kp.cell 0).trans (rfl : _ = some (Value.int .i64 i))
      have q1 := (kp.cell 1).trans (rfl : _ = some (Value.int .i64 x))
      have HW1 := hide hW1
      have hka : (0 : Int) ≤ (i : Int) := by omega
      have hkb : (i : Int) < 4 := by omega
      have hkc : ((i : Int)).toNat = i := by omega
      clear hW1 hx hn hcr hi hx2
      by_cases hh : x < (n : Int)
      · have e0 : decide (x ≥ (n : Int)) = false := decide_eq_false (by omega)
        have e1 : decide ((n : Int) ≤ x) = false := decide_eq_false (by omega)
        have HE := hide (HN.out hh)
        clear hh HP HF HN
        go_upto_region 4 with fail
        rw [← HW1.out]
        go_quiet (fail)
        go_wp2
        go_roundw
        case rel => exact ⟨k + 1, by omega, by go_num, kd1.drewN _, below_drewN hb1 _, HE⟩
        case measure => simp [intOf]; omega
      · have e0 : decide (x ≥ (n : Int)) = true := decide_eq_true (by omega)
        have e1 : decide ((n : Int) ≤ x) = true := decide_eq_true (by omega)
        have HE := hide (show passW q l = k by rw [HF.out, HP.out, if_neg hh]; rfl)
        clear hh HP HF HN
        go_upto_region 4 with fail
        rw [← HW1.out]
        go_quiet (fail)
        go_wp2
        go_ret
        exact ⟨ret_int (by rw [HE.out]), below_drewN hb1 _⟩
    · obtain rfl : k = l.length := by omega
      have HE := hide (show passW q l = l.length from by
        rw [pass_from (q := q) (l := l) (k := l.length) (Nat.le_refl _) fun j hj => HR.out j hj hj, List.drop_length]
        rfl)
      go_wp2
      go_ret
      exact ⟨ret_int (by rw [HE.out]), hb⟩
/-- What a load finds behind these stores. -/
def lastV (t : List (List Ev)) (l : List Wid) (k : Nat) : Int := match k with
  | 0 => 0
  | j + 1 => match l[j]? with
    | some x => (evN t x.c.toNat x.i.toNat).v
    | none => 0
set_option maxRecDepth 100000 in
set_option maxHeartbeats 400000 in
theorem lastValue_any (t : List (List Ev)) (l : List Wid) (n : Nat) (A D : Option Addr) (c d : Nat) (v : Value) (w : World) (hn : n ≤ l.length) (hm : l.length ≤ maxLen) (hG : ∀ x ∈ l, (0 ≤ x.c ∧ x.c < (t.length : Int)) ∧ 0 ≤ x.i ∧ x.i < ((t.getD x.c.toNat []).length : Int)) (h : RdT w w.heap.size A t) (h' : RdC w w.heap.size D (wids l)) :
    Calls Tryz.prog 71 #[.agg #[.slice A t.length c, v], .slice D n d] w fun e w' => e = .returned (.int .i64 (lastV t l n)) ∧ Below w.heap.size w w' := by
  unfold maxLen at hm
  obtain ⟨W, hW⟩ : ∃ W, W = w.alloc (Obj.cells #[.slice A t.length c, v] 92) := ⟨_, rfl⟩
  have kb : Bk W w.heap.size #[.slice A t.length c, v] 92 := by rw [hW]; exact Bk.new w _ _
  have B0 : Below w.heap.size w W := by rw [hW]; exact (Below.refl _ _).alloc (Nat.le_refl _) _
  have HW := hide hW
  clear hW
  rcases n with _ | k
  · go_enter Tryz.func71, Tryz.ntmps71
    go_wp2_with (rw [← HW.out])
    go_ret
    exact ⟨rfl, B0⟩
  · have hlt : k < l.length := by omega
    obtain ⟨b, off, rfl, hbb, hc0, hc1⟩ := ids_get (h'.below B0) hlt
    obtain ⟨⟨g0, g1⟩, g2, g3⟩ := hG _ (List.getElem_mem hlt)
    have HV := hide (show lastV t l (k + 1) = (evN t l[k].c.toNat l[k].i.toNat).v by
      unfold lastV
      simp only [List.getElem?_eq_getElem hlt])
    obtain ⟨i, hi⟩ := Int.eq_ofNat_of_zero_le g0
    obtain ⟨j, hj⟩ := Int.eq_ofNat_of_zero_le g2
    have hi2 : i < t.length := by omega
    have eD : t.getD i [] = t[i] := by rw [List.getD_eq_getElem?_getD, List.getElem?_eq_getElem hi2]; rfl
    rw [hi, hj] at HV
    simp only [Int.toNat_natCast] at HV
    rw [hi] at hc0 g3
    rw [hj] at hc1 g3
    rw [Int.toNat_natCast, eD] at g3
    have hj2 : j < t[i].length := by omega
    rw [(evN_get t hi2 hj2).1] at HV
    obtain ⟨W1, hW1⟩ : ∃ W1, W1 = W.alloc (Obj.cells #[.int .i64 i, .int .i64 j] 145) := ⟨_, rfl⟩
    have kp : Bk W1 W.heap.size #[.int .i64 i, .int .i64 j] 145 := by rw [hW1]; exact Bk.new W _ _
    have kb1 : Bk W1 w.heap.size #[.slice A t.length c, v] 92 := by rw [hW1]; exact kb.alloc _
    have B1 : Below w.heap.size w W1 := by rw [hW1]; exact B0.alloc B0.size _
    have HW1 := hide hW1
    obtain ⟨b2, off2, a2, d2, rfl, hbb2, t0, hle2, hcm2, hr2⟩ := (h.below B1).get hi2
    obtain ⟨b3, off3, rfl, hbb3, e0, e1, e2⟩ := hr2.get hj2
    have q0 := (kb1.cell 0).trans (rfl : _ = some (Value.slice (some ⟨b2, off2, none⟩) t.length c))
    have p0 := (kp.cell 0).trans (rfl : _ = some (Value.int .i64 i))
    have p1 := (kp.cell 1).trans (rfl : _ = some (Value.int .i64 j))
    have i0 : (0 : Int) ≤ (i : Int) := by omega
    have i1 : (i : Int) < (t.length : Int) := by omega
    have i2 : ((i : Int)).toNat = i := by omega
    have j0 : (0 : Int) ≤ (j : Int) := by omega
    have j1 : (j : Int) < (t[i].length : Int) := by omega
    have j2 : ((j : Int)).toNat = j := by omega
    clear hW1 g0 g1 g2 g3 hi hj eD
    go_enter Tryz.func71, Tryz.ntmps71
    go_wp2_with (first | rw [← HW.out] | rw [← HW1.out])
    go_quiet (fail)
    go_wp2
    go_ret
    exact ⟨ret_int (by rw [HV.out]), below_drewN B1 _⟩
end Go.Proofs.YtnnfkmjhaljplaaGreat
namespace Go.Proofs.YtnnfkmjhaljplaaGreat
open Go.RowKit
/-- What is asked of a trace and its write order. -/
structure JdgOk (t : List (List Ev)) (os : List Wls) : Prop where
  few : t.length ≤ 4
  len : ∀ i, (t.getD i []).length ≤ 8
  olen : os.length ≤ 1000000
  right : rightO t os
theorem JdgOk.ids {t : List (List Ev)} {os : List Wls} (h : JdgOk t os) {a : Int} {x : Wid} (hx : x ∈ findW os a) : (0 ≤ x.c ∧ x.c < (t.length : Int)) ∧ 0 ≤ x.i ∧ x.i < ((t.getD x.c.toNat []).length : Int) := by
  obtain ⟨h1, h2, _⟩ := find_id h.right hx
  exact ⟨h1, h2⟩
theorem JdgOk.ids4 {t : List (List Ev)} {os : List Wls} (h : JdgOk t os) {a : Int} : ∀ x ∈ findW os a, 0 ≤ x.c ∧ x.c < 4 := fun x hx => by
  obtain ⟨⟨h1, h2⟩, _⟩ := h.ids hx
  have := h.few
  omega
theorem can_load {t : List (List Ev)} {os : List Wls} {q : List Nat} {c : Nat} (h : q.getD c 0 < (t.getD c []).length) (hk : ¬ (evN t c (q.getD c 0)).k = 1) : canW t os q c = decide ((evN t c (q.getD c 0)).v = lastV t (findW os (evN t c (q.getD c 0)).a) (passW q (findW os (evN t c (q.getD c 0)).a))) := by
  rcases hp : passW q (findW os (evN t c (q.getD c 0)).a) with _ | j
  · rw [can_first h hk hp]; rfl
  · have hle := pass_le q (findW os (evN t c (q.getD c 0)).a)
    have hl : j < (findW os (evN t c (q.getD c 0)).a).length := by omega
    rw [can_last h hk hp hl]
    unfold lastV
    simp only [List.getElem?_eq_getElem hl]
set_option maxRecDepth 100000 in
set_option maxHeartbeats 1600000 in
theorem mayFollow_any (t : List (List Ev)) (os : List Wls) (q : List Nat) (k : Nat) (A A' : Option Addr) (c c' : Nat) (w : World) (hj : JdgOk t os) (hq : okQ t q) (hk : k < t.length) (h : RdT w w.heap.size A t) (h' : RdW w w.heap.size A' os) :
    Calls Tryz.prog 39 #[.agg #[.slice A t.length c, .slice A' os.length c'], .agg (dnQ q), .int .i64 (k : Nat)] w fun e w' => e = .returned (.bool (canW t os q k)) ∧ Below w.heap.size w w' := by
  have hk4 : k < 4 := by have := hj.few; omega
  obtain ⟨W, hW⟩ : ∃ W, W = (w.alloc (Obj.cells #[.slice A t.length c, .slice A' os.length c'] 92)).alloc (Obj.cells (dnQ q) 94) := ⟨_, rfl⟩
  have kb : Bk W w.heap.size #[.slice A t.length c, .slice A' os.length c'] 92 := by rw [hW]; exact (Bk.new w _ _).alloc _
  have kd : Bk W (w.heap.size + 1) (dnQ q) 94 := by rw [hW]; have := Bk.new (w.alloc (Obj.cells #[.slice A t.length c, .slice A' os.length c'] 92)) (dnQ q) 94; rw [World.size_alloc] at this; exact this
  have B0 : Below w.heap.size w W := by rw [hW]; exact ((Below.refl _ _).alloc (Nat.le_refl _) _).alloc (by rw [World.size_alloc]; omega) _
  have HW := hide hW
  clear hW
  have eD : t.getD k [] = t[k] := by rw [List.getD_eq_getElem?_getD, List.getElem?_eq_getElem hk]; rfl
  have q0 := (kb.cell 0).trans (rfl : _ = some (Value.slice A t.length c))
  have q1 := (kb.cell 1).trans (rfl : _ = some (Value.slice A' os.length c'))
  have hcd := (kd.cell k).trans (dnQ_get q hk4)
  obtain ⟨b, off, a, d, rfl, hbb, t0, hle, hcm, hr⟩ := (h.below B0).get hk
  have hlen := hj.len k
  have hqk := hq.2 k
  rw [eD] at hlen hqk
  obtain ⟨n, hn⟩ : ∃ n, n = q.getD k 0 := ⟨_, rfl⟩
  rw [← hn] at hcd hqk
  have i0 : (0 : Int) ≤ (k : Int) := by omega
  have i1 : (k : Int) < (t.length : Int) := by omega
  have i2 : ((k : Int)).toNat = k := by omega
  have i3 : (k : Int) < 4 := by omega
  by_cases hlt : n < t[k].length
  · obtain ⟨b2, off2, rfl, hbb2, e0, e1, e2⟩ := hr.get hlt
    have j0 : (0 : Int) ≤ (n : Int) := by omega
    have j1 : (n : Int) < (t[k].length : Int) := by omega
    have j2 : ((n : Int)).toNat = n := by omega
    have f0 : ((n : Int) == (t[k].length : Int)) = false := beq_eq_false_iff_ne.2 (by omega)
    have f1 : ((t[k].length : Int) == (n : Int)) = false := beq_eq_false_iff_ne.2 (by omega)
    have hlq : q.getD k 0 < (t.getD k []).length := by rw [← hn, eD]; exact hlt
    have hev : evN t k (q.getD k 0) = t[k][n] := by rw [← hn]; exact (evN_get t hk hlt).1
    have CS := can_store (os := os) (c := k) hlq
    have CF := can_load (os := os) (c := k) hlq
    have SP := fun hh => store_pass (os := os) (c := k) hlq hh hj.right
    rw [hev] at CS CF SP
    rw [← hn] at CS
    obtain ⟨e, he⟩ : ∃ e, e = t[k][n] := ⟨_, rfl⟩
    rw [← he] at CS CF SP e0 e1 e2
    have HN := hide hn
    have HCS := hide CS
    have HCF := hide CF
    have HSP := hide SP
    have HQ := hide hq
    have HT := hide h
    have HO := hide h'
    have HB0 := hide B0
    have HJ := hide hj
    clear CS CF SP hev hlq he hn hq h h' B0 hj
    go_enter Tryz.func39, Tryz.ntmps39
    go_wp2_with (rw [← HW.out])
    go_quiet (fail)
    go_wp2
    obtain ⟨V, hV⟩ : ∃ V, V = W.drewN nq := ⟨_, rfl⟩
    rw [← hV]
    have V0 : V.cell? ⟨w.heap.size, 0, none⟩ = some (Value.slice (some ⟨b, off, none⟩) t.length c) := by rw [hV]; exact q0
    have Vd : V.cell? ⟨w.heap.size + 1, k, none⟩ = some (Value.int .i64 n) := by rw [hV]; exact hcd
    have Vt : V.cell? ⟨b, off + k, none⟩ = some (Value.slice (some ⟨b2, off2, none⟩) t[k].length d) := by rw [hV]; exact t0
    have Ve0 : V.cell? ⟨b2, off2 + n * 3, none⟩ = some (Value.int .i64 e.k) := by rw [hV]; exact e0
    have Ve1 : V.cell? ⟨b2, off2 + n * 3 + 1, none⟩ = some (Value.int .i64 e.a) := by rw [hV]; exact e1
    have Ve2 : V.cell? ⟨b2, off2 + n * 3 + 2, none⟩ = some (Value.int .i64 e.v) := by rw [hV]; exact e2
    have kbV : Bk V w.heap.size #[.slice (some ⟨b, off, none⟩) t.length c, .slice A' os.length c'] 92 := by rw [hV]; exact kb.drewN _
    have kdV : Bk V (w.heap.size + 1) (dnQ q) 94 := by rw [hV]; exact kd.drewN _
    have BV := hide (show Below w.heap.size w V by rw [hV]; exact below_drewN HB0.out _)
    have HBV := hide kbV
    have HDV := hide kdV
    have HK := hide (Bk.new V.drew #[.int .i64 e.k, .int .i64 e.a, .int .i64 e.v] 64)
    clear q0 hcd t0 e0 e1 e2 kb kd q1 HW HB0 hV hr kbV kdV
    have lift : ∀ (p : Addr) (x : Value), V.cell? p = some x → (V.alloc (Obj.cells #[.int .i64 0, .int .i64 0, .int .i64 0] 64)).cell? p = some x := fun p x hp => (World.cell?_alloc_lt V _ p (block_lt_of_cell hp)).trans hp
    have A0 := lift _ _ V0
    have Ad := lift _ _ Vd
    have At := lift _ _ Vt
    have Ae0 := lift _ _ Ve0
    have Ae1 := lift _ _ Ve1
    have Ae2 := lift _ _ Ve2
    clear lift
    go_region
    clear A0 Ad At Ae0 Ae1 Ae2 V0 Vd Vt Ve0 Ve1 Ve2
    obtain ⟨X, hX⟩ : ∃ X, X = (V.alloc (Obj.cells #[.int .i64 e.k, .int .i64 e.a, .int .i64 e.v] 64)).drew := ⟨_, rfl⟩
    rw [← hX]
    have ke : Bk X V.heap.size #[.int .i64 e.k, .int .i64 e.a, .int .i64 e.v] 64 := by rw [hX]; exact (Bk.new V #[.int .i64 e.k, .int .i64 e.a, .int .i64 e.v] 64).drewN 1
    have kb : Bk X w.heap.size #[.slice (some ⟨b, off, none⟩) t.length c, .slice A' os.length c'] 92 := by rw [hX]; exact (HBV.out.alloc _).drewN 1
    have kd : Bk X (w.heap.size + 1) (dnQ q) 94 := by rw [hX]; exact (HDV.out.alloc _).drewN 1
    have BX : Below w.heap.size w X := by rw [hX]; exact (BV.out.alloc BV.out.size _).drew
    clear hX HK HBV HDV BV
    have q0 := (kb.cell 0).trans (rfl : _ = some (Value.slice (some ⟨b, off, none⟩) t.length c))
    have q1 := (kb.cell 1).trans (rfl : _ = some (Value.slice A' os.length c'))
    have e1 := (ke.cell 1).trans (rfl : _ = some (Value.int .i64 e.a))
    go_wp2_with fail
    refine (idsOf_any os A' c' e.a _ X HJ.out.olen HJ.out.right.2.1 ((HO.out.below BX).lt)).mono ?_
    rintro e4 w4 ⟨D, dd, rfl, hle4, hcm4, rC, b4⟩
    obtain ⟨L, hL⟩ : ∃ L, L = findW os e.a := ⟨_, rfl⟩
    rw [← hL] at hle4 rC HCS HCF HSP
    have HI4 := hide (show ∀ x ∈ L, 0 ≤ x.c ∧ x.c < 4 by rw [hL]; exact HJ.out.ids4)
    have HI := hide (show ∀ x ∈ L, (0 ≤ x.c ∧ x.c < (t.length : Int)) ∧ 0 ≤ x.i ∧ x.i < ((t.getD x.c.toNat []).length : Int) by rw [hL]; exact fun x hx => HJ.out.ids hx)
    rw [← hL]
    clear hL q0 q1 e1
    have ke4 := ke.kept b4
    have kb4 := kb.kept b4
    have kd4 := kd.kept b4
    have B4 := BX.trans (b4.mono BX.size)
    have rC4 := rC.lt
    clear ke kb kd rC
    have d0 := (kd4.cell 0).trans (rfl : _ = some (Value.int .i64 (q.getD 0 0 : Nat)))
    have d1 := (kd4.cell 1).trans (rfl : _ = some (Value.int .i64 (q.getD 1 0 : Nat)))
    have d2 := (kd4.cell 2).trans (rfl : _ = some (Value.int .i64 (q.getD 2 0 : Nat)))
    have d3 := (kd4.cell 3).trans (rfl : _ = some (Value.int .i64 (q.getD 3 0 : Nat)))
    go_wp2_with fail
    refine (among_any q L D dd w4 (by unfold maxLen at hcm4 ⊢; omega) HI4.out rC4).mono ?_
    rintro e5 w5 ⟨rfl, b5⟩
    obtain ⟨p, hp⟩ : ∃ p, p = passW q L := ⟨_, rfl⟩
    have hpl : p ≤ L.length := by rw [hp]; exact pass_le q L
    rw [← hp] at HCF HSP ⊢
    have HPP := hide hp
    have ke5 := ke4.kept b5
    have kb5 := kb4.kept b5
    have kd5 := kd4.kept b5
    have B5 := B4.trans (b5.mono B4.size)
    have rC5 := rC4.below b5
    have hzX := b4.size
    have hz5 := b5.size
    clear ke4 kb4 kd4 d0 d1 d2 d3 hp b5 b4 B4
    have e0 := (ke5.cell 0).trans (rfl : _ = some (Value.int .i64 e.k))
    by_cases hk1 : e.k = 1
    · have hplt := HSP.out hk1
      have HC := hide (HCS.out hk1 (by rw [← HPP.out]; exact hplt))
      obtain ⟨y, hy⟩ : ∃ y, y = L[p] := ⟨_, rfl⟩
      have HC2 := hide (show canW t os q k = decide (y = ⟨(k : Int), (n : Int)⟩) by rw [HC.out, hy]; simp only [HPP.out])
      obtain ⟨b6, off6, rfl, hbb6, c0, c1⟩ := ids_get rC5 hplt
      rw [← hy] at c0 c1
      have hcd := (kd5.cell k).trans (dnQ_get q hk4)
      rw [← HN.out] at hcd
      have p0 : (0 : Int) ≤ (p : Int) := by omega
      have p1 : (p : Int) < (L.length : Int) := by omega
      have p2 : ((p : Int)).toNat = p := by omega
      rw [hk1] at e0
      clear hy HC HCS HCF HSP hk1
      by_cases hyc : y.c = (k : Int)
      · by_cases hyi : y.i = (n : Int)
        · have HE := hide (show canW t os q k = true by rw [HC2.out]; exact decide_eq_true (by rw [← hyc, ← hyi]))
          rw [hyc] at c0
          rw [hyi] at c1
          clear hyc hyi HC2
          go_wp2
          go_quiet (fail)
          go_wp2
          go_ret
          exact ⟨ret_bool HE.out.symm, below_drewN B5 _⟩
        · have HE := hide (show canW t os q k = false by rw [HC2.out]; exact decide_eq_false (fun h => hyi (by rw [h])))
          have g0 : (y.i == (n : Int)) = false := beq_eq_false_iff_ne.2 hyi
          rw [hyc] at c0
          clear hyc hyi HC2
          go_wp2
          go_quiet (fail)
          go_wp2
          go_ret
          exact ⟨ret_bool HE.out.symm, below_drewN B5 _⟩
      · have HE := hide (show canW t os q k = false by rw [HC2.out]; exact decide_eq_false (fun h => hyc (by rw [h])))
        have g0 : (y.c == (k : Int)) = false := beq_eq_false_iff_ne.2 hyc
        clear hyc HC2
        go_wp2
        go_quiet (fail)
        go_wp2
        go_ret
        exact ⟨ret_bool HE.out.symm, below_drewN B5 _⟩
    · have HC := hide (HCF.out hk1)
      have g0 : (e.k == 1) = false := beq_eq_false_iff_ne.2 hk1
      have g1 : (e.k != 1) = true := bne_iff_ne.2 hk1
      have e2 := (ke5.cell 2).trans (rfl : _ = some (Value.int .i64 e.v))
      have q0 := (kb5.cell 0).trans (rfl : _ = some (Value.slice (some ⟨b, off, none⟩) t.length c))
      have q1 := (kb5.cell 1).trans (rfl : _ = some (Value.slice A' os.length c'))
      have p0 : (0 : Int) ≤ (p : Int) := by omega
      have p1 : (p : Int) ≤ (dd : Int) := by omega
      have p2 : ((p : Int)).toNat = p := by omega
      have LV := hide (fun V (hV : RdT V V.heap.size (some ⟨b, off, none⟩) t) (hV' : RdC V V.heap.size D (wids L)) => lastValue_any t L p (some ⟨b, off, none⟩) D c dd (.slice A' os.length c') V hpl (by unfold maxLen at hcm4 ⊢; omega) HI.out hV hV')
      have hT5 := HT.out.below B5
      have rC6 := rC5.lt
      have hT6 := hT5.lt
      have hz5' : w4.heap.size ≤ w5.heap.size := hz5
      clear HCS HCF HSP hk1 rC5 hT5
      go_wp2
      go_region_held3 (fun w' => w'.cell? ⟨V.heap.size, 2, none⟩ = some (Value.int .i64 e.v) ∧ w'.cell? ⟨w.heap.size, 0, none⟩ = some (Value.slice (some ⟨b, off, none⟩) t.length c) ∧ w'.cell? ⟨w.heap.size, 1, none⟩ = some (Value.slice A' os.length c') ∧ Below w5.heap.size w5 w')
        (first | assumption | exact ⟨e2, q0, q1, (Below.refl _ _).drew⟩ | (go_split_ands; exact ⟨cell_kept (by assumption) (by assumption), cell_kept (by assumption) (by assumption), cell_kept (by assumption) (by assumption), Below.trans (by assumption) (Below.mono (by assumption) (Below.size (by assumption)))⟩))
        (first
          | (go_at_call 71; refine (LV.out _ ?_ ?_).mono ?_; (go_split_ands; exact (hT6.below (by assumption : Below w5.heap.size w5 _)).lt); (go_split_ands; exact (rC6.below (by assumption : Below w5.heap.size w5 _)).lt); rintro e wa ⟨rfl, ba⟩))
      all_goals
        go_wp2
        go_ret
        exact ⟨ret_bool (by rw [HC.out]; rfl), B5.trans (Below.mono (by go_split_ands; assumption) B5.size)⟩
  · have HE := hide (show canW t os q k = false from can_end (by rw [eD, ← hn]; exact hlt))
    obtain rfl : n = t[k].length := by omega
    clear hn hlt hj hq
    go_enter Tryz.func39, Tryz.ntmps39
    go_wp2_with (rw [← HW.out])
    go_quiet (fail)
    go_wp2
    go_ret
    exact ⟨ret_bool HE.out.symm, below_drewN B0 _⟩
end Go.Proofs.YtnnfkmjhaljplaaGreat
namespace Go.Proofs.YtnnfkmjhaljplaaGreat
open Go.RowKit
theorem sumO_lists {t : List (List Ev)} : ∀ {os : List Wls}, (∀ w ∈ os, listW t w) → os.length ≤ sumO os
  | [], _ => Nat.le_refl _
  | w :: r, h => by
    have h1 := (h w (by simp)).1
    have := sumO_lists (os := r) fun v hv => h v (by simp [hv])
    rw [sumO, List.length_cons]
    omega
theorem jdg_ok {t : List (List Ev)} {os : List Wls} (h : odF t os = 0) : JdgOk t os := by
  obtain ⟨h0, hr⟩ := odF_zero h
  obtain ⟨h4, h8⟩ := trF_short h0
  refine ⟨h4, fun i => ?_, ?_, hr⟩
  · rcases Nat.lt_or_ge i t.length with a | a
    · rw [List.getD_eq_getElem?_getD, List.getElem?_eq_getElem a]
      exact h8 _ (List.getElem_mem a)
    · rw [List.getD_eq_getElem?_getD, List.getElem?_eq_none a]
      simp
  · have a := sumO_lists hr.1
    have b := allW_le t h8
    rw [hr.2.2] at a
    omega
theorem JdgOk.rows {t : List (List Ev)} {os : List Wls} (h : JdgOk t os) : ∀ l ∈ t, l.length ≤ 8 := fun l hl => by
  obtain ⟨i, hi, rfl⟩ := List.getElem_of_mem hl
  have := h.len i
  rw [List.getD_eq_getElem?_getD, List.getElem?_eq_getElem hi] at this
  exact this
theorem Bk.far4 {w : World} {g p : Nat} {cs : Array Value} {t : TypeId} (h : Bk w g cs t) (hp : g ≠ p) (u v x y : Value) : Bk ((((w.setCell ⟨p, 0, none⟩ u).setCell ⟨p, 1, none⟩ v).setCell ⟨p, 2, none⟩ x).setCell ⟨p, 3, none⟩ y) g cs t := (((h.far (p := ⟨p, 0, none⟩) hp u).far (p := ⟨p, 1, none⟩) hp v).far (p := ⟨p, 2, none⟩) hp x).far (p := ⟨p, 3, none⟩) hp y
theorem dnQ_lit (q : List Nat) : dnQ q = #[.int .i64 (q.getD 0 0 : Nat), .int .i64 (q.getD 1 0 : Nat), .int .i64 (q.getD 2 0 : Nat), .int .i64 (q.getD 3 0 : Nat)] := rfl
theorem Bk.done {w : World} {b : Nat} {q : List Nat} (h : Bk w b (dnQ q) 94) (q' : List Nat) : Bk ((((w.setCell ⟨b, 0, none⟩ (.int .i64 (q'.getD 0 0 : Nat))).setCell ⟨b, 1, none⟩ (.int .i64 (q'.getD 1 0 : Nat))).setCell ⟨b, 2, none⟩ (.int .i64 (q'.getD 2 0 : Nat))).setCell ⟨b, 3, none⟩ (.int .i64 (q'.getD 3 0 : Nat))) b (dnQ q') 94 :=
  (((h.set_ 0 _).set_ 1 _).set_ 2 _).set_ 3 _
set_option maxRecDepth 100000 in
set_option maxHeartbeats 1600000 in
theorem implWit_any (t : List (List Ev)) (os : List Wls) (l : List Int) (A A' A'' : Option Addr) (c c' c'' : Nat) (w : World) (hm : t.length ≤ maxLen) (hm' : os.length ≤ maxLen) (hm'' : l.length ≤ maxLen) (h : RdT w w.heap.size A t) (h' : RdW w w.heap.size A' os) (h'' : Rd .i64 w w.heap.size A'' l) :
    Calls Tryz.prog 13 #[.slice A t.length c, .slice A' os.length c', .slice A'' l.length c''] w fun e w' => e = .returned (.bool (witB t os l)) ∧ Below w.heap.size w w' := by
  unfold maxLen at hm''
  have OF := hide (implOrF_any t os A A' c c' w hm hm' h h')
  by_cases h0 : odF t os = 0
  · rw [h0] at OF
    have hj := jdg_ok h0
    have ht4 := hj.few
    have HJ := hide hj
    have H0 := hide h0
    have MF := hide (fun V k q (hq : okQ t q) (hk : k < t.length) (hV : RdT V V.heap.size A t) (hV' : RdW V V.heap.size A' os) => mayFollow_any t os q k A A' c c' V hj hq hk hV hV')
    have HT := hide h
    have HO := hide h'
    clear h0 hj hm hm' h h'
    go_enter Tryz.func13, Tryz.ntmps13
    go_wp2_with fail
    refine OF.out.mono ?_
    rintro e w1 ⟨rfl, b1⟩
    obtain ⟨W, hW⟩ : ∃ W, W = (w1.alloc (Obj.cells #[.slice A t.length c, .slice A' os.length c'] 92)).alloc (Obj.cells #[.int .i64 0, .int .i64 0, .int .i64 0, .int .i64 0] 94) := ⟨_, rfl⟩
    have z1 := b1.size
    have kb0 : Bk W w1.heap.size #[.slice A t.length c, .slice A' os.length c'] 92 := by rw [hW]; exact (Bk.new w1 _ _).alloc _
    have kd0 : Bk W (w1.heap.size + 1) (dnQ (qAt t l 0)) 94 := by
      rw [hW]
      have := Bk.new (w1.alloc (Obj.cells #[.slice A t.length c, .slice A' os.length c'] 92)) #[.int .i64 0, .int .i64 0, .int .i64 0, .int .i64 0] 94
      rw [World.size_alloc] at this
      rw [qAt_zero, dnQ_lit, zeroQ_get, zeroQ_get, zeroQ_get, zeroQ_get]
      exact this
    have B0 : Below w.heap.size w W := by rw [hW]; exact (b1.alloc z1 _).alloc (by rw [World.size_alloc]; omega) _
    have HW := hide hW
    clear hW b1
    go_wp2_with (rw [← HW.out])
    go_loopw [20] (fun i wr => ∃ k : Nat, k ≤ l.length ∧ i = .int .i64 k ∧ Bk wr w1.heap.size #[.slice A t.length c, .slice A' os.length c'] 92 ∧ Bk wr (w1.heap.size + 1) (dnQ (qAt t l k)) 94 ∧ Below w.heap.size w wr ∧ Hid (preW t os l k)) (fun i _ => l.length - (intOf i).toNat)
    case atStart => exact ⟨0, Nat.zero_le _, rfl, kb0, kd0, B0, hide pre_zero⟩
    case round =>
      clear kb0 kd0 B0
      obtain ⟨k, hk, rfl, kb, kd, hb, HP⟩ := hrel
      by_cases hlt : k < l.length
      · obtain ⟨b, off, rfl, hbb, hc0⟩ := (h''.below hb).get hlt
        have HX := hide (pre_next (t := t) (os := os) hlt)
        have HQN := hide (qAt_next (t := t) hlt)
        obtain ⟨x, hx⟩ : ∃ x, x = l[k] := ⟨_, rfl⟩
        rw [← hx] at hc0 HX HQN
        obtain ⟨q, hq⟩ : ∃ q, q = qAt t l k := ⟨_, rfl⟩
        rw [← hq] at kd HX HQN
        have HOQ := hide (show okQ t q by rw [hq]; exact pre_ok HP.out)
        clear hx hq
        have hbx := hb.size
        obtain ⟨Wa, hWa⟩ : ∃ Wa, Wa = wr.alloc (Obj.cells #[.int .i64 x] 2) := ⟨_, rfl⟩
        have kx : Bk Wa wr.heap.size #[.int .i64 x] 2 := by rw [hWa]; exact Bk.new wr _ _
        have kb1 : Bk Wa w1.heap.size #[.slice A t.length c, .slice A' os.length c'] 92 := by rw [hWa]; exact kb.alloc _
        have kd1 : Bk Wa (w1.heap.size + 1) (dnQ q) 94 := by rw [hWa]; exact kd.alloc _
        have hb1 : Below w.heap.size w Wa := by rw [hWa]; exact hb.alloc hbx _
        have HWa := hide hWa
        clear hWa kb kd hb
        have x0 := (kx.cell 0).trans (rfl : _ = some (Value.int .i64 x))
        by_cases hin : 0 ≤ x ∧ x ≤ (t.length : Int) - 1
        · obtain ⟨i, hi⟩ := Int.eq_ofNat_of_zero_le hin.1
          have hit : i < t.length := by omega
          have hit2 : x.toNat = i := by omega
          rw [hit2] at HX HQN
          have hxr : 0 ≤ x ∧ x < (t.length : Int) := by omega
          have HY := hide (fun h => HX.out.2 ⟨HP.out, hxr, h⟩)
          have HZ := hide (fun h : preW t os l (k + 1) => (HX.out.1 h).2.2)
          have HIN := hide hin
          rw [hi] at HWa HIN
          clear hxr hit2 HX hin kx
          subst hi
          go_wp2_with fail
          rw [← HWa.out]
          refine (allWithin_one _ _ _ _ _ _ x0 HIN.out).mono ?_
          rintro e w2 ⟨rfl, rfl⟩
          have q0 := (kb1.cell 0).trans (rfl : _ = some (Value.slice A t.length c))
          have q1 := (kb1.cell 1).trans (rfl : _ = some (Value.slice A' os.length c'))
          have d0 := (kd1.cell 0).trans (rfl : _ = some (Value.int .i64 (q.getD 0 0 : Nat)))
          have d1 := (kd1.cell 1).trans (rfl : _ = some (Value.int .i64 (q.getD 1 0 : Nat)))
          have d2 := (kd1.cell 2).trans (rfl : _ = some (Value.int .i64 (q.getD 2 0 : Nat)))
          have d3 := (kd1.cell 3).trans (rfl : _ = some (Value.int .i64 (q.getD 3 0 : Nat)))
          have hT := (HT.out.below hb1).lt
          have hO := (HO.out.below hb1).lt
          go_wp2_with fail
          refine (MF.out Wa i q HOQ.out hit hT hO).mono ?_
          rintro e w3 ⟨rfl, b3⟩
          have kb3 := kb1.kept b3
          have kd3 := kd1.kept b3
          have hb3 := hb1.trans (b3.mono hb1.size)
          have hql : q.length = t.length := HOQ.out.1
          have h8 : q.getD i 0 ≤ 1000 := Nat.le_trans (HOQ.out.2 i) (Nat.le_trans (HJ.out.len i) (by omega))
          clear kb1 kd1 hb1 b3 q0 q1 d0 d1 d2 d3 hT hO x0
          cases hcan : canW t os q i
          · have HE := hide (show witB t os l = false from wit_no (k := k + 1) fun h => by have := HZ.out h; rw [hcan] at this; cases this)
            clear hcan
            go_wp2
            go_ret
            exact ⟨ret_bool HE.out.symm, hb3⟩
          · have HPN := hide (HY.out hcan)
            have d0 := (kd3.cell 0).trans (rfl : _ = some (Value.int .i64 (q.getD 0 0 : Nat)))
            have d1 := (kd3.cell 1).trans (rfl : _ = some (Value.int .i64 (q.getD 1 0 : Nat)))
            have d2 := (kd3.cell 2).trans (rfl : _ = some (Value.int .i64 (q.getD 2 0 : Nat)))
            have d3 := (kd3.cell 3).trans (rfl : _ = some (Value.int .i64 (q.getD 3 0 : Nat)))
            have WA := hide (with_any q i w3 (by omega) (by omega) h8)
            clear hcan
            go_wp2_with fail
            refine WA.out.mono ?_
            rintro e w4 ⟨rfl, b4⟩
            have kb4 := kb3.kept b4
            have kd4 := kd3.kept b4
            have hb4 := hb3.trans (b4.mono hb3.size)
            clear kb3 kd3 hb3 b4 d0 d1 d2 d3 WA
            rw [← HQN.out]
            obtain ⟨q', hq'⟩ : ∃ q', q' = qAt t l (k + 1) := ⟨_, rfl⟩
            rw [← hq', dnQ_lit q']
            have HQ' := hide hq'
            clear hq'
            have d0 := (kd4.cell 0).trans (rfl : _ = some (Value.int .i64 (q.getD 0 0 : Nat)))
            have d1 := (kd4.cell 1).trans (rfl : _ = some (Value.int .i64 (q.getD 1 0 : Nat)))
            have d2 := (kd4.cell 2).trans (rfl : _ = some (Value.int .i64 (q.getD 2 0 : Nat)))
            have d3 := (kd4.cell 3).trans (rfl : _ = some (Value.int .i64 (q.getD 3 0 : Nat)))
            have f0 := kd4.frozen 0
            have f1 := kd4.frozen 1
            have f2 := kd4.frozen 2
            have f3 := kd4.frozen 3
            have hzk := hb4.size
            have HKB := hide (kb4.far4 (p := w1.heap.size + 1) (by omega) (.int .i64 (q'.getD 0 0 : Nat)) (.int .i64 (q'.getD 1 0 : Nat)) (.int .i64 (q'.getD 2 0 : Nat)) (.int .i64 (q'.getD 3 0 : Nat)))
            have HKD := hide (kd4.done q')
            have HB4 := hide ((((hb4.setCell (p := ⟨w1.heap.size + 1, 0, none⟩) (by show w.heap.size ≤ w1.heap.size + 1; omega) (.int .i64 (q'.getD 0 0 : Nat))).setCell (p := ⟨w1.heap.size + 1, 1, none⟩) (by show w.heap.size ≤ w1.heap.size + 1; omega) (.int .i64 (q'.getD 1 0 : Nat))).setCell (p := ⟨w1.heap.size + 1, 2, none⟩) (by show w.heap.size ≤ w1.heap.size + 1; omega) (.int .i64 (q'.getD 2 0 : Nat))).setCell (p := ⟨w1.heap.size + 1, 3, none⟩) (by show w.heap.size ≤ w1.heap.size + 1; omega) (.int .i64 (q'.getD 3 0 : Nat)))
            clear kb4 kd4 hb4
            go_wp2
            go_roundw
            case rel => exact ⟨k + 1, by omega, by go_num, HKB.out, by rw [← HQ'.out]; exact HKD.out, HB4.out, HPN⟩
            case measure => simp [intOf]; omega
        · have HE := hide (show witB t os l = false from wit_no (k := k + 1) fun h => by have := (HX.out.1 h).2.1; omega)
          have hin' : x < 0 ∨ (t.length : Int) - 1 < x := by omega
          have HIN := hide hin'
          clear hin hin' HX kb1 kd1
          go_wp2_with fail
          rw [← HWa.out]
          refine (allWithin_not _ _ _ _ _ _ x0 HIN.out).mono ?_
          rintro e w2 ⟨rfl, rfl⟩
          go_wp2
          go_ret
          exact ⟨ret_bool HE.out.symm, hb1⟩
      · obtain rfl : k = l.length := by omega
        have q0 := (kb.cell 0).trans (rfl : _ = some (Value.slice A t.length c))
        have q1 := (kb.cell 1).trans (rfl : _ = some (Value.slice A' os.length c'))
        have SZ := hide (size_any t A c (.slice A' os.length c') wr (by omega) (fun l hl => Nat.le_trans (HJ.out.rows l hl) (by omega)) ((HT.out.below hb).lt))
        have HYES := hide (fun h1 : l.length = evsT t => wit_yes H0.out h1 HP.out)
        have HNO := hide (fun h1 : ¬ l.length = evsT t => wit_len (os := os) h1)
        obtain ⟨n, hn⟩ : ∃ n, n = evsT t := ⟨_, rfl⟩
        rw [← hn] at SZ HYES HNO
        clear hn kb kd
        go_wp2_with fail
        refine SZ.out.mono ?_
        rintro e w5 ⟨rfl, b5⟩
        have hb5 := hb.trans (b5.mono hb.size)
        by_cases hle : l.length = n
        · have HE := hide (HYES.out hle)
          have g0 : ((l.length : Int) == (n : Int)) = true := beq_iff_eq.2 (by omega)
          clear hle
          go_wp2
          go_ret
          exact ⟨ret_bool HE.out.symm, hb5⟩
        · have HE := hide (HNO.out hle)
          have g0 : ((l.length : Int) == (n : Int)) = false := beq_eq_false_iff_ne.2 (by omega)
          clear hle
          go_wp2
          go_ret
          exact ⟨ret_bool HE.out.symm, hb5⟩
  · have HE := hide (wit_order (l := l) h0)
    obtain ⟨F, hF⟩ : ∃ F, F = odF t os := ⟨_, rfl⟩
    rw [← hF] at OF h0
    have g0 : (F != 0) = true := bne_iff_ne.2 h0
    have g1 : (F == 0) = false := beq_eq_false_iff_ne.2 h0
    clear hF h0
    go_enter Tryz.func13, Tryz.ntmps13
    go_wp2_with fail
    refine OF.out.mono ?_
    rintro e w1 ⟨rfl, b1⟩
    go_wp2
    go_ret
    exact ⟨ret_bool HE.out.symm, b1⟩
end Go.Proofs.YtnnfkmjhaljplaaGreat
namespace Go.Proofs.YtnnfkmjhaljplaaGreat
open Go.RowKit
theorem intR_len (q : List Nat) : (intR q).length = q.length := by simp [intR]
end Go.Proofs.YtnnfkmjhaljplaaGreat
namespace Go.Proofs.YtnnfkmjhaljplaaGreat
open Go.RowKit
theorem evsT_few {t : List (List Ev)} {os : List Wls} (h : JdgOk t os) : evsT t ≤ 32 := by
  have key : ∀ t : List (List Ev), (∀ l ∈ t, l.length ≤ 8) → evsT t ≤ 8 * t.length := by
    intro t
    induction t with
    | nil => intro _; simp [evsT]
    | cons l r ih =>
      intro h
      have h1 := ih fun x hx => h x (List.mem_cons_of_mem _ hx)
      have := h l (List.mem_cons_self ..)
      simp only [evsT] at h1
      simp only [evsT, List.map_cons, List.sum_cons, List.length_cons]
      omega
  have := key t h.rows
  have := h.few
  omega
end Go.Proofs.YtnnfkmjhaljplaaGreat
