/- What the laws' walks rest upon, part 28. -/
import Derived.Test.YtnnfkmjhaljplaaGreatDoorM23
import Derived.Test.YtnnfkmjhaljplaaGreatDoorM19
import Derived.Test.YtnnfkmjhaljplaaGreatDoorM18
import Derived.Test.YtnnfkmjhaljplaaGreatDoorM27
import Derived.Test.YtnnfkmjhaljplaaGreatDoorM06
import Derived.BigQuiet
import Derived.Test.YtnnfkmjhaljplaaGreatDoorM02
import Derived.StillTailTactics
import Derived.Test.YtnnfkmjhaljplaaGreatDoorM14
import Derived.Test.YtnnfkmjhaljplaaGreatDoorM24
namespace Go.Proofs.YtnnfkmjhaljplaaGreatDoor
open Go.RowKit
set_option maxRecDepth 100000 in
set_option maxHeartbeats 400000 in
theorem indexId_any (l : List Wid) (A : Option Addr) (c : Nat) (x : Wid) (w : World) (hm : l.length ≤ maxLen) (h : RdC w w.heap.size A (wids l)) :
    Calls Tryz.prog 245 #[.slice A l.length c, .agg #[.int .i64 x.c, .int .i64 x.i]] w fun e w' => ∃ r : Int, e = .returned (.int .i64 r) ∧ (0 ≤ r ↔ x ∈ l) ∧ Below w.heap.size w w' := by
  unfold maxLen at hm
  have kb := Bk.new w #[.int .i64 x.c, .int .i64 x.i] 191
  have hb0 := (Below.refl w.heap.size w).alloc (Nat.le_refl _) (Obj.cells #[.int .i64 x.c, .int .i64 x.i] 191)
  go_enter Tryz.func245, Tryz.ntmps245
  go_wp2
  go_loopw [8] (fun i wr => ∃ k : Nat, k ≤ l.length ∧ i = .int .i64 k ∧ Below w.heap.size w wr ∧ Bk wr w.heap.size #[.int .i64 x.c, .int .i64 x.i] 191 ∧ Hid (∀ j (hj : j < l.length), j < k → l[j] ≠ x)) (fun i _ => l.length - (intOf i).toNat)
  case atStart => exact ⟨0, Nat.zero_le _, rfl, hb0, kb, hide fun j hj h => by omega⟩
  case round =>
    clear kb hb0
    obtain ⟨k, hk, rfl, hb, kb, HR⟩ := hrel
    have q0 := (kb.cell 0).trans (rfl : _ = some (Value.int .i64 x.c))
    have q1 := (kb.cell 1).trans (rfl : _ = some (Value.int .i64 x.i))
    by_cases hlt : k < l.length
    · obtain ⟨b, off, rfl, hbb, hc0, hc1⟩ := ids_get (h.below hb) hlt
      by_cases he : x = l[k]
      · have HM := hide (show x ∈ l from by rw [he]; exact List.getElem_mem hlt)
        rw [← he] at hc0 hc1
        clear he
        go_wp2
        go_quiet (fail)
        go_wp2
        go_ret
        exact ⟨(k : Int), rfl, ⟨fun _ => HM.out, fun _ => by omega⟩, below_drewN hb _⟩
      · have HE := hide (show ∀ j (hj : j < l.length), j < k + 1 → l[j] ≠ x from fun j hj h1 e => by
          by_cases hjk : j = k
          · subst hjk; exact he e.symm
          · exact HR.out j hj (by omega) e)
        rcases wid_ne he with hx | ⟨hx0, hx⟩
        · have f0 := beq_eq_false_iff_ne.2 hx
          clear he hx
          go_wp2
          go_quiet (fail)
          go_wp2
          go_roundw
          case rel => exact ⟨k + 1, by omega, by go_num, below_drewN hb _, kb.drewN _, HE⟩
          case measure => simp [intOf]; omega
        · rw [← hx0] at hc0
          have f0 := beq_eq_false_iff_ne.2 hx
          clear he hx hx0
          go_wp2
          go_quiet (fail)
          go_wp2
          go_roundw
          case rel => exact ⟨k + 1, by omega, by go_num, below_drewN hb _, kb.drewN _, HE⟩
          case measure => simp [intOf]; omega
    · obtain rfl : k = l.length := by omega
      have HM := hide (show ¬ x ∈ l from fun hx => by
        obtain ⟨j, hj, e⟩ := List.getElem_of_mem hx
        exact HR.out j hj hj e)
      go_wp2
      go_ret
      exact ⟨-1, rfl, ⟨fun h => by omega, fun h => absurd h HM.out⟩, hb⟩
theorem containsId_any (l : List Wid) (A : Option Addr) (c : Nat) (x : Wid) (w : World) (hm : l.length ≤ maxLen) (h : RdC w w.heap.size A (wids l)) :
    Calls Tryz.prog 206 #[.slice A l.length c, .agg #[.int .i64 x.c, .int .i64 x.i]] w fun e w' => e = .returned (.bool (decide (x ∈ l))) ∧ Below w.heap.size w w' := by
  have hR := (h.alloc (Nat.le_refl _) (Obj.cells #[.int .i64 x.c, .int .i64 x.i] 191)).lt
  go_enter Tryz.func206, Tryz.ntmps206
  go_wp2_with fail
  refine (indexId_any l A c x _ hm hR).mono ?_
  rintro e w1 ⟨r, rfl, hr, b1⟩
  have HR := hide (show decide (0 ≤ r) = decide (x ∈ l) from decide_eq_decide.2 hr)
  clear hr
  go_wp2
  go_ret
  exact ⟨ret_bool HR.out, below_alloc b1⟩
/-- As the program asks of two lists. -/
def sameSt (x y : Wls) : Bool := decide (sameStW x y)
theorem sameSt_true {x y : Wls} : sameSt x y = true ↔ sameStW x y := decide_eq_true_iff
set_option maxRecDepth 100000 in
set_option maxHeartbeats 800000 in
theorem sameStores_any : TellsW 154 sameSt := by
  intro x y a a' d d' w hx hy hr hr'
  unfold maxLen at hx hy
  obtain ⟨W, hW⟩ : ∃ W, W = (w.alloc (Obj.cells #[.int .i64 x.a, .slice a x.ids.length d] 159)).alloc (Obj.cells #[.int .i64 y.a, .slice a' y.ids.length d'] 159) := ⟨_, rfl⟩
  obtain ⟨k1, k2, hz, B0⟩ := two_new _ _ _ _ _ W hW
  have HW := hide hW
  clear hW
  have q0 := (k1.cell 0).trans (rfl : _ = some (Value.int .i64 x.a))
  have q1 := (k1.cell 1).trans (rfl : _ = some (Value.slice a x.ids.length d))
  have p0 := (k2.cell 0).trans (rfl : _ = some (Value.int .i64 y.a))
  have p1 := (k2.cell 1).trans (rfl : _ = some (Value.slice a' y.ids.length d'))
  go_enter Tryz.func154, Tryz.ntmps154
  generalize hQ : w.heap.size = Q at *
  by_cases ha : x.a = y.a
  · have f0 : (x.a == y.a) = true := beq_iff_eq.2 ha
    have f1 : (x.a != y.a) = false := by rw [bne, f0]; rfl
    by_cases hn : y.ids.length = x.ids.length
    · have HS := hide (show (∀ z ∈ y.ids, z ∈ x.ids) → sameSt x y = true from fun h => sameSt_true.2 ⟨ha, hn.symm, h⟩)
      have HN := hide (show ∀ z ∈ y.ids, ¬ z ∈ x.ids → sameSt x y = false from fun z hz h => by
        cases hh : sameSt x y
        · rfl
        · exact absurd ((sameSt_true.1 hh).2.2 z hz) h)
      have g0 : ((x.ids.length : Int) == (y.ids.length : Int)) = true := by rw [hn]; simp
      have g1 : ((x.ids.length : Int) != (y.ids.length : Int)) = false := by rw [bne, g0]; rfl
      clear ha hn
      have HC := hide (fun V (z : Wid) (hV : RdC V V.heap.size a (wids x.ids)) => containsId_any x.ids a d z V (by unfold maxLen; omega) hV)
      go_wp2_with (rw [← HW.out])
      clear q0 q1 p0 p1 k2
      go_loopw [24] (fun i wr => ∃ k : Nat, k ≤ y.ids.length ∧ i = .int .i64 k ∧ Below Q w wr ∧ Bk wr Q #[.int .i64 x.a, .slice a x.ids.length d] 159 ∧ Hid (∀ j (hj : j < y.ids.length), j < k → y.ids[j] ∈ x.ids)) (fun i _ => y.ids.length - (intOf i).toNat)
      case atStart => exact ⟨0, Nat.zero_le _, rfl, B0, k1, hide fun j hj h => by omega⟩
      case round =>
        clear k1 B0
        obtain ⟨k, hk, rfl, hb, kb, HR⟩ := hrel
        by_cases hlt : k < y.ids.length
        · obtain ⟨b, off, rfl, hbb, hc0, hc1⟩ := ids_get (hr'.below hb) hlt
          obtain ⟨z, hzz⟩ : ∃ z, z = y.ids[k] := ⟨_, rfl⟩
          rw [← hzz] at hc0 hc1
          obtain ⟨W2, hW2⟩ : ∃ W2, W2 = wr.alloc (Obj.cells #[.int .i64 z.c, .int .i64 z.i] 191) := ⟨_, rfl⟩
          have kz : Bk W2 wr.heap.size #[.int .i64 z.c, .int .i64 z.i] 191 := by rw [hW2]; exact Bk.new wr _ _
          have kb2 : Bk W2 Q #[.int .i64 x.a, .slice a x.ids.length d] 159 := by rw [hW2]; exact kb.alloc _
          have hb2 : Below Q w W2 := by rw [hW2]; exact hb.alloc (by have := hb.size; omega) _
          have HW2 := hide hW2
          have HZ := hide hzz
          clear hW2 hzz
          have q1 := (kb2.cell 1).trans (rfl : _ = some (Value.slice a x.ids.length d))
          have z0 := (kz.cell 0).trans (rfl : _ = some (Value.int .i64 z.c))
          have z1 := (kz.cell 1).trans (rfl : _ = some (Value.int .i64 z.i))
          have CC := hide (HC.out W2 z ((hr.below hb2).lt))
          by_cases hin : z ∈ x.ids
          · have HE := hide (show ∀ j (hj : j < y.ids.length), j < k + 1 → y.ids[j] ∈ x.ids from fun j hj h1 => by
              by_cases hjk : j = k
              · subst hjk; rw [← HZ.out]; exact hin
              · exact HR.out j hj (by omega))
            rw [decide_eq_true hin] at CC
            clear hin
            go_upto_region 6 with fail
            rw [← HW2.out]
            go_wp2_with fail
            refine CC.out.mono ?_
            rintro e w3 ⟨rfl, b3⟩
            have kb3 := kb2.kept b3
            have hb3 := hb2.trans (b3.mono (by have := hb2.size; omega))
            go_wp2
            go_roundw
            case rel => exact ⟨k + 1, by omega, by go_num, hb3, kb3, HE⟩
            case measure => simp [intOf]; omega
          · have HE := hide (HN.out z (by rw [HZ.out]; exact List.getElem_mem hlt) hin)
            rw [decide_eq_false hin] at CC
            clear hin
            go_upto_region 6 with fail
            rw [← HW2.out]
            go_wp2_with fail
            refine CC.out.mono ?_
            rintro e w3 ⟨rfl, b3⟩
            have hb3 := hb2.trans (b3.mono (by have := hb2.size; omega))
            go_wp2
            go_ret
            exact ⟨ret_bool HE.out.symm, hb3⟩
        · obtain rfl : k = y.ids.length := by omega
          have HE := hide (HS.out fun z hz => by
            obtain ⟨j, hj, e⟩ := List.getElem_of_mem hz
            rw [← e]
            exact HR.out j hj hj)
          go_wp2
          go_ret
          exact ⟨ret_bool HE.out.symm, hb⟩
    · have HE := hide (show sameSt x y = false from by
        cases hh : sameSt x y
        · rfl
        · exact absurd (sameSt_true.1 hh).2.1.symm hn)
      have g0 : ((x.ids.length : Int) == (y.ids.length : Int)) = false := beq_eq_false_iff_ne.2 (by omega)
      have g1 : ((x.ids.length : Int) != (y.ids.length : Int)) = true := bne_iff_ne.2 (by omega)
      clear hn ha
      go_wp2_with (rw [← HW.out])
      go_ret
      exact ⟨ret_bool HE.out.symm, B0⟩
  · have HE := hide (show sameSt x y = false from by
      cases hh : sameSt x y
      · rfl
      · exact absurd (sameSt_true.1 hh).1 ha)
    have f0 : (x.a == y.a) = false := beq_eq_false_iff_ne.2 ha
    have f1 : (x.a != y.a) = true := bne_iff_ne.2 ha
    clear ha
    go_wp2_with (rw [← HW.out])
    go_ret
    exact ⟨ret_bool HE.out.symm, B0⟩
set_option maxRecDepth 100000 in
set_option maxHeartbeats 800000 in
theorem eqFuncS_any (os O : List Wls) (A A' : Option Addr) (c c' : Nat) (w : World) (hm : os.length ≤ maxLen) (h : RdW w w.heap.size A os) (h' : RdW w w.heap.size A' O) :
    Calls Tryz.prog 144 #[.slice A os.length c, .slice A' O.length c', .func (.func 154) #[] #[]] w fun e w' => e = .returned (.bool (relB sameSt os O)) ∧ Below w.heap.size w w' := by
  unfold maxLen at hm
  by_cases hlen : O.length = os.length
  · have HS := hide (fun (h : UpF sameSt os O os.length) => relB_all hlen.symm h)
    rw [hlen]
    have hfl : ∀ k : Nat, k < os.length → k < O.length := fun k h => by omega
    have HL := hide hfl
    clear hfl hlen
    go_enter Tryz.func144, Tryz.ntmps144
    go_wp2
    go_loopw [17] (fun i wr => ∃ k : Nat, k ≤ os.length ∧ i = .int .i64 k ∧ Below w.heap.size w wr ∧ Hid (UpF sameSt os O k)) (fun i _ => os.length - (intOf i).toNat)
    case atStart => exact ⟨0, Nat.zero_le _, rfl, Below.refl _ _, hide fun i _ _ h => by omega⟩
    case round =>
      obtain ⟨k, hk, rfl, hb, HR⟩ := hrel
      by_cases hlt : k < os.length
      · obtain ⟨b, off, a, d, rfl, hbb, hc0, hc1, hle, hcm, hr⟩ := (h.below hb).get hlt
        obtain ⟨b', off', a', d', rfl, hbb', hd0, hd1, hle', hdm, hr'⟩ := (h'.below hb).get (HL.out _ hlt)
        obtain ⟨x, hx⟩ : ∃ x, x = os[k] := ⟨_, rfl⟩
        obtain ⟨y, hy⟩ : ∃ y, y = O[k]'(HL.out _ hlt) := ⟨_, rfl⟩
        rw [← hx] at hc0 hc1 hle hr
        rw [← hy] at hd0 hd1 hle' hr'
        obtain ⟨W, hW⟩ : ∃ W, W = (wr.alloc (Obj.cells #[.int .i64 x.a, .slice a x.ids.length d] 159)).alloc (Obj.cells #[.int .i64 y.a, .slice a' y.ids.length d'] 159) := ⟨_, rfl⟩
        obtain ⟨k1, k2, hz, B0⟩ := two_new _ _ _ _ _ W hW
        have HW := hide hW
        have e0 := (World.cell?_alloc_lt wr (Obj.cells #[.int .i64 x.a, .slice a x.ids.length d] 159) ⟨b', off' + k * 2, none⟩ (block_lt_of_cell hd0)).trans hd0
        have e1 := (World.cell?_alloc_lt wr (Obj.cells #[.int .i64 x.a, .slice a x.ids.length d] 159) ⟨b', off' + k * 2 + 1, none⟩ (block_lt_of_cell hd1)).trans hd1
        have q0 := (k1.cell 0).trans (rfl : _ = some (Value.int .i64 x.a))
        have q1 := (k1.cell 1).trans (rfl : _ = some (Value.slice a x.ids.length d))
        have p0 := (k2.cell 0).trans (rfl : _ = some (Value.int .i64 y.a))
        have p1 := (k2.cell 1).trans (rfl : _ = some (Value.slice a' y.ids.length d'))
        have B1 := hb.trans (B0.mono hb.size)
        have SP := hide (sameStores_any x y a a' d d' W (by omega) (by omega) ((hr.lt.below B0).lt) ((hr'.lt.below B0).lt))
        have HX := hide hx
        have HY := hide hy
        clear hW hx hy hr hr' k1 k2 hz B0
        cases hf : sameSt x y
        · have HE := hide (show relB sameSt os O = false from relB_not hlt (HL.out _ hlt) (by rw [← HX.out, ← HY.out]; exact hf))
          rw [hf] at SP
          clear hf
          go_upto_region 7 with fail
          rw [← HW.out]
          go_wp2_with fail
          refine SP.out.mono ?_
          rintro e w3 ⟨rfl, hb3⟩
          have hb4 := B1.trans (hb3.mono B1.size)
          go_wp2
          go_ret
          exact ⟨ret_bool HE.out.symm, hb4⟩
        · have HE := hide (HR.out.step (k := k) fun h1 h2 => by rw [← HX.out, ← HY.out]; exact hf)
          rw [hf] at SP
          clear hf
          go_upto_region 7 with fail
          rw [← HW.out]
          go_wp2_with fail
          refine SP.out.mono ?_
          rintro e w3 ⟨rfl, hb3⟩
          have hb4 := B1.trans (hb3.mono B1.size)
          go_wp2
          go_roundw
          case rel => exact ⟨k + 1, by omega, by go_num, hb4, HE⟩
          case measure => simp [intOf]; omega
      · obtain rfl : k = os.length := by omega
        go_wp2
        go_ret
        exact ⟨ret_bool (HS.out HR.out).symm, hb⟩
  · rw [relB_len (fun e => hlen e.symm)]
    have f0 : ((os.length : Int) == (O.length : Int)) = false := beq_eq_false_iff_ne.2 (by omega)
    have f1 : ((os.length : Int) != (O.length : Int)) = true := bne_iff_ne.2 (by omega)
    clear hlen
    go_enter Tryz.func144, Tryz.ntmps144
    go_wp2
    go_ret
    exact ⟨rfl, Below.refl _ _⟩
theorem relB_st (os O : List Wls) : relB sameSt os O = true ↔ os.length = O.length ∧ ∀ i (h : i < os.length) (h' : i < O.length), sameStW os[i] O[i] := by
  unfold relB
  constructor
  · intro h
    by_cases hh : os.length = O.length ∧ ∀ i (h : i < os.length) (h' : i < O.length), sameSt os[i] O[i] = true
    · exact ⟨hh.1, fun i h h' => sameSt_true.1 (hh.2 i h h')⟩
    · rw [if_neg hh] at h; cases h
  · rintro ⟨h1, h2⟩
    exact if_pos ⟨h1, fun i h h' => sameSt_true.2 (h2 i h h')⟩
theorem field_log (a : Int) (D : Option Addr) (n d : Nat) (W : World) : (Instr.field 209 (.agg #[.int .i64 a, .slice D n d]) 1).run Tryz.prog W = .ok (.slice D n d) W := by kernel_rfl
/-- The log of a trace without picks, and its write order. -/
theorem log_right {t : List (List Ev)} (h : trF t = 0) : (mgL t []).length ≤ 32 ∧ (∀ s ∈ mgL t [], 0 ≤ s.c ∧ s.c < 4) ∧ rightO t (ordW (mgL t [])) := by
  have h0 : mgC t [] = 0 := mgC_ok h (by simp)
  have hok := mgL_ok h0
  have hlog : logF (mgL t []) (t.length : Int) = 0 := by rw [hok]; exact logF_logO h
  obtain ⟨hn, hl, hG, _⟩ := logF_zero hlog
  have hall := logG_all hG
  refine ⟨hl, fun s hs => by have := (hall s hs).1; omega, ?_⟩
  have hr := ordW_right (ss := mgL t []) (N := t.length) fun s hs => by have := (hall s hs).1; omega
  have e : spT t.length (mgL t []) = t := by rw [hok]; exact spT_logO t []
  rw [e] at hr
  exact hr
set_option maxRecDepth 100000 in
set_option maxHeartbeats 800000 in
theorem implOrF_any (t : List (List Ev)) (os : List Wls) (A A' : Option Addr) (c c' : Nat) (w : World) (hm : t.length ≤ maxLen) (hm' : os.length ≤ maxLen) (h : RdT w w.heap.size A t) (h' : RdW w w.heap.size A' os) :
    Calls Tryz.prog 80 #[.slice A t.length c, .slice A' os.length c'] w fun e w' => e = .returned (.int .i64 (odF t os)) ∧ Below w.heap.size w w' := by
  have TF := hide (implTrF_any t A c w hm h)
  by_cases h0 : trF t = 0
  · rw [h0] at TF
    obtain ⟨l1, l2, l3⟩ := log_right h0
    have MG := hide (fun V (hV : RdT V V.heap.size A t) => implMg_any t [] A none c 0 V hm (by simp) (fun p hp => by simp at hp) hV Rd.nil_)
    unfold MgPost at MG
    rw [mgC_ok h0 (by simp)] at MG
    obtain ⟨L, hL⟩ : ∃ L, L = mgL t [] := ⟨_, rfl⟩
    rw [← hL] at MG l1 l2 l3
    have hLm : L.length ≤ maxLen := by unfold maxLen; omega
    have OO := hide (fun B c V (hV : RdP V V.heap.size B L) => ordersOf_any L B c V l1 l2 hV)
    obtain ⟨O, hO⟩ : ∃ O, O = ordW L := ⟨_, rfl⟩
    rw [← hO] at OO l3
    have EF := hide (fun A A' c c' V (hV : RdW V V.heap.size A os) hV' => eqFuncS_any os O A A' c c' V hm' hV hV')
    have HR := hide (relB_st os O)
    obtain ⟨r, hr⟩ : ∃ r, r = relB sameSt os O := ⟨_, rfl⟩
    rw [← hr] at EF HR
    have HV := hide (show odF t os = if r = true then 0 else 7 by
      by_cases hrr : r = true
      · rw [if_pos hrr]; exact odF_ok h0 ((right_iff l3).2 (HR.out.1 hrr))
      · rw [if_neg hrr]; exact odF_no h0 fun hh => hrr (HR.out.2 ((right_iff l3).1 hh)))
    have ff := field_log
    clear hL hO hr HR l1 l2 l3 h0
    go_enter Tryz.func80, Tryz.ntmps80
    go_wp2_with fail
    refine TF.out.mono ?_
    rintro e w1 ⟨rfl, b1⟩
    have z1 := b1.size
    have h1 := (h.below b1).lt
    have h1' := h'.below b1
    go_wp2_with fail
    refine (MG.out w1 h1).mono ?_
    rintro e w2 ⟨B2, c2, rfl, o2, b2⟩
    have x2 := RdP.of_own o2
    have B2' := b1.trans (b2.mono z1)
    have h2' := h1'.below (b2.mono z1)
    clear o2
    go_wp2_with fail
    refine (OO.out _ _ w2 x2).mono ?_
    rintro e w3 ⟨v3, us3, rfl, o3, b3⟩
    obtain ⟨A3, c3, hv3⟩ := own_shape o3.row
    subst hv3
    have x3 := o3.rd
    have B3' := B2'.trans (b3.mono B2'.size)
    have h3' := (h2'.below (b3.mono B2'.size)).lt
    clear o3
    go_wp2_with fail
    refine (EF.out _ _ _ _ w3 h3' x3).mono ?_
    rintro e w4 ⟨rfl, b4⟩
    have B4' := B3'.trans (b4.mono B3'.size)
    cases r
    · go_wp2
      go_ret
      exact ⟨ret_int (by rw [HV.out]; rfl), B4'⟩
    · go_wp2
      go_ret
      exact ⟨ret_int (by rw [HV.out]; rfl), B4'⟩
  · have HV := hide (odF_t (os := os) h0)
    obtain ⟨F, hF⟩ : ∃ F, F = trF t := ⟨_, rfl⟩
    rw [← hF] at TF h0 HV
    have g0 : (F != 0) = true := bne_iff_ne.2 h0
    have g1 : (F == 0) = false := beq_eq_false_iff_ne.2 h0
    clear hF h0
    go_enter Tryz.func80, Tryz.ntmps80
    go_wp2_with fail
    refine TF.out.mono ?_
    rintro e w1 ⟨rfl, b1⟩
    go_wp2
    go_ret
    exact ⟨ret_int (by rw [HV.out]), b1⟩
end Go.Proofs.YtnnfkmjhaljplaaGreatDoor
namespace Go.Proofs.YtnnfkmjhaljplaaGreatDoor
open Go.RowKit
theorem cntS_le (a : Int) : ∀ l : List Ev, cntS a l ≤ l.length
  | [] => Nat.le_refl _
  | e :: r => by have := cntS_le a r; rw [cntS, List.length_cons]; split <;> omega
theorem storesW_append (a : Int) : ∀ l m : List (List Ev), storesW a (l ++ m) = storesW a l + storesW a m
  | [], m => by simp [storesW]
  | e :: r, m => by rw [List.cons_append, storesW, storesW, storesW_append a r m]; omega
theorem storesW_le (a : Int) : ∀ t : List (List Ev), (∀ l ∈ t, l.length ≤ 8) → storesW a t ≤ 8 * t.length
  | [], _ => Nat.le_refl _
  | l :: r, h => by
    have h1 := storesW_le a r fun x hx => h x (by simp [hx])
    have h2 := cntS_le a l
    have h3 := h l (by simp)
    rw [storesW, List.length_cons]; omega
theorem cntS_step (a : Int) {l : List Ev} {j : Nat} (h : j < l.length) : cntS a (l.take (j + 1)) = cntS a (l.take j) + if l[j].k = 1 ∧ l[j].a = a then 1 else 0 := by
  rw [List.take_succ_eq_append_getElem h, cntS_append]
  simp [cntS]
theorem storesW_step (a : Int) {t : List (List Ev)} {k : Nat} (h : k < t.length) : storesW a (t.take (k + 1)) = storesW a (t.take k) + cntS a t[k] := by
  rw [List.take_succ_eq_append_getElem h, storesW_append]
  simp [storesW]
theorem storesW_take_le (a : Int) (t : List (List Ev)) (k : Nat) : storesW a (t.take k) ≤ storesW a t := by
  have := storesW_append a (t.take k) (t.drop k)
  rw [List.take_append_drop] at this
  omega
theorem cntS_take_le (a : Int) (l : List Ev) (k : Nat) : cntS a (l.take k) ≤ cntS a l := by
  have := cntS_append a (l.take k) (l.drop k)
  rw [List.take_append_drop] at this
  omega
set_option maxRecDepth 100000 in
set_option maxHeartbeats 800000 in
theorem l8Stores_any (t : List (List Ev)) (a : Int) (A : Option Addr) (c : Nat) (w : World) (hm : t.length ≤ 4) (h8 : ∀ l ∈ t, l.length ≤ 8) (h : RdT w w.heap.size A t) :
    Calls Tryz.prog 262 #[.slice A t.length c, .int .i64 a] w fun e w' => e = .returned (.int .i64 (storesW a t : Nat)) ∧ w = w' := by
  have hle := storesW_le a t h8
  go_enter Tryz.func262, Tryz.ntmps262
  go_wp2
  go_loop [5, 10] (fun v i => ∃ k n : Nat, k ≤ t.length ∧ i = .int .i64 k ∧ v = .int .i64 n ∧ Hid (n = storesW a (t.take k))) (fun _ i => t.length - (intOf i).toNat)
  case atStart => exact ⟨0, 0, Nat.zero_le _, rfl, rfl, hide rfl⟩
  case round =>
    obtain ⟨k, n, hk, rfl, rfl, HN⟩ := hrel
    by_cases hlt : k < t.length
    · obtain ⟨b, off, a1, d, rfl, hbb, hc0, hle1, hcm, hr⟩ := h.get hlt
      have hs := storesW_step a hlt
      have hs2 := storesW_take_le a t (k + 1)
      have HS := hide hs
      have hb32 : n + cntS a t[k] ≤ 32 := by rw [HN.out]; omega
      have h8k := h8 _ (List.getElem_mem hlt)
      obtain ⟨es, hes⟩ : ∃ es, es = t[k] := ⟨_, rfl⟩
      rw [← hes] at hc0 hr hb32 HS hle1 h8k
      clear hs hs2 hes hle1
      go_wp2
      go_loop [5, 18] (fun v i => ∃ j m : Nat, j ≤ es.length ∧ i = .int .i64 j ∧ v = .int .i64 m ∧ Hid (m = n + cntS a (es.take j))) (fun _ i => es.length - (intOf i).toNat)
      case atStart => exact ⟨0, n, Nat.zero_le _, rfl, rfl, hide rfl⟩
      case round =>
        obtain ⟨j, m, hj, rfl, rfl, HM⟩ := hrel
        by_cases hjl : j < es.length
        · obtain ⟨b2, off2, rfl, _, e0, e1, e2⟩ := hr.get hjl
          have hstep := cntS_step a hjl
          have hm32 : m ≤ 32 := by rw [HM.out]; have := cntS_take_le a es j; omega
          obtain ⟨x, hx⟩ : ∃ x, x = es[j] := ⟨_, rfl⟩
          rw [← hx] at e0 e1 e2 hstep
          have HX := hide hstep
          clear hstep hx
          by_cases hkk : x.k = 1
          · have f0 : (x.k == 1) = true := beq_iff_eq.2 hkk
            by_cases haa : x.a = a
            · have f1 : (x.a == a) = true := beq_iff_eq.2 haa
              have HY := hide (show m + 1 = n + cntS a (es.take (j + 1)) by rw [HX.out, if_pos ⟨hkk, haa⟩, HM.out]; omega)
              clear hkk haa
              go_wp2
              go_round
              case rel => exact ⟨j + 1, m + 1, by omega, by go_num, by go_num, HY⟩
              case measure => simp [intOf]; omega
            · have f1 : (x.a == a) = false := beq_eq_false_iff_ne.2 haa
              have HY := hide (show m = n + cntS a (es.take (j + 1)) by rw [HX.out, if_neg (fun e => haa e.2), HM.out]; omega)
              clear hkk haa
              go_wp2
              go_round
              case rel => exact ⟨j + 1, m, by omega, by go_num, rfl, HY⟩
              case measure => simp [intOf]; omega
          · have f0 : (x.k == 1) = false := beq_eq_false_iff_ne.2 hkk
            have HY := hide (show m = n + cntS a (es.take (j + 1)) by rw [HX.out, if_neg (fun e => hkk e.1), HM.out]; omega)
            clear hkk
            go_wp2
            go_round
            case rel => exact ⟨j + 1, m, by omega, by go_num, rfl, HY⟩
            case measure => simp [intOf]; omega
        · obtain rfl : j = es.length := by omega
          rw [List.take_length] at HM
          go_wp2
          go_round
          case rel => exact ⟨k + 1, m, by omega, by go_num, rfl, hide (by rw [HS.out, HM.out, HN.out])⟩
          case measure => simp [intOf]; omega
    · obtain rfl : k = t.length := by omega
      rw [List.take_length] at HN
      go_wp2
      go_ret
      exact ⟨ret_int (by rw [HN.out]), rfl⟩
open Classical in
noncomputable def idB (t : List (List Ev)) (a : Int) (x : Wid) : Bool := if idW t a x then true else false
theorem idB_yes {t : List (List Ev)} {a : Int} {x : Wid} (h : idW t a x) : idB t a x = true := if_pos h
theorem idB_no {t : List (List Ev)} {a : Int} {x : Wid} (h : ¬ idW t a x) : idB t a x = false := if_neg h
set_option maxRecDepth 100000 in
set_option maxHeartbeats 1600000 in
theorem l8Id_any (t : List (List Ev)) (a : Int) (x : Wid) (b off : Nat) (A : Option Addr) (c : Nat) (w : World) (hm : t.length ≤ 4) (h8 : ∀ l ∈ t, l.length ≤ 8) (h : RdT w w.heap.size A t) (h0 : w.cell? ⟨b, off, none⟩ = some (.int .i64 x.c)) (h1 : w.cell? ⟨b, off + 1, none⟩ = some (.int .i64 x.i)) :
    Calls Tryz.prog 263 #[.slice A t.length c, .pointer (some ⟨b, off, none⟩), .int .i64 a] w fun e w' => e = .returned (.bool (idB t a x)) ∧ ∃ m, w' = w.drewN m := by
  have hw1 : IntKind.i64.wrap ((t.length : Int) - 1) = (t.length : Int) - 1 := IntWalk.i64_in _ (by omega)
  by_cases hc : 0 ≤ x.c ∧ x.c ≤ (t.length : Int) - 1
  · obtain ⟨i, hi⟩ := Int.eq_ofNat_of_zero_le hc.1
    have hit : i < t.length := by omega
    obtain ⟨b1, off1, a1, d, rfl, hbb, hc0, hle1, hcm, hr⟩ := h.get hit
    have h8i := h8 _ (List.getElem_mem hit)
    have hgD : t.getD i [] = t[i] := (by rw [List.getD_eq_getElem?_getD, List.getElem?_eq_getElem hit]; rfl)
    by_cases hx : 0 ≤ x.i ∧ x.i ≤ (t[i].length : Int) - 1
    · obtain ⟨j, hj⟩ := Int.eq_ofNat_of_zero_le hx.1
      have hjt : j < t[i].length := by omega
      obtain ⟨b2, off2, rfl, _, e0, e1, e2⟩ := hr.get hjt
      have HV := hide (show idW t a x ↔ t[i][j].k = 1 ∧ t[i][j].a = a by
        unfold idW
        rw [hi, hj]
        simp only [Int.toNat_natCast]
        rw [(evN_get t hit hjt).1, hgD]
        exact ⟨fun h => ⟨h.2.2.1, h.2.2.2⟩, fun h => ⟨⟨by omega, by omega⟩, ⟨by omega, by omega⟩, h.1, h.2⟩⟩)
      obtain ⟨es, hes⟩ : ∃ es, es = t[i] := ⟨_, rfl⟩
      obtain ⟨v, hv⟩ : ∃ v, v = t[i][j] := ⟨_, rfl⟩
      rw [← hv] at e0 e1 e2 HV
      simp only [← hes] at hc0 h8i hjt
      rw [hi] at h0
      rw [hj] at h1
      have n1 : ¬ t.length ≤ i := by omega
      have hw2 : IntKind.i64.wrap ((es.length : Int) - 1) = (es.length : Int) - 1 := IntWalk.i64_in _ (by omega)
      have n2 : ¬ es.length ≤ j := by omega
      clear hes hv hr hgD hle1 hx hc hi hj
      go_enter Tryz.func263, Tryz.ntmps263
      go_wp2
      go_quiet ((go_at_call 63; first | exact Calls.quiet_of_same (Calls.mono (l1In_yes _ _ _ _ (by omega)) (fun _ _ h => ⟨h.1, h.2.symm⟩)) | exact Calls.quiet_of_same (Calls.mono (l1In_no _ _ _ _ (by omega)) (fun _ _ h => ⟨h.1, h.2.symm⟩))))
      go_wp2
      go_quiet (fail)
      by_cases hkk : v.k = 1
      · have f0 : (v.k == 1) = true := beq_iff_eq.2 hkk
        by_cases haa : v.a = a
        · have f1 : (v.a == a) = true := beq_iff_eq.2 haa
          have HE := hide (idB_yes (HV.out.2 ⟨hkk, haa⟩))
          clear hkk haa
          go_wp2
          go_ret
          exact ⟨ret_bool HE.out.symm, _, rfl⟩
        · have f1 : (v.a == a) = false := beq_eq_false_iff_ne.2 haa
          have HE := hide (idB_no fun h => haa (HV.out.1 h).2)
          clear hkk haa
          go_wp2
          go_ret
          exact ⟨ret_bool HE.out.symm, _, rfl⟩
      · have f0 : (v.k == 1) = false := beq_eq_false_iff_ne.2 hkk
        have HE := hide (idB_no fun h => hkk (HV.out.1 h).1)
        clear hkk
        go_wp2
        go_ret
        exact ⟨ret_bool HE.out.symm, _, rfl⟩
    · have HE := hide (show idB t a x = false from idB_no fun hh => hx (by
        have := hh.2.1
        rw [hi, Int.toNat_natCast, hgD] at this
        omega))
      have hnx : x.i < 0 ∨ (t[i].length : Int) - 1 < x.i := by omega
      obtain ⟨es, hes⟩ : ∃ es, es = t[i] := ⟨_, rfl⟩
      rw [← hes] at hc0 hnx h8i
      rw [hi] at h0
      have n1 : ¬ t.length ≤ i := by omega
      have hw2 : IntKind.i64.wrap ((es.length : Int) - 1) = (es.length : Int) - 1 := IntWalk.i64_in _ (by omega)
      clear hes hr hgD hle1 hx hc hi
      go_enter Tryz.func263, Tryz.ntmps263
      go_wp2
      go_quiet ((go_at_call 63; first | exact Calls.quiet_of_same (Calls.mono (l1In_yes _ _ _ _ (by omega)) (fun _ _ h => ⟨h.1, h.2.symm⟩)) | exact Calls.quiet_of_same (Calls.mono (l1In_no _ _ _ _ (by omega)) (fun _ _ h => ⟨h.1, h.2.symm⟩))))
      go_wp2
      go_ret
      exact ⟨ret_bool HE.out.symm, _, rfl⟩
  · have HE := hide (show idB t a x = false from idB_no fun hh => hc (by have := hh.1; omega))
    go_enter Tryz.func263, Tryz.ntmps263
    go_wp2
    go_quiet ((go_at_call 63; exact Calls.quiet_of_same (Calls.mono (l1In_no _ _ _ _ (by omega)) (fun _ _ h => ⟨h.1, h.2.symm⟩))))
    go_wp2
    go_ret
    exact ⟨ret_bool HE.out.symm, _, rfl⟩
open Classical in
noncomputable def listB (t : List (List Ev)) (x : Wls) : Bool := if listW t x then true else false
theorem listB_yes {t : List (List Ev)} {x : Wls} (h : listW t x) : listB t x = true := if_pos h
theorem listB_no {t : List (List Ev)} {x : Wls} (h : ¬ listW t x) : listB t x = false := if_neg h
theorem nodup_step {l : List Wid} {j : Nat} (hj : j < l.length) (h : (l.take j).Nodup) (hn : ∀ q (hq : q < l.length), q < j → l[q] ≠ l[j]) : (l.take (j + 1)).Nodup := by
  rw [List.take_succ_eq_append_getElem hj, List.nodup_append]
  refine ⟨h, by simp, fun x hx y hy e => ?_⟩
  rw [List.mem_singleton] at hy
  obtain ⟨q, hq, e2⟩ := List.getElem_of_mem hx
  rw [List.getElem_take] at e2
  rw [List.length_take] at hq
  exact hn q (by omega) (by omega) (by rw [e2, e, hy])
theorem nodup_not {l : List Wid} {j q : Nat} (hj : j < l.length) (hq : q < j) (he : l[q] = l[j]) : ¬ l.Nodup := fun h => by
  have := List.pairwise_iff_getElem.1 h q j (by omega) hj hq
  exact this he
set_option maxRecDepth 100000 in
set_option maxHeartbeats 1600000 in
theorem l8List_any (t : List (List Ev)) (x : Wls) (b off : Nat) (ai : Option Addr) (d : Nat) (A : Option Addr) (c : Nat) (w : World) (hm : t.length ≤ 4) (h8 : ∀ l ∈ t, l.length ≤ 8) (h : RdT w w.heap.size A t) (h0 : w.cell? ⟨b, off, none⟩ = some (.int .i64 x.a)) (h1 : w.cell? ⟨b, off + 1, none⟩ = some (.slice ai x.ids.length d)) (hr : RdC w w.heap.size ai (wids x.ids)) (hxm : x.ids.length ≤ maxLen) :
    Calls Tryz.prog 220 #[.slice A t.length c, .pointer (some ⟨b, off, none⟩)] w fun e w' => e = .returned (.bool (listB t x)) ∧ ∃ m, w' = w.drewN m := by
  unfold maxLen at hxm
  have ST := hide (fun n => l8Stores_any t x.a A c (w.drewN n) hm h8 (RdT.drewN h n))
  by_cases hz : x.ids.length = 0
  · have HE := hide (listB_no (t := t) (x := x) fun hh => hh.1 hz)
    rw [hz] at h1
    clear hz
    go_enter Tryz.func220, Tryz.ntmps220
    go_wp2
    go_quiet (fail)
    go_wp2
    go_ret
    exact ⟨ret_bool HE.out.symm, _, rfl⟩
  · have g0 : ((x.ids.length : Int) == 0) = false := beq_eq_false_iff_ne.2 (by omega)
    have hs32 := storesW_le x.a t h8
    by_cases hs : x.ids.length = storesW x.a t
    · have HS := hide hs
      have HLW := hide (show listW t x ↔ (∀ z ∈ x.ids, idW t x.a z) ∧ x.ids.Nodup from ⟨fun h => h.2.2, fun h => ⟨hz, hs, h⟩⟩)
      rw [← hs] at ST
      have hl32 : x.ids.length ≤ 32 := by omega
      have g1 : ((x.ids.length : Int) == (x.ids.length : Int)) = true := beq_self_eq_true _
      have g2 : ((x.ids.length : Int) != (x.ids.length : Int)) = false := by rw [bne, g1]; rfl
      clear hz hs hs32
      go_enter Tryz.func220, Tryz.ntmps220
      go_wp2
      go_quiet ((go_at_call 262; exact Calls.quiet_of_same (Calls.mono (ST.out _) (fun _ _ h => ⟨h.1, h.2.symm⟩))))
      go_wp2
      go_loopw [32] (fun i wr => ∃ (k m : Nat), k ≤ x.ids.length ∧ i = .int .i64 k ∧ wr = w.drewN m ∧ Hid (∀ p (hp : p < x.ids.length), p < k → idW t x.a x.ids[p]) ∧ Hid ((x.ids.take k).Nodup)) (fun i _ => x.ids.length - (intOf i).toNat)
      case atStart => exact ⟨0, _, Nat.zero_le _, rfl, rfl, hide fun p hp h => by omega, hide (by simp)⟩
      case round =>
        obtain ⟨k, m, hk, rfl, hwr, HI, HN⟩ := hrel
        have hT : RdT wr wr.heap.size A t := by rw [hwr]; exact RdT.drewN h m
        have j0 : wr.cell? ⟨b, off, none⟩ = some (.int .i64 x.a) := by rw [hwr]; exact h0
        have j1 : wr.cell? ⟨b, off + 1, none⟩ = some (.slice ai x.ids.length d) := by rw [hwr]; exact h1
        have hrr : RdC wr wr.heap.size ai (wids x.ids) := by rw [hwr]; exact RdC.drewN hr m
        have HWR := hide hwr
        clear h0 h1 hwr
        by_cases hlt : k < x.ids.length
        · obtain ⟨b2, off2, rfl, _, e0, e1⟩ := ids_get hrr hlt
          have n1 : ¬ x.ids.length ≤ k := by omega
          have ID := hide (fun n => l8Id_any t x.a x.ids[k] b2 (off2 + k * 2) A c (wr.drewN n) hm h8 (RdT.drewN hT n) e0 e1)
          by_cases hid : idW t x.a x.ids[k]
          · rw [idB_yes hid] at ID
            have HI2 := hide (show ∀ p (hp : p < x.ids.length), p < k + 1 → idW t x.a x.ids[p] from fun p hp h1 => by
              by_cases hpk : p = k
              · subst hpk; exact hid
              · exact HI.out p hp (by omega))
            obtain ⟨z, hz⟩ : ∃ z, z = x.ids[k] := ⟨_, rfl⟩
            rw [← hz] at e0 e1
            have HZ := hide hz
            clear hid hz
            go_wp2
            go_quiet ((go_at_call 263; exact Calls.quiet_of (Calls.mono (ID.out _) (fun _ _ h => h))))
            go_wp2
            go_loopw [6] (fun i w2 => ∃ (p n : Nat), p ≤ k ∧ i = .int .i64 p ∧ w2 = wr.drewN n ∧ Hid (∀ q (hq : q < x.ids.length), q < p → x.ids[q] ≠ x.ids[k])) (fun i _ => k - (intOf i).toNat)
            case atStart => exact ⟨0, _, Nat.zero_le _, rfl, rfl, hide fun q hq h => by omega⟩
            case round =>
              obtain ⟨p, n, hp, rfl, rfl, HQ⟩ := hrel
              by_cases hpk : p < k
              · have hpl : p < x.ids.length := by omega
                obtain ⟨b3, off3, hA3, _, d0, d1⟩ := ids_get hrr hpl
                cases hA3
                by_cases he : x.ids[p] = z
                · have HE := hide (listB_no (t := t) (x := x) fun hh => nodup_not hlt hpk (he.trans HZ.out) (HLW.out.1 hh).2)
                  rw [he] at d0 d1
                  have n2 : ¬ x.ids.length ≤ p := by omega
                  clear he
                  go_wp2
                  go_quiet (fail)
                  go_wp2
                  go_ret
                  exact ⟨ret_bool HE.out.symm, _, by rw [HWR.out]; simp only [World.drewN_drewN]; rfl⟩
                · have HE := hide (show ∀ q (hq : q < x.ids.length), q < p + 1 → x.ids[q] ≠ x.ids[k] from fun q hq h1 => by
                    by_cases hqp : q = p
                    · subst hqp; rw [← HZ.out]; exact he
                    · exact HQ.out q hq (by omega))
                  have n2 : ¬ x.ids.length ≤ p := by omega
                  rcases wid_ne he with hx | ⟨hx0, hx⟩
                  · have f0 := beq_eq_false_iff_ne.2 hx
                    clear he hx
                    go_wp2
                    go_quiet (fail)
                    go_wp2
                    go_roundw
                    case rel => exact ⟨p + 1, _, by omega, by go_num, rfl, HE⟩
                    case measure => simp [intOf]; omega
                  · have f0 := beq_eq_false_iff_ne.2 hx
                    rw [hx0] at d0
                    clear he hx hx0
                    go_wp2
                    go_quiet (fail)
                    go_wp2
                    go_roundw
                    case rel => exact ⟨p + 1, _, by omega, by go_num, rfl, HE⟩
                    case measure => simp [intOf]; omega
              · obtain rfl : p = k := by omega
                have HN2 := hide (nodup_step hlt HN.out fun q hq h1 => HQ.out q hq h1)
                go_wp2
                go_roundw
                case rel => exact ⟨p + 1, _, by omega, by go_num, by rw [HWR.out, World.drewN_drewN], HI2, HN2⟩
                case measure => simp [intOf]; omega
          · have HE := hide (listB_no (t := t) (x := x) fun hh => hid ((HLW.out.1 hh).1 _ (List.getElem_mem hlt)))
            rw [idB_no hid] at ID
            clear hid
            go_wp2
            go_quiet ((go_at_call 263; exact Calls.quiet_of (Calls.mono (ID.out _) (fun _ _ h => h))))
            go_wp2
            go_ret
            exact ⟨ret_bool HE.out.symm, _, by rw [HWR.out]; simp only [World.drewN_drewN]; rfl⟩
        · obtain rfl : k = x.ids.length := by omega
          have HE := hide (listB_yes (HLW.out.2 ⟨fun z hz => by
            obtain ⟨p, hp, e⟩ := List.getElem_of_mem hz
            rw [← e]; exact HI.out p hp hp, by have := HN.out; rwa [List.take_length] at this⟩))
          go_wp2
          go_ret
          exact ⟨ret_bool HE.out.symm, _, HWR.out⟩
    · have HE := hide (listB_no (t := t) (x := x) fun hh => hs hh.2.1)
      obtain ⟨S, hS⟩ : ∃ S, S = storesW x.a t := ⟨_, rfl⟩
      rw [← hS] at ST hs
      have g1 : ((x.ids.length : Int) == (S : Int)) = false := beq_eq_false_iff_ne.2 (by omega)
      have g2 : ((x.ids.length : Int) != (S : Int)) = true := bne_iff_ne.2 (by omega)
      clear hz hs hs32 hS
      go_enter Tryz.func220, Tryz.ntmps220
      go_wp2
      go_quiet ((go_at_call 262; exact Calls.quiet_of_same (Calls.mono (ST.out _) (fun _ _ h => ⟨h.1, h.2.symm⟩))))
      go_wp2
      go_ret
      exact ⟨ret_bool HE.out.symm, _, rfl⟩
end Go.Proofs.YtnnfkmjhaljplaaGreatDoor
namespace Go.Proofs.YtnnfkmjhaljplaaGreatDoor
open Go.RowKit
theorem allW_append : ∀ l m : List (List Ev), allW (l ++ m) = allW l + allW m
  | [], m => by simp [allW]
  | e :: r, m => by rw [List.cons_append, allW, allW, allW_append r m]; omega
theorem cntY_le : ∀ l : List Ev, cntY l ≤ l.length
  | [] => Nat.le_refl _
  | e :: r => by have := cntY_le r; rw [cntY, List.length_cons]; split <;> omega
theorem allW_le : ∀ t : List (List Ev), (∀ l ∈ t, l.length ≤ 8) → allW t ≤ 8 * t.length
  | [], _ => Nat.le_refl _
  | l :: r, h => by
    have h1 := allW_le r fun x hx => h x (by simp [hx])
    have h2 := cntY_le l
    have h3 := h l (by simp)
    rw [allW, List.length_cons]; omega
theorem cntY_step {l : List Ev} {j : Nat} (h : j < l.length) : cntY (l.take (j + 1)) = cntY (l.take j) + if l[j].k = 1 then 1 else 0 := by
  rw [List.take_succ_eq_append_getElem h, cntY_append]
  simp [cntY]
theorem allW_step {t : List (List Ev)} {k : Nat} (h : k < t.length) : allW (t.take (k + 1)) = allW (t.take k) + cntY t[k] := by
  rw [List.take_succ_eq_append_getElem h, allW_append]
  simp [allW]
theorem allW_take_le (t : List (List Ev)) (k : Nat) : allW (t.take k) ≤ allW t := by
  have := allW_append (t.take k) (t.drop k)
  rw [List.take_append_drop] at this
  omega
theorem cntY_take_le (l : List Ev) (k : Nat) : cntY (l.take k) ≤ cntY l := by
  have := cntY_append (l.take k) (l.drop k)
  rw [List.take_append_drop] at this
  omega
theorem sumO_step {os : List Wls} {k : Nat} (h : k < os.length) : sumO (os.take (k + 1)) = sumO (os.take k) + os[k].ids.length := by
  rw [List.take_succ_eq_append_getElem h, sumO_append]
  simp [sumO]
theorem risO_take {os : List Wls} {k : Nat} (hk : k < os.length) (h : risO (os.take k)) (hn : ∀ (h0 : 0 < k), os[k - 1].a < os[k].a) : risO (os.take (k + 1)) := by
  refine risO_adj fun i hi => ?_
  rw [List.length_take] at hi
  rw [List.getElem_take, List.getElem_take]
  by_cases hik : i + 1 < k
  · have := risO_next h i (by rw [List.length_take]; omega)
    rw [List.getElem_take, List.getElem_take] at this
    exact this
  · obtain rfl : k = i + 1 := by omega
    exact hn (by omega)
theorem part_le {t : List (List Ev)} {os : List Wls} (h : ∀ w ∈ os, listW t w) (hr : risO os) : sumO os ≤ allW t := by
  rw [sumO_F h]
  exact sumF_stores t (risO_nodup hr)
theorem trF_short {t : List (List Ev)} (h : trF t = 0) : t.length ≤ 4 ∧ ∀ l ∈ t, l.length ≤ 8 := by
  have h1 : 1 ≤ t.length ∧ t.length ≤ 4 := by
    by_cases h2 : 1 ≤ t.length ∧ t.length ≤ 4
    · exact h2
    · rw [trF_many h2] at h; omega
  refine ⟨h1.2, fun l hl => ?_⟩
  rw [trF_few h1] at h
  have key : ∀ {t : List (List Ev)}, stsF t = 0 → ∀ l ∈ t, l.length ≤ 8 := by
    intro t
    induction t with
    | nil => intro _ l hl; simp at hl
    | cons x r ih =>
      intro h l hl
      rw [stsF] at h
      by_cases hx : stF x = 0
      · rw [if_pos hx] at h
        rcases List.mem_cons.1 hl with rfl | hl
        · unfold stF at hx
          by_cases h8 : l.length ≤ 8
          · exact h8
          · rw [if_neg h8] at hx; omega
        · exact ih h l hl
      · rw [if_neg hx] at h; exact absurd h hx
  exact key h l hl
set_option maxRecDepth 100000 in
set_option maxHeartbeats 3000000 in
theorem specOrF_any (t : List (List Ev)) (os : List Wls) (A A' : Option Addr) (c c' : Nat) (w : World) (hm : t.length ≤ maxLen) (hm' : os.length ≤ maxLen) (h : RdT w w.heap.size A t) (h' : RdW w w.heap.size A' os) :
    Calls Tryz.prog 170 #[.slice A t.length c, .slice A' os.length c'] w fun e w' => e = .returned (.int .i64 (odF t os)) ∧ Below w.heap.size w w' := by
  have TF := hide (specTrF_any t A c w hm h)
  by_cases h0 : trF t = 0
  · rw [h0] at TF
    obtain ⟨h4, h8⟩ := trF_short h0
    have HOK := hide (fun (hr : rightO t os) => odF_ok h0 hr)
    have HNO := hide (fun (hr : ¬ rightO t os) => odF_no h0 hr)
    have hall := allW_le t h8
    have ha32 : allW t ≤ 32 := by omega
    have HA := hide ha32
    obtain ⟨F, hF⟩ : ∃ F, F = odF t os := ⟨_, rfl⟩
    rw [← hF] at HOK HNO ⊢
    have HM' := hide hm'
    unfold maxLen at hm'
    clear h0 hF hall
    go_enter Tryz.func170, Tryz.ntmps170
    go_wp2_with fail
    refine TF.out.mono ?_
    rintro e w1 ⟨rfl, b1⟩
    have z1 := b1.size
    go_wp2
    go_loopw [6, 17] (fun v i wr => ∃ k n : Nat, k ≤ os.length ∧ i = .int .i64 k ∧ v = .int .i64 n ∧ Below w.heap.size w wr ∧ Hid (∀ x ∈ os.take k, listW t x) ∧ Hid (risO (os.take k)) ∧ Hid (n = sumO (os.take k))) (fun _ i _ => os.length - (intOf i).toNat)
    case atStart => exact ⟨0, 0, Nat.zero_le _, rfl, rfl, b1, hide fun x hx => by simp at hx, hide (by simp [risO]), hide rfl⟩
    case round =>
      clear b1 z1
      obtain ⟨k, n, hk, rfl, rfl, hb, HL, HR, HN⟩ := hrel
      have hz := hb.size
      have hn32 : n ≤ 32 := by have := part_le HL.out HR.out; have := HA.out; rw [HN.out]; omega
      by_cases hlt : k < os.length
      · obtain ⟨b2, off2, ai, d, hA', hbb, c0, c1, hle, hcm, hri⟩ := (h'.below hb).get hlt
        subst hA'
        have hT := (h.below hb).lt
        have LI := hide (fun n => l8List_any t os[k] b2 (off2 + k * 2) ai d A c (wr.drewN n) h4 h8 (RdT.drewN hT n) c0 c1 (RdC.drewN hri.lt n) (by omega))
        by_cases hlist : listW t os[k]
        · rw [listB_yes hlist] at LI
          have hstep := sumO_step hlt
          have hidl : os[k].ids.length ≤ 32 := by rw [hlist.2.1]; have := storesW_le os[k].a t h8; omega
          obtain ⟨x, hx⟩ : ∃ x, x = os[k] := ⟨_, rfl⟩
          by_cases hk0 : k = 0
          · subst hk0
            have HL2 := hide (show ∀ y ∈ os.take (0 + 1), listW t y from fun y hy => by
              rw [List.take_succ_eq_append_getElem hlt] at hy
              simp only [List.take_zero, List.nil_append, List.mem_singleton] at hy
              rw [hy]; exact hlist)
            have HR2 := hide (risO_take hlt HR.out fun h0 => by omega)
            rw [← hx] at hstep hidl c0 c1 hle
            have HSS := hide hstep
            have n1 : ¬ os.length ≤ 0 := by omega
            clear hstep hlist hx
            go_wp2
            go_quiet ((go_at_call 220; exact Calls.quiet_of (Calls.mono (LI.out _) (fun _ _ h => h))))
            go_wp2
            go_roundw
            case rel => exact ⟨1, n + x.ids.length, by omega, by go_num, by go_num, below_drewN hb _, HL2, HR2, hide (by rw [HSS.out, HN.out])⟩
            case measure => simp [intOf]; omega
          · obtain ⟨_, _, aj, dj, hA3, _, d0, d1, hlej, hcmj, _⟩ := (h'.below hb).get (i := k - 1) (by omega)
            cases hA3
            obtain ⟨y, hy⟩ : ∃ y, y = os[k - 1] := ⟨_, rfl⟩
            have g0 : decide ((k : Int) > 0) = true := decide_eq_true (by omega)
            have g00 : decide ((0 : Int) < (k : Int)) = true := decide_eq_true (by omega)
            have g000 : decide (0 < k) = true := decide_eq_true (by omega)
            have hwk : IntKind.i64.wrap ((k : Int) - 1) = (k : Int) - 1 := IntWalk.i64_in _ (by omega)
            have hkt : ((k : Int) - 1).toNat = k - 1 := by omega
            have hka : (0 : Int) ≤ (k : Int) - 1 := by omega
            have hkb : (k : Int) - 1 < (os.length : Int) := by omega
            have hkc : ¬ os.length ≤ k - 1 := by omega
            have n1 : ¬ os.length ≤ k := by omega
            by_cases hle2 : os[k].a ≤ os[k - 1].a
            · have HE := hide (HNO.out fun hh => risO_not (i := k - 1) (by omega) (by
                have e : k - 1 + 1 = k := by omega
                simp only [e]; exact hle2) hh.2.1)
              rw [← hx] at c0 c1 hle2 hle
              rw [← hy] at d0 d1 hle2 hlej
              have f0 : decide (x.a ≤ y.a) = true := decide_eq_true hle2
              clear hstep hlist hx hy hle2 hk0
              go_wp2
              go_quiet ((go_at_call 220; exact Calls.quiet_of (Calls.mono (LI.out _) (fun _ _ h => h))))
              go_wp2
              go_ret
              exact ⟨ret_int HE.out.symm, below_drewN hb _⟩
            · have HL2 := hide (show ∀ y ∈ os.take (k + 1), listW t y from fun y hy => by
                rw [List.take_succ_eq_append_getElem hlt] at hy
                rcases List.mem_append.1 hy with hy | hy
                · exact HL.out y hy
                · rw [List.mem_singleton] at hy; rw [hy]; exact hlist)
              have HR2 := hide (risO_take hlt HR.out fun _ => by omega)
              rw [← hx] at c0 c1 hle2 hstep hidl hle
              rw [← hy] at d0 d1 hle2 hlej
              have f0 : decide (x.a ≤ y.a) = false := decide_eq_false hle2
              have HSS := hide hstep
              clear hstep hlist hx hy hle2 hk0
              go_wp2
              go_quiet ((go_at_call 220; exact Calls.quiet_of (Calls.mono (LI.out _) (fun _ _ h => h))))
              go_wp2
              go_roundw
              case rel => exact ⟨k + 1, n + x.ids.length, by omega, by go_num, by go_num, below_drewN hb _, HL2, HR2, hide (by rw [HSS.out, HN.out])⟩
              case measure => simp [intOf]; omega
        · have HE := hide (HNO.out fun hh => hlist (hh.1 _ (List.getElem_mem hlt)))
          rw [listB_no hlist] at LI
          have n1 : ¬ os.length ≤ k := by omega
          clear hlist
          go_wp2
          go_quiet ((go_at_call 220; exact Calls.quiet_of (Calls.mono (LI.out _) (fun _ _ h => h))))
          go_wp2
          go_ret
          exact ⟨ret_int HE.out.symm, below_drewN hb _⟩
      · obtain rfl : k = os.length := by omega
        rw [List.take_length] at HL HR HN
        have HV := hide (show ((n : Int) - (allW t : Int) = 0 → F = 0) ∧ (¬ (n : Int) - (allW t : Int) = 0 → F = 7) from
          ⟨fun e => HOK.out ⟨HL.out, HR.out, by rw [← HN.out]; omega⟩, fun e => HNO.out fun hh => e (by have := hh.2.2; rw [← HN.out] at this; omega)⟩)
        clear HL HR HN HOK HNO
        go_wp2
        go_loopw [6, 55] (fun v i w2 => ∃ (k : Nat) (z : Int), k ≤ t.length ∧ i = .int .i64 k ∧ v = .int .i64 z ∧ -32 ≤ z ∧ z ≤ 32 ∧ Below w.heap.size w w2 ∧ Hid (z = (n : Int) - (allW (t.take k) : Int))) (fun _ i _ => t.length - (intOf i).toNat)
        case atStart => exact ⟨0, n, Nat.zero_le _, rfl, rfl, by omega, by omega, hb, hide (by simp [allW])⟩
        case round =>
          clear hb hz
          obtain ⟨k, z, hk, rfl, rfl, hz1, hz2, hb, HZ⟩ := hrel
          by_cases hlt : k < t.length
          · obtain ⟨b1, off1, a1, d, rfl, hbb, hc0, hle1, hcm, hr⟩ := (h.below hb).get hlt
            have hs := allW_step hlt
            have hs2 := allW_take_le t (k + 1)
            have h8k := h8 _ (List.getElem_mem hlt)
            have hAA := HA.out
            obtain ⟨es, hes⟩ : ∃ es, es = t[k] := ⟨_, rfl⟩
            rw [← hes] at hc0 hr hs hle1 h8k
            have HS := hide hs
            have HB := hide (show allW (t.take k) + cntY es ≤ 32 by omega)
            have HEB := hide hes
            clear hs hs2 hle1 hr hAA hes
            go_wp2
            go_loopw [6, 63] (fun v i w3 => ∃ (j : Nat) (y : Int), j ≤ es.length ∧ i = .int .i64 j ∧ v = .int .i64 y ∧ -32 ≤ y ∧ y ≤ 32 ∧ Below w.heap.size w w3 ∧ Hid (y = z - (cntY (es.take j) : Int))) (fun _ i _ => es.length - (intOf i).toNat)
            case atStart => exact ⟨0, z, Nat.zero_le _, rfl, rfl, hz1, hz2, hb, hide (by simp [cntY])⟩
            case round =>
              clear hb hc0
              obtain ⟨j, y, hj, rfl, rfl, hy1, hy2, hb, HY⟩ := hrel
              obtain ⟨_, _, a2, d2, hA2, _, hc0, hle2, hcm2, hr⟩ := (h.below hb).get hlt
              cases hA2
              rw [← HEB.out] at hc0 hr hle2
              by_cases hjl : j < es.length
              · obtain ⟨b3, off3, rfl, _, e0, e1, e2⟩ := hr.get hjl
                have hstep := cntY_step hjl
                have hlo : -31 ≤ y ∨ ¬ es[j].k = 1 := by
                  by_cases hkk : es[j].k = 1
                  · rw [if_pos hkk] at hstep
                    have h1 := cntY_take_le es (j + 1)
                    have h2 := HB.out
                    left
                    rw [HY.out, HZ.out]
                    omega
                  · exact .inr hkk
                obtain ⟨x, hx⟩ : ∃ x, x = es[j] := ⟨_, rfl⟩
                rw [← hx] at e0 e1 e2 hstep hlo
                by_cases hkk : x.k = 1
                · have f0 : (x.k == 1) = true := beq_iff_eq.2 hkk
                  rw [if_pos hkk] at hstep
                  have hlo2 : -31 ≤ y := hlo.resolve_right fun e => e hkk
                  have HX := hide hstep
                  clear hstep hx hkk hlo
                  go_wp2
                  go_roundw
                  case rel => exact ⟨j + 1, y - 1, by omega, by go_num, by go_num, by omega, by omega, hb, hide (by rw [HX.out, HY.out]; omega)⟩
                  case measure => simp [intOf]; omega
                · have f0 : (x.k == 1) = false := beq_eq_false_iff_ne.2 hkk
                  rw [if_neg hkk] at hstep
                  have HX := hide hstep
                  clear hstep hx hkk hlo
                  go_wp2
                  go_roundw
                  case rel => exact ⟨j + 1, y, by omega, by go_num, rfl, hy1, hy2, hb, hide (by rw [HX.out, HY.out]; omega)⟩
                  case measure => simp [intOf]; omega
              · obtain rfl : j = es.length := by omega
                rw [List.take_length] at HY
                go_wp2
                go_roundw
                case rel => exact ⟨k + 1, y, by omega, by go_num, rfl, hy1, hy2, hb, hide (by rw [HS.out, HY.out, HZ.out]; omega)⟩
                case measure => simp [intOf]; omega
          · obtain rfl : k = t.length := by omega
            rw [List.take_length] at HZ
            by_cases hz0 : z = 0
            · have HE := hide (HV.out.1 (by rw [← HZ.out]; exact hz0))
              subst hz0
              go_wp2
              go_ret
              exact ⟨ret_int HE.out.symm, hb⟩
            · have HE := hide (HV.out.2 (by rw [← HZ.out]; exact hz0))
              have f0 : (z == 0) = false := beq_eq_false_iff_ne.2 hz0
              have f1 : (z != 0) = true := bne_iff_ne.2 hz0
              clear hz0
              go_wp2
              go_ret
              exact ⟨ret_int HE.out.symm, hb⟩
  · have HV := hide (odF_t (os := os) h0)
    obtain ⟨F, hF⟩ : ∃ F, F = trF t := ⟨_, rfl⟩
    rw [← hF] at TF h0 HV
    have g0 : (F != 0) = true := bne_iff_ne.2 h0
    have g1 : (F == 0) = false := beq_eq_false_iff_ne.2 h0
    clear hF h0
    go_enter Tryz.func170, Tryz.ntmps170
    go_wp2_with fail
    refine TF.out.mono ?_
    rintro e w1 ⟨rfl, b1⟩
    go_wp2
    go_ret
    exact ⟨ret_int (by rw [HV.out]), b1⟩
end Go.Proofs.YtnnfkmjhaljplaaGreatDoor
namespace Go.Proofs.YtnnfkmjhaljplaaGreatDoor
open Go.RowKit
/-- So many of each core, as the program keeps them. -/
def dnQ (q : List Nat) : Array Value := #[.int .i64 (q.getD 0 0 : Nat), .int .i64 (q.getD 1 0 : Nat), .int .i64 (q.getD 2 0 : Nat), .int .i64 (q.getD 3 0 : Nat)]
theorem dnQ_get (q : List Nat) {i : Nat} (h : i < 4) : (dnQ q)[i]? = some (.int .i64 (q.getD i 0 : Nat)) := by
  rcases (show i = 0 ∨ i = 1 ∨ i = 2 ∨ i = 3 by omega) with rfl | rfl | rfl | rfl <;> rfl
theorem dnQ_next {q : List Nat} {c : Nat} (hc : c < q.length) : dnQ (nextQ q c) = #[.int .i64 ((if 0 = c then q.getD c 0 + 1 else q.getD 0 0 : Nat) : Int), .int .i64 ((if 1 = c then q.getD c 0 + 1 else q.getD 1 0 : Nat) : Int), .int .i64 ((if 2 = c then q.getD c 0 + 1 else q.getD 2 0 : Nat) : Int), .int .i64 ((if 3 = c then q.getD c 0 + 1 else q.getD 3 0 : Nat) : Int)] := by
  unfold dnQ
  rw [nextQ_get hc, nextQ_get hc, nextQ_get hc, nextQ_get hc]
set_option maxRecDepth 100000 in
set_option maxHeartbeats 400000 in
theorem with_any (q : List Nat) (c : Nat) (w : World) (hc : c < q.length) (h4 : q.length ≤ 4) (h8 : q.getD c 0 ≤ 1000) :
    Calls Tryz.prog 83 #[.agg (dnQ q), .int .i64 (c : Nat)] w fun e w' => e = .returned (.agg (dnQ (nextQ q c))) ∧ Below w.heap.size w w' := by
  have e := dnQ_next hc
  have hc4 : c < 4 := by omega
  rw [e]
  unfold dnQ
  clear e hc h4
  rcases (show c = 0 ∨ c = 1 ∨ c = 2 ∨ c = 3 by omega) with rfl | rfl | rfl | rfl
  all_goals
    generalize q.getD 0 0 = x0 at *
    generalize q.getD 1 0 = x1 at *
    generalize q.getD 2 0 = x2 at *
    generalize q.getD 3 0 = x3 at *
    go_enter Tryz.func83, Tryz.ntmps83
    go_wp2
    refine bodyPost_ret ?_ rfl ⟨rfl, by go_grown⟩
    simp [results, Tryz.results83, go_sem]
set_option maxRecDepth 100000 in
set_option maxHeartbeats 400000 in
theorem size_any (t : List (List Ev)) (A : Option Addr) (c : Nat) (v : Value) (w : World) (ht : t.length ≤ 1000) (hall : ∀ l ∈ t, l.length ≤ 1000) (h : RdT w w.heap.size A t) :
    Calls Tryz.prog 84 #[.agg #[.slice A t.length c, v]] w fun e w' => e = .returned (.int .i64 (evsT t : Nat)) ∧ Below w.heap.size w w' := by
  rw [evsT_sum]
  have hb : ∀ t : List (List Ev), (∀ l ∈ t, l.length ≤ 1000) → sumT t ≤ 1000 * t.length := by
    intro t
    induction t with
    | nil => intro _; simp [sumT]
    | cons l r ih =>
      intro h
      have h1 := ih fun x hx => h x (List.mem_cons_of_mem _ hx)
      have := h l (List.mem_cons_self ..)
      simp only [sumT, List.length_cons]
      omega
  have hs : sumT t ≤ 1000000 := by have := hb t hall; omega
  obtain ⟨W, hW⟩ : ∃ W, W = w.alloc (Obj.cells #[.slice A t.length c, v] 124) := ⟨_, rfl⟩
  have kb : Bk W w.heap.size #[.slice A t.length c, v] 124 := by rw [hW]; exact Bk.new w _ _
  have B0 : Below w.heap.size w W := by rw [hW]; exact (Below.refl _ _).alloc (Nat.le_refl _) _
  have q0 := (kb.cell 0).trans (rfl : _ = some (Value.slice A t.length c))
  have hR := h.below B0
  have HW := hide hW
  clear hW hb
  go_enter Tryz.func84, Tryz.ntmps84
  go_wp2_with (rw [← HW.out])
  go_loop [3, 9] (fun q i => ∃ k l : Nat, k ≤ t.length ∧ i = .int .i64 k ∧ q = .int .i64 l ∧ Hid (l + sumT (t.drop k) = sumT t)) (fun _ i => t.length - (intOf i).toNat)
  case atStart => exact ⟨0, 0, Nat.zero_le _, rfl, rfl, hide (by simp)⟩
  case round =>
    obtain ⟨k, l, hk, rfl, rfl, HL⟩ := hrel
    have hl := HL.out
    by_cases hlt : k < t.length
    · obtain ⟨b, off, a, c', rfl, hbb, hc0, hle, hcm, hr⟩ := hR.get hlt
      have hd := sumT_drop t k hlt
      have hx1 : l + t[k].length ≤ 1000000 := by omega
      have HD := hide hd
      clear hd hl
      go_wp2
      go_round
      case rel => exact ⟨k + 1, l + t[k].length, by omega, by go_num, by go_num, hide (by have := HL.out; have := HD.out; omega)⟩
      case measure => simp [intOf]; omega
    · obtain rfl : k = t.length := by omega
      rw [sumT_end hlt] at hl
      obtain rfl : l = sumT t := by omega
      go_wp2
      go_ret
      exact ⟨rfl, B0⟩
theorem find_found {os : List Wls} {a : Int} {i : Nat} (hr : risO os) (hi : i < os.length) (ha : os[i].a = a) : findW os a = os[i].ids := by
  obtain ⟨w, h1, h2, h3⟩ := find_at (a := a) (os := os) (List.mem_map.2 ⟨os[i], List.getElem_mem hi, ha⟩)
  obtain ⟨j, hj, rfl⟩ := List.getElem_of_mem h1
  rw [h3]
  rcases Nat.lt_trichotomy i j with hh | rfl | hh
  · have := List.pairwise_iff_getElem.1 hr i j hi hj hh; omega
  · rfl
  · have := List.pairwise_iff_getElem.1 hr j i hj hi hh; omega
set_option maxRecDepth 100000 in
set_option maxHeartbeats 400000 in
theorem idsOf_any (os : List Wls) (A : Option Addr) (c : Nat) (a : Int) (v : Value) (w : World) (hb : os.length ≤ 1000000) (hr : risO os) (h : RdW w w.heap.size A os) :
    Calls Tryz.prog 155 #[.agg #[v, .slice A os.length c], .int .i64 a] w fun e w' => ∃ D d, e = .returned (.slice D (findW os a).length d) ∧ (findW os a).length ≤ d ∧ d ≤ maxLen ∧ RdC w' w.heap.size D (wids (findW os a)) ∧ Below w.heap.size w w' := by
  obtain ⟨W, hW⟩ : ∃ W, W = w.alloc (Obj.cells #[v, .slice A os.length c] 124) := ⟨_, rfl⟩
  have kb : Bk W w.heap.size #[v, .slice A os.length c] 124 := by rw [hW]; exact Bk.new w _ _
  have B0 : Below w.heap.size w W := by rw [hW]; exact (Below.refl _ _).alloc (Nat.le_refl _) _
  have q1 := (kb.cell 1).trans (rfl : _ = some (Value.slice A os.length c))
  have HW := hide hW
  clear hW
  go_enter Tryz.func155, Tryz.ntmps155
  go_wp2_with (rw [← HW.out])
  refine (placeW_any os A c a W hb hr ((h.below B0).lt)).mono ?_
  rintro e w1 ⟨i, f, rfl, hF, b1⟩
  have kb1 := kb.kept b1
  have r1 := (kb1.cell 1).trans (rfl : _ = some (Value.slice A os.length c))
  have B1 := B0.trans (b1.mono B0.size)
  cases f
  · have e0 : findW os a = [] := find_none fun hm => by
      obtain ⟨x, hx, e⟩ := List.mem_map.1 hm
      exact hF.no hr x hx e
    go_wp2
    go_ret
    rw [e0]
    exact ⟨none, 0, rfl, Nat.le_refl _, Nat.zero_le _, RdC.nil_, B1⟩
  · obtain ⟨hi, ha⟩ := hF.yes
    have e0 := find_found hr hi ha
    obtain ⟨b, off, a', d, rfl, hbb, hc0, hc1, hle, hcm, hrr⟩ := (h.below B1).get hi
    have HA := hide e0
    clear hF e0 ha
    go_wp2
    go_ret
    rw [HA.out]
    exact ⟨a', d, rfl, hle, hcm, hrr, B1⟩
set_option maxRecDepth 100000 in
set_option maxHeartbeats 400000 in
theorem among_any (q : List Nat) (l : List Wid) (A : Option Addr) (c : Nat) (w : World) (hm : l.length ≤ maxLen) (hG : ∀ x ∈ l, 0 ≤ x.c ∧ x.c < 4) (h : RdC w w.heap.size A (wids l)) :
    Calls Tryz.prog 156 #[.agg (dnQ q), .slice A l.length c] w fun e w' => e = .returned (.int .i64 (passW q l : Nat)) ∧ Below w.heap.size w w' := by
  unfold maxLen at hm
  obtain ⟨W, hW⟩ : ∃ W, W = w.alloc (Obj.cells (dnQ q) 126) := ⟨_, rfl⟩
  have kd0 : Bk W w.heap.size (dnQ q) 126 := by rw [hW]; exact Bk.new w _ _
  have B0 : Below w.heap.size w W := by rw [hW]; exact (Below.refl _ _).alloc (Nat.le_refl _) _
  have HW := hide hW
  have HG := hide hG
  clear hW hG
  go_enter Tryz.func156, Tryz.ntmps156
  go_wp2_with (rw [← HW.out])
  go_loopw [9] (fun i wr => ∃ k : Nat, k ≤ l.length ∧ i = .int .i64 k ∧ Bk wr w.heap.size (dnQ q) 126 ∧ Below w.heap.size w wr ∧ Hid (∀ j (hj : j < l.length), j < k → l[j].i < (q.getD l[j].c.toNat 0 : Int))) (fun i _ => l.length - (intOf i).toNat)
  case atStart => exact ⟨0, Nat.zero_le _, rfl, kd0, B0, hide fun j hj h => by omega⟩
  case round =>
    clear kd0 B0
    obtain ⟨k, hk, rfl, kd, hb, HR⟩ := hrel
    by_cases hlt : k < l.length
    · obtain ⟨b, off, rfl, hbb, hc0, hc1⟩ := ids_get (h.below hb) hlt
      have hcr := HG.out _ (List.getElem_mem hlt)
      obtain ⟨i, hi⟩ := Int.eq_ofNat_of_zero_le hcr.1
      have hi4 : i < 4 := by omega
      have hx2 : (l[k].c).toNat = i := by omega
      have HP := hide (pass_step (q := q) hlt)
      have HF := hide (pass_from (q := q) (l := l) (k := k) hk fun j hj => HR.out j (by omega) hj)
      have HN := hide (fun (hh : l[k].i < (q.getD l[k].c.toNat 0 : Int)) => (fun j hj h1 => by
          by_cases hjk : j = k
          · subst hjk; exact hh
          · exact HR.out j hj (by omega) : ∀ j (hj : j < l.length), j < k + 1 → l[j].i < (q.getD l[j].c.toNat 0 : Int)))
      rw [hx2] at HP HN
      obtain ⟨x, hx⟩ : ∃ x, x = l[k].i := ⟨_, rfl⟩
      rw [← hx] at hc1 HP HN
      rw [hi] at hc0
      obtain ⟨n, hn⟩ : ∃ n, n = q.getD i 0 := ⟨_, rfl⟩
      rw [← hn] at HP HN
      obtain ⟨W1, hW1⟩ : ∃ W1, W1 = wr.alloc (Obj.cells #[.int .i64 i, .int .i64 x] 191) := ⟨_, rfl⟩
      have kp : Bk W1 wr.heap.size #[.int .i64 i, .int .i64 x] 191 := by rw [hW1]; exact Bk.new wr _ _
      have kd1 : Bk W1 w.heap.size (dnQ q) 126 := by rw [hW1]; exact kd.alloc _
      have hb1 : Below w.heap.size w W1 := by rw [hW1]; exact hb.alloc hb.size _
      have hcd := (kd1.cell i).trans (dnQ_get q hi4)
      rw [← hn] at hcd
      have q0 := (kp.cell 0).trans (rfl : _ = some (Value.int .i64 i))
      have q1 := (kp.cell 1).trans (rfl : _ = some (Value.int .i64 x))
      have HW1 := hide hW1
      have hka : (0 : Int) ≤ (i : Int) := by omega
      have hkb : (i : Int) < 4 := by omega
      have hkc : ((i : Int)).toNat = i := by omega
      clear hW1 hx hn hcr hi hx2
      by_cases hh : x < (n : Int)
      · have e0 : decide (x ≥ (n : Int)) = false := decide_eq_false (by omega)
        have e1 : decide ((n : Int) ≤ x) = false := decide_eq_false (by omega)
        have HE := hide (HN.out hh)
        clear hh HP HF HN
        go_upto_region 4 with fail
        rw [← HW1.out]
        go_quiet (fail)
        go_wp2
        go_roundw
        case rel => exact ⟨k + 1, by omega, by go_num, kd1.drewN _, below_drewN hb1 _, HE⟩
        case measure => simp [intOf]; omega
      · have e0 : decide (x ≥ (n : Int)) = true := decide_eq_true (by omega)
        have e1 : decide ((n : Int) ≤ x) = true := decide_eq_true (by omega)
        have HE := hide (show passW q l = k by rw [HF.out, HP.out, if_neg hh]; rfl)
        clear hh HP HF HN
        go_upto_region 4 with fail
        rw [← HW1.out]
        go_quiet (fail)
        go_wp2
        go_ret
        exact ⟨ret_int (by rw [HE.out]), below_drewN hb1 _⟩
    · obtain rfl : k = l.length := by omega
      have HE := hide (show passW q l = l.length from by
        rw [pass_from (q := q) (l := l) (k := l.length) (Nat.le_refl _) fun j hj => HR.out j hj hj, List.drop_length]
        rfl)
      go_wp2
      go_ret
      exact ⟨ret_int (by rw [HE.out]), hb⟩
/-- What a load finds behind these stores. -/
def lastV (t : List (List Ev)) (l : List Wid) (k : Nat) : Int := match k with
  | 0 => 0
  | j + 1 => match l[j]? with
    | some x => (evN t x.c.toNat x.i.toNat).v
    | none => 0
set_option maxRecDepth 100000 in
set_option maxHeartbeats 400000 in
theorem lastValue_any (t : List (List Ev)) (l : List Wid) (n : Nat) (A D : Option Addr) (c d : Nat) (v : Value) (w : World) (hn : n ≤ l.length) (hm : l.length ≤ maxLen) (hG : ∀ x ∈ l, (0 ≤ x.c ∧ x.c < (t.length : Int)) ∧ 0 ≤ x.i ∧ x.i < ((t.getD x.c.toNat []).length : Int)) (h : RdT w w.heap.size A t) (h' : RdC w w.heap.size D (wids l)) :
    Calls Tryz.prog 157 #[.agg #[.slice A t.length c, v], .slice D n d] w fun e w' => e = .returned (.int .i64 (lastV t l n)) ∧ Below w.heap.size w w' := by
  unfold maxLen at hm
  obtain ⟨W, hW⟩ : ∃ W, W = w.alloc (Obj.cells #[.slice A t.length c, v] 124) := ⟨_, rfl⟩
  have kb : Bk W w.heap.size #[.slice A t.length c, v] 124 := by rw [hW]; exact Bk.new w _ _
  have B0 : Below w.heap.size w W := by rw [hW]; exact (Below.refl _ _).alloc (Nat.le_refl _) _
  have HW := hide hW
  clear hW
  rcases n with _ | k
  · go_enter Tryz.func157, Tryz.ntmps157
    go_wp2_with (rw [← HW.out])
    go_ret
    exact ⟨rfl, B0⟩
  · have hlt : k < l.length := by omega
    obtain ⟨b, off, rfl, hbb, hc0, hc1⟩ := ids_get (h'.below B0) hlt
    obtain ⟨⟨g0, g1⟩, g2, g3⟩ := hG _ (List.getElem_mem hlt)
    have HV := hide (show lastV t l (k + 1) = (evN t l[k].c.toNat l[k].i.toNat).v by
      unfold lastV
      simp only [List.getElem?_eq_getElem hlt])
    obtain ⟨i, hi⟩ := Int.eq_ofNat_of_zero_le g0
    obtain ⟨j, hj⟩ := Int.eq_ofNat_of_zero_le g2
    have hi2 : i < t.length := by omega
    have eD : t.getD i [] = t[i] := by rw [List.getD_eq_getElem?_getD, List.getElem?_eq_getElem hi2]; rfl
    rw [hi, hj] at HV
    simp only [Int.toNat_natCast] at HV
    rw [hi] at hc0 g3
    rw [hj] at hc1 g3
    rw [Int.toNat_natCast, eD] at g3
    have hj2 : j < t[i].length := by omega
    rw [(evN_get t hi2 hj2).1] at HV
    obtain ⟨W1, hW1⟩ : ∃ W1, W1 = W.alloc (Obj.cells #[.int .i64 i, .int .i64 j] 191) := ⟨_, rfl⟩
    have kp : Bk W1 W.heap.size #[.int .i64 i, .int .i64 j] 191 := by rw [hW1]; exact Bk.new W _ _
    have kb1 : Bk W1 w.heap.size #[.slice A t.length c, v] 124 := by rw [hW1]; exact kb.alloc _
    have B1 : Below w.heap.size w W1 := by rw [hW1]; exact B0.alloc B0.size _
    have HW1 := hide hW1
    obtain ⟨b2, off2, a2, d2, rfl, hbb2, t0, hle2, hcm2, hr2⟩ := (h.below B1).get hi2
    obtain ⟨b3, off3, rfl, hbb3, e0, e1, e2⟩ := hr2.get hj2
    have q0 := (kb1.cell 0).trans (rfl : _ = some (Value.slice (some ⟨b2, off2, none⟩) t.length c))
    have p0 := (kp.cell 0).trans (rfl : _ = some (Value.int .i64 i))
    have p1 := (kp.cell 1).trans (rfl : _ = some (Value.int .i64 j))
    have i0 : (0 : Int) ≤ (i : Int) := by omega
    have i1 : (i : Int) < (t.length : Int) := by omega
    have i2 : ((i : Int)).toNat = i := by omega
    have j0 : (0 : Int) ≤ (j : Int) := by omega
    have j1 : (j : Int) < (t[i].length : Int) := by omega
    have j2 : ((j : Int)).toNat = j := by omega
    clear hW1 g0 g1 g2 g3 hi hj eD
    go_enter Tryz.func157, Tryz.ntmps157
    go_wp2_with (first | rw [← HW.out] | rw [← HW1.out])
    go_quiet (fail)
    go_wp2
    go_ret
    exact ⟨ret_int (by rw [HV.out]), below_drewN B1 _⟩
end Go.Proofs.YtnnfkmjhaljplaaGreatDoor
namespace Go.Proofs.YtnnfkmjhaljplaaGreatDoor
open Go.RowKit
/-- What is asked of a trace and its write order. -/
structure JdgOk (t : List (List Ev)) (os : List Wls) : Prop where
  few : t.length ≤ 4
  len : ∀ i, (t.getD i []).length ≤ 8
  olen : os.length ≤ 1000000
  right : rightO t os
theorem JdgOk.ids {t : List (List Ev)} {os : List Wls} (h : JdgOk t os) {a : Int} {x : Wid} (hx : x ∈ findW os a) : (0 ≤ x.c ∧ x.c < (t.length : Int)) ∧ 0 ≤ x.i ∧ x.i < ((t.getD x.c.toNat []).length : Int) := by
  obtain ⟨h1, h2, _⟩ := find_id h.right hx
  exact ⟨h1, h2⟩
theorem JdgOk.ids4 {t : List (List Ev)} {os : List Wls} (h : JdgOk t os) {a : Int} : ∀ x ∈ findW os a, 0 ≤ x.c ∧ x.c < 4 := fun x hx => by
  obtain ⟨⟨h1, h2⟩, _⟩ := h.ids hx
  have := h.few
  omega
theorem can_load {t : List (List Ev)} {os : List Wls} {q : List Nat} {c : Nat} (h : q.getD c 0 < (t.getD c []).length) (hk : ¬ (evN t c (q.getD c 0)).k = 1) : canW t os q c = decide ((evN t c (q.getD c 0)).v = lastV t (findW os (evN t c (q.getD c 0)).a) (passW q (findW os (evN t c (q.getD c 0)).a))) := by
  rcases hp : passW q (findW os (evN t c (q.getD c 0)).a) with _ | j
  · rw [can_first h hk hp]; rfl
  · have hle := pass_le q (findW os (evN t c (q.getD c 0)).a)
    have hl : j < (findW os (evN t c (q.getD c 0)).a).length := by omega
    rw [can_last h hk hp hl]
    unfold lastV
    simp only [List.getElem?_eq_getElem hl]
set_option maxRecDepth 100000 in
set_option maxHeartbeats 1600000 in
theorem mayFollow_any (t : List (List Ev)) (os : List Wls) (q : List Nat) (k : Nat) (A A' : Option Addr) (c c' : Nat) (w : World) (hj : JdgOk t os) (hq : okQ t q) (hk : k < t.length) (h : RdT w w.heap.size A t) (h' : RdW w w.heap.size A' os) :
    Calls Tryz.prog 82 #[.agg #[.slice A t.length c, .slice A' os.length c'], .agg (dnQ q), .int .i64 (k : Nat)] w fun e w' => e = .returned (.bool (canW t os q k)) ∧ Below w.heap.size w w' := by
  have hk4 : k < 4 := by have := hj.few; omega
  obtain ⟨W, hW⟩ : ∃ W, W = (w.alloc (Obj.cells #[.slice A t.length c, .slice A' os.length c'] 124)).alloc (Obj.cells (dnQ q) 126) := ⟨_, rfl⟩
  have kb : Bk W w.heap.size #[.slice A t.length c, .slice A' os.length c'] 124 := by rw [hW]; exact (Bk.new w _ _).alloc _
  have kd : Bk W (w.heap.size + 1) (dnQ q) 126 := by rw [hW]; have := Bk.new (w.alloc (Obj.cells #[.slice A t.length c, .slice A' os.length c'] 124)) (dnQ q) 126; rw [World.size_alloc] at this; exact this
  have B0 : Below w.heap.size w W := by rw [hW]; exact ((Below.refl _ _).alloc (Nat.le_refl _) _).alloc (by rw [World.size_alloc]; omega) _
  have HW := hide hW
  clear hW
  have eD : t.getD k [] = t[k] := by rw [List.getD_eq_getElem?_getD, List.getElem?_eq_getElem hk]; rfl
  have q0 := (kb.cell 0).trans (rfl : _ = some (Value.slice A t.length c))
  have q1 := (kb.cell 1).trans (rfl : _ = some (Value.slice A' os.length c'))
  have hcd := (kd.cell k).trans (dnQ_get q hk4)
  obtain ⟨b, off, a, d, rfl, hbb, t0, hle, hcm, hr⟩ := (h.below B0).get hk
  have hlen := hj.len k
  have hqk := hq.2 k
  rw [eD] at hlen hqk
  obtain ⟨n, hn⟩ : ∃ n, n = q.getD k 0 := ⟨_, rfl⟩
  rw [← hn] at hcd hqk
  have i0 : (0 : Int) ≤ (k : Int) := by omega
  have i1 : (k : Int) < (t.length : Int) := by omega
  have i2 : ((k : Int)).toNat = k := by omega
  have i3 : (k : Int) < 4 := by omega
  by_cases hlt : n < t[k].length
  · obtain ⟨b2, off2, rfl, hbb2, e0, e1, e2⟩ := hr.get hlt
    have j0 : (0 : Int) ≤ (n : Int) := by omega
    have j1 : (n : Int) < (t[k].length : Int) := by omega
    have j2 : ((n : Int)).toNat = n := by omega
    have f0 : ((n : Int) == (t[k].length : Int)) = false := beq_eq_false_iff_ne.2 (by omega)
    have f1 : ((t[k].length : Int) == (n : Int)) = false := beq_eq_false_iff_ne.2 (by omega)
    have hlq : q.getD k 0 < (t.getD k []).length := by rw [← hn, eD]; exact hlt
    have hev : evN t k (q.getD k 0) = t[k][n] := by rw [← hn]; exact (evN_get t hk hlt).1
    have CS := can_store (os := os) (c := k) hlq
    have CF := can_load (os := os) (c := k) hlq
    have SP := fun hh => store_pass (os := os) (c := k) hlq hh hj.right
    rw [hev] at CS CF SP
    rw [← hn] at CS
    obtain ⟨e, he⟩ : ∃ e, e = t[k][n] := ⟨_, rfl⟩
    rw [← he] at CS CF SP e0 e1 e2
    have HN := hide hn
    have HCS := hide CS
    have HCF := hide CF
    have HSP := hide SP
    have HQ := hide hq
    have HT := hide h
    have HO := hide h'
    have HB0 := hide B0
    have HJ := hide hj
    clear CS CF SP hev hlq he hn hq h h' B0 hj
    go_enter Tryz.func82, Tryz.ntmps82
    go_wp2_with (rw [← HW.out])
    go_quiet (fail)
    go_wp2
    obtain ⟨V, hV⟩ : ∃ V, V = W.drewN nq := ⟨_, rfl⟩
    rw [← hV]
    have V0 : V.cell? ⟨w.heap.size, 0, none⟩ = some (Value.slice (some ⟨b, off, none⟩) t.length c) := by rw [hV]; exact q0
    have Vd : V.cell? ⟨w.heap.size + 1, k, none⟩ = some (Value.int .i64 n) := by rw [hV]; exact hcd
    have Vt : V.cell? ⟨b, off + k, none⟩ = some (Value.slice (some ⟨b2, off2, none⟩) t[k].length d) := by rw [hV]; exact t0
    have Ve0 : V.cell? ⟨b2, off2 + n * 3, none⟩ = some (Value.int .i64 e.k) := by rw [hV]; exact e0
    have Ve1 : V.cell? ⟨b2, off2 + n * 3 + 1, none⟩ = some (Value.int .i64 e.a) := by rw [hV]; exact e1
    have Ve2 : V.cell? ⟨b2, off2 + n * 3 + 2, none⟩ = some (Value.int .i64 e.v) := by rw [hV]; exact e2
    have kbV : Bk V w.heap.size #[.slice (some ⟨b, off, none⟩) t.length c, .slice A' os.length c'] 124 := by rw [hV]; exact kb.drewN _
    have kdV : Bk V (w.heap.size + 1) (dnQ q) 126 := by rw [hV]; exact kd.drewN _
    have BV := hide (show Below w.heap.size w V by rw [hV]; exact below_drewN HB0.out _)
    have HBV := hide kbV
    have HDV := hide kdV
    have HK := hide (Bk.new V.drew #[.int .i64 e.k, .int .i64 e.a, .int .i64 e.v] 48)
    clear q0 hcd t0 e0 e1 e2 kb kd q1 HW HB0 hV hr kbV kdV
    have lift : ∀ (p : Addr) (x : Value), V.cell? p = some x → (V.alloc (Obj.cells #[.int .i64 0, .int .i64 0, .int .i64 0] 48)).cell? p = some x := fun p x hp => (World.cell?_alloc_lt V _ p (block_lt_of_cell hp)).trans hp
    have A0 := lift _ _ V0
    have Ad := lift _ _ Vd
    have At := lift _ _ Vt
    have Ae0 := lift _ _ Ve0
    have Ae1 := lift _ _ Ve1
    have Ae2 := lift _ _ Ve2
    clear lift
    go_region
    clear A0 Ad At Ae0 Ae1 Ae2 V0 Vd Vt Ve0 Ve1 Ve2
    obtain ⟨X, hX⟩ : ∃ X, X = (V.alloc (Obj.cells #[.int .i64 e.k, .int .i64 e.a, .int .i64 e.v] 48)).drew := ⟨_, rfl⟩
    rw [← hX]
    have ke : Bk X V.heap.size #[.int .i64 e.k, .int .i64 e.a, .int .i64 e.v] 48 := by rw [hX]; exact (Bk.new V #[.int .i64 e.k, .int .i64 e.a, .int .i64 e.v] 48).drewN 1
    have kb : Bk X w.heap.size #[.slice (some ⟨b, off, none⟩) t.length c, .slice A' os.length c'] 124 := by rw [hX]; exact (HBV.out.alloc _).drewN 1
    have kd : Bk X (w.heap.size + 1) (dnQ q) 126 := by rw [hX]; exact (HDV.out.alloc _).drewN 1
    have BX : Below w.heap.size w X := by rw [hX]; exact (BV.out.alloc BV.out.size _).drew
    clear hX HK HBV HDV BV
    have q0 := (kb.cell 0).trans (rfl : _ = some (Value.slice (some ⟨b, off, none⟩) t.length c))
    have q1 := (kb.cell 1).trans (rfl : _ = some (Value.slice A' os.length c'))
    have e1 := (ke.cell 1).trans (rfl : _ = some (Value.int .i64 e.a))
    go_wp2_with fail
    refine (idsOf_any os A' c' e.a _ X HJ.out.olen HJ.out.right.2.1 ((HO.out.below BX).lt)).mono ?_
    rintro e4 w4 ⟨D, dd, rfl, hle4, hcm4, rC, b4⟩
    obtain ⟨L, hL⟩ : ∃ L, L = findW os e.a := ⟨_, rfl⟩
    rw [← hL] at hle4 rC HCS HCF HSP
    have HI4 := hide (show ∀ x ∈ L, 0 ≤ x.c ∧ x.c < 4 by rw [hL]; exact HJ.out.ids4)
    have HI := hide (show ∀ x ∈ L, (0 ≤ x.c ∧ x.c < (t.length : Int)) ∧ 0 ≤ x.i ∧ x.i < ((t.getD x.c.toNat []).length : Int) by rw [hL]; exact fun x hx => HJ.out.ids hx)
    rw [← hL]
    clear hL q0 q1 e1
    have ke4 := ke.kept b4
    have kb4 := kb.kept b4
    have kd4 := kd.kept b4
    have B4 := BX.trans (b4.mono BX.size)
    have rC4 := rC.lt
    clear ke kb kd rC
    have d0 := (kd4.cell 0).trans (rfl : _ = some (Value.int .i64 (q.getD 0 0 : Nat)))
    have d1 := (kd4.cell 1).trans (rfl : _ = some (Value.int .i64 (q.getD 1 0 : Nat)))
    have d2 := (kd4.cell 2).trans (rfl : _ = some (Value.int .i64 (q.getD 2 0 : Nat)))
    have d3 := (kd4.cell 3).trans (rfl : _ = some (Value.int .i64 (q.getD 3 0 : Nat)))
    go_wp2_with fail
    refine (among_any q L D dd w4 (by unfold maxLen at hcm4 ⊢; omega) HI4.out rC4).mono ?_
    rintro e5 w5 ⟨rfl, b5⟩
    obtain ⟨p, hp⟩ : ∃ p, p = passW q L := ⟨_, rfl⟩
    have hpl : p ≤ L.length := by rw [hp]; exact pass_le q L
    rw [← hp] at HCF HSP ⊢
    have HPP := hide hp
    have ke5 := ke4.kept b5
    have kb5 := kb4.kept b5
    have kd5 := kd4.kept b5
    have B5 := B4.trans (b5.mono B4.size)
    have rC5 := rC4.below b5
    have hzX := b4.size
    have hz5 := b5.size
    clear ke4 kb4 kd4 d0 d1 d2 d3 hp b5 b4 B4
    have e0 := (ke5.cell 0).trans (rfl : _ = some (Value.int .i64 e.k))
    by_cases hk1 : e.k = 1
    · have hplt := HSP.out hk1
      have HC := hide (HCS.out hk1 (by rw [← HPP.out]; exact hplt))
      obtain ⟨y, hy⟩ : ∃ y, y = L[p] := ⟨_, rfl⟩
      have HC2 := hide (show canW t os q k = decide (y = ⟨(k : Int), (n : Int)⟩) by rw [HC.out, hy]; simp only [HPP.out])
      obtain ⟨b6, off6, rfl, hbb6, c0, c1⟩ := ids_get rC5 hplt
      rw [← hy] at c0 c1
      have hcd := (kd5.cell k).trans (dnQ_get q hk4)
      rw [← HN.out] at hcd
      have p0 : (0 : Int) ≤ (p : Int) := by omega
      have p1 : (p : Int) < (L.length : Int) := by omega
      have p2 : ((p : Int)).toNat = p := by omega
      rw [hk1] at e0
      clear hy HC HCS HCF HSP hk1
      by_cases hyc : y.c = (k : Int)
      · by_cases hyi : y.i = (n : Int)
        · have HE := hide (show canW t os q k = true by rw [HC2.out]; exact decide_eq_true (by rw [← hyc, ← hyi]))
          rw [hyc] at c0
          rw [hyi] at c1
          clear hyc hyi HC2
          go_wp2
          go_quiet (fail)
          go_wp2
          go_ret
          exact ⟨ret_bool HE.out.symm, below_drewN B5 _⟩
        · have HE := hide (show canW t os q k = false by rw [HC2.out]; exact decide_eq_false (fun h => hyi (by rw [h])))
          have g0 : (y.i == (n : Int)) = false := beq_eq_false_iff_ne.2 hyi
          rw [hyc] at c0
          clear hyc hyi HC2
          go_wp2
          go_quiet (fail)
          go_wp2
          go_ret
          exact ⟨ret_bool HE.out.symm, below_drewN B5 _⟩
      · have HE := hide (show canW t os q k = false by rw [HC2.out]; exact decide_eq_false (fun h => hyc (by rw [h])))
        have g0 : (y.c == (k : Int)) = false := beq_eq_false_iff_ne.2 hyc
        clear hyc HC2
        go_wp2
        go_quiet (fail)
        go_wp2
        go_ret
        exact ⟨ret_bool HE.out.symm, below_drewN B5 _⟩
    · have HC := hide (HCF.out hk1)
      have g0 : (e.k == 1) = false := beq_eq_false_iff_ne.2 hk1
      have g1 : (e.k != 1) = true := bne_iff_ne.2 hk1
      have e2 := (ke5.cell 2).trans (rfl : _ = some (Value.int .i64 e.v))
      have q0 := (kb5.cell 0).trans (rfl : _ = some (Value.slice (some ⟨b, off, none⟩) t.length c))
      have q1 := (kb5.cell 1).trans (rfl : _ = some (Value.slice A' os.length c'))
      have p0 : (0 : Int) ≤ (p : Int) := by omega
      have p1 : (p : Int) ≤ (dd : Int) := by omega
      have p2 : ((p : Int)).toNat = p := by omega
      have LV := hide (fun V (hV : RdT V V.heap.size (some ⟨b, off, none⟩) t) (hV' : RdC V V.heap.size D (wids L)) => lastValue_any t L p (some ⟨b, off, none⟩) D c dd (.slice A' os.length c') V hpl (by unfold maxLen at hcm4 ⊢; omega) HI.out hV hV')
      have hT5 := HT.out.below B5
      have rC6 := rC5.lt
      have hT6 := hT5.lt
      have hz5' : w4.heap.size ≤ w5.heap.size := hz5
      clear HCS HCF HSP hk1 rC5 hT5
      go_wp2
      go_region_held3 (fun w' => w'.cell? ⟨V.heap.size, 2, none⟩ = some (Value.int .i64 e.v) ∧ w'.cell? ⟨w.heap.size, 0, none⟩ = some (Value.slice (some ⟨b, off, none⟩) t.length c) ∧ w'.cell? ⟨w.heap.size, 1, none⟩ = some (Value.slice A' os.length c') ∧ Below w5.heap.size w5 w')
        (first | assumption | exact ⟨e2, q0, q1, (Below.refl _ _).drew⟩ | (go_split_ands; exact ⟨cell_kept (by assumption) (by assumption), cell_kept (by assumption) (by assumption), cell_kept (by assumption) (by assumption), Below.trans (by assumption) (Below.mono (by assumption) (Below.size (by assumption)))⟩))
        (first
          | (go_at_call 157; refine (LV.out _ ?_ ?_).mono ?_; (go_split_ands; exact (hT6.below (by assumption : Below w5.heap.size w5 _)).lt); (go_split_ands; exact (rC6.below (by assumption : Below w5.heap.size w5 _)).lt); rintro e wa ⟨rfl, ba⟩))
      all_goals
        go_wp2
        go_ret
        exact ⟨ret_bool (by rw [HC.out]; rfl), B5.trans (Below.mono (by go_split_ands; assumption) B5.size)⟩
  · have HE := hide (show canW t os q k = false from can_end (by rw [eD, ← hn]; exact hlt))
    obtain rfl : n = t[k].length := by omega
    clear hn hlt hj hq
    go_enter Tryz.func82, Tryz.ntmps82
    go_wp2_with (rw [← HW.out])
    go_quiet (fail)
    go_wp2
    go_ret
    exact ⟨ret_bool HE.out.symm, below_drewN B0 _⟩
end Go.Proofs.YtnnfkmjhaljplaaGreatDoor
namespace Go.Proofs.YtnnfkmjhaljplaaGreatDoor
open Go.RowKit
theorem sumO_lists {t : List (List Ev)} : ∀ {os : List Wls}, (∀ w ∈ os, listW t w) → os.length ≤ sumO os
  | [], _ => Nat.le_refl _
  | w :: r, h => by
    have h1 := (h w (by simp)).1
    have := sumO_lists (os := r) fun v hv => h v (by simp [hv])
    rw [sumO, List.length_cons]
    omega
theorem jdg_ok {t : List (List Ev)} {os : List Wls} (h : odF t os = 0) : JdgOk t os := by
  obtain ⟨h0, hr⟩ := odF_zero h
  obtain ⟨h4, h8⟩ := trF_short h0
  refine ⟨h4, fun i => ?_, ?_, hr⟩
  · rcases Nat.lt_or_ge i t.length with a | a
    · rw [List.getD_eq_getElem?_getD, List.getElem?_eq_getElem a]
      exact h8 _ (List.getElem_mem a)
    · rw [List.getD_eq_getElem?_getD, List.getElem?_eq_none a]
      simp
  · have a := sumO_lists hr.1
    have b := allW_le t h8
    rw [hr.2.2] at a
    omega
theorem JdgOk.rows {t : List (List Ev)} {os : List Wls} (h : JdgOk t os) : ∀ l ∈ t, l.length ≤ 8 := fun l hl => by
  obtain ⟨i, hi, rfl⟩ := List.getElem_of_mem hl
  have := h.len i
  rw [List.getD_eq_getElem?_getD, List.getElem?_eq_getElem hi] at this
  exact this
theorem Bk.far4 {w : World} {g p : Nat} {cs : Array Value} {t : TypeId} (h : Bk w g cs t) (hp : g ≠ p) (u v x y : Value) : Bk ((((w.setCell ⟨p, 0, none⟩ u).setCell ⟨p, 1, none⟩ v).setCell ⟨p, 2, none⟩ x).setCell ⟨p, 3, none⟩ y) g cs t := (((h.far (p := ⟨p, 0, none⟩) hp u).far (p := ⟨p, 1, none⟩) hp v).far (p := ⟨p, 2, none⟩) hp x).far (p := ⟨p, 3, none⟩) hp y
theorem dnQ_lit (q : List Nat) : dnQ q = #[.int .i64 (q.getD 0 0 : Nat), .int .i64 (q.getD 1 0 : Nat), .int .i64 (q.getD 2 0 : Nat), .int .i64 (q.getD 3 0 : Nat)] := rfl
theorem Bk.done {w : World} {b : Nat} {q : List Nat} (h : Bk w b (dnQ q) 126) (q' : List Nat) : Bk ((((w.setCell ⟨b, 0, none⟩ (.int .i64 (q'.getD 0 0 : Nat))).setCell ⟨b, 1, none⟩ (.int .i64 (q'.getD 1 0 : Nat))).setCell ⟨b, 2, none⟩ (.int .i64 (q'.getD 2 0 : Nat))).setCell ⟨b, 3, none⟩ (.int .i64 (q'.getD 3 0 : Nat))) b (dnQ q') 126 :=
  (((h.set_ 0 _).set_ 1 _).set_ 2 _).set_ 3 _
end Go.Proofs.YtnnfkmjhaljplaaGreatDoor
namespace Go.Proofs.YtnnfkmjhaljplaaGreatDoor
open Go.RowKit
/-- What l8Find tells: where a list of these ids lies. -/
def FindPost (os : List Wls) (a : Int) (w : World) (e : Ending) (w' : World) : Prop := ∃ g o D d, e = .returned (.pointer (some ⟨g, o, none⟩)) ∧ w'.cell? ⟨g, o + 1, none⟩ = some (.slice D (findW os a).length d) ∧ (findW os a).length ≤ d ∧ d ≤ maxLen ∧ RdC w' w'.heap.size D (wids (findW os a)) ∧ Below w.heap.size w w'
set_option maxRecDepth 100000 in
set_option maxHeartbeats 400000 in
theorem l8Find_any (os : List Wls) (A : Option Addr) (c : Nat) (a : Int) (w : World) (hm : os.length ≤ 1000000) (h : RdW w w.heap.size A os) :
    Calls Tryz.prog 294 #[.slice A os.length c, .int .i64 a] w fun e w' => FindPost os a w e w' := by
  unfold FindPost
  go_enter Tryz.func294, Tryz.ntmps294
  go_wp2
  go_loop [8] (fun i => ∃ k : Nat, k ≤ os.length ∧ i = .int .i64 k ∧ Hid (findW os a = findW (os.drop k) a)) (fun i => os.length - (intOf i).toNat)
  case atStart => exact ⟨0, Nat.zero_le _, rfl, hide rfl⟩
  case round =>
    obtain ⟨k, hk, rfl, HR⟩ := hrel
    by_cases hlt : k < os.length
    · obtain ⟨b, off, D, d, rfl, hbb, c0, c1, hle, hcm, hr⟩ := h.get hlt
      have HN := hide (show findW (os.drop k) a = if os[k].a = a then os[k].ids else findW (os.drop (k + 1)) a by rw [List.drop_eq_getElem_cons hlt, findW])
      obtain ⟨x, hx⟩ : ∃ x, x = os[k] := ⟨_, rfl⟩
      rw [← hx] at c0 c1 hle hr HN
      clear hx
      by_cases he : x.a = a
      · have HE := hide (show findW os a = x.ids by rw [HR.out, HN.out, if_pos he])
        have g0 : (x.a == a) = true := beq_iff_eq.2 he
        clear he HN HR
        go_wp2
        go_ret
        rw [HE.out]
        exact ⟨b, off + k * 2, rfl, D, d, c1, hle, hcm, hr, Below.refl _ _⟩
      · have HE := hide (show findW os a = findW (os.drop (k + 1)) a by rw [HR.out, HN.out, if_neg he])
        have g0 : (x.a == a) = false := beq_eq_false_iff_ne.2 he
        clear he HN HR
        go_wp2
        go_round
        case rel => exact ⟨k + 1, by omega, by go_num, HE⟩
        case measure => simp [intOf]; omega
    · have HE := hide (show findW os a = [] by rw [HR.out, List.drop_eq_nil_of_le (by omega)]; rfl)
      obtain rfl : k = os.length := by omega
      have kb := Bk.new w #[.int .i64 0, .slice none 0 0] 159
      have B0 := (Below.refl w.heap.size w).alloc (Nat.le_refl _) (Obj.cells #[.int .i64 0, .slice none 0 0] 159)
      have q1 := (kb.cell 1).trans (rfl : _ = some (Value.slice none 0 0))
      go_wp2
      go_ret
      rw [HE.out]
      exact ⟨w.heap.size, 0, rfl, none, 0, q1, Nat.le_refl _, Nat.zero_le _, RdC.nil_, B0⟩
theorem drewN_cell {w V : World} {n : Nat} {p : Addr} {x : Value} (h : w.cell? p = some x) (hV : V = w.drewN n) : V.cell? p = some x := by rw [hV]; exact h
theorem lastV_at {t : List (List Ev)} {l : List Wid} {p : Nat} (h : ¬ p = 0) (hl : p - 1 < l.length) : lastV t l p = (evN t l[p - 1].c.toNat l[p - 1].i.toNat).v := by
  obtain ⟨j, rfl⟩ : ∃ j, p = j + 1 := ⟨p - 1, by omega⟩
  have hl' : j < l.length := hl
  unfold lastV
  simp only [List.getElem?_eq_getElem hl', Nat.add_sub_cancel]
theorem intR_get (q : List Nat) {i : Nat} (h : i < (intR q).length) : (intR q)[i] = ((q.getD i 0 : Nat) : Int) := by
  have h' : i < q.length := by simpa [intR] using h
  simp only [intR, List.getElem_map]
  rw [List.getD_eq_getElem?_getD, List.getElem?_eq_getElem h']
  rfl
theorem intR_len (q : List Nat) : (intR q).length = q.length := by simp [intR]
set_option maxRecDepth 100000 in
set_option maxHeartbeats 1600000 in
theorem l8Can_any (t : List (List Ev)) (os : List Wls) (q : List Nat) (k : Nat) (A A' Q : Option Addr) (c c' cq : Nat) (w : World) (hj : JdgOk t os) (hq : okQ t q) (hk : k < t.length) (h : RdT w w.heap.size A t) (h' : RdW w w.heap.size A' os) (hQ : Rd .i64 w w.heap.size Q (intR q)) :
    Calls Tryz.prog 265 #[.slice A t.length c, .slice A' os.length c', .slice Q t.length cq, .int .i64 (k : Nat)] w fun e w' => e = .returned (.bool (canW t os q k)) ∧ Below w.heap.size w w' := by
  have hkq : k < (intR q).length := by rw [intR_len, hq.1]; exact hk
  have eD : t.getD k [] = t[k] := by rw [List.getD_eq_getElem?_getD, List.getElem?_eq_getElem hk]; rfl
  obtain ⟨b, off, a, d, rfl, hbb, t0, hle, hcm, hr⟩ := h.get hk
  obtain ⟨bq, oq, rfl, hbq, hcd⟩ := hQ.get hkq
  rw [intR_get] at hcd
  have hlen := hj.len k
  have hqk := hq.2 k
  rw [eD] at hlen hqk
  obtain ⟨n, hn⟩ : ∃ n, n = q.getD k 0 := ⟨_, rfl⟩
  rw [← hn] at hcd hqk
  have i0 : (0 : Int) ≤ (k : Int) := by omega
  have i1 : (k : Int) < (t.length : Int) := by omega
  have i2 : ((k : Int)).toNat = k := by omega
  by_cases hlt : n < t[k].length
  · obtain ⟨b2, off2, rfl, hbb2, e0, e1, e2⟩ := hr.get hlt
    have j0 : (0 : Int) ≤ (n : Int) := by omega
    have j1 : (n : Int) < (t[k].length : Int) := by omega
    have j2 : ((n : Int)).toNat = n := by omega
    have f0 : decide ((n : Int) ≥ (t[k].length : Int)) = false := decide_eq_false (by omega)
    have f1 : decide ((t[k].length : Int) ≤ (n : Int)) = false := decide_eq_false (by omega)
    have hlq : q.getD k 0 < (t.getD k []).length := by rw [← hn, eD]; exact hlt
    have hev : evN t k (q.getD k 0) = t[k][n] := by rw [← hn]; exact (evN_get t hk hlt).1
    have CS := can_store (os := os) (c := k) hlq
    have CF := can_load (os := os) (c := k) hlq
    have SP := fun hh => store_pass (os := os) (c := k) hlq hh hj.right
    rw [hev] at CS CF SP
    rw [← hn] at CS
    obtain ⟨e, he⟩ : ∃ e, e = t[k][n] := ⟨_, rfl⟩
    rw [← he] at CS CF SP e0 e1 e2
    have HCS := hide CS
    have HCF := hide CF
    have HSP := hide SP
    have HQ := hide hq
    have HT := hide h
    have HO := hide h'
    have HJ := hide hj
    have hj' := hj
    have HN := hide hn
    have HRQ := hide hQ
    clear CS CF SP hev hlq he hn hq h h' hj hQ hr hkq
    go_enter Tryz.func265, Tryz.ntmps265
    go_wp2
    go_quiet (fail)
    go_wp2
    go_quiet (fail)
    go_wp2_with fail
    have HFD := hide (fun V (hV : RdW V V.heap.size A' os) => l8Find_any os A' c' e.a V hj'.olen hV)
    have HH := hide (And.intro t0 (And.intro e0 (And.intro e1 (And.intro e2 hcd))))
    refine (HFD.out _ (by exact HO.out)).mono ?_
    rintro e4 w4 ⟨g, o, D, dd, rfl, cL, hle4, hcm4, rC, b4⟩
    have B4 : Below w.heap.size w w4 := (below_drewN (Below.refl _ _) _).trans b4
    obtain ⟨L, hL⟩ : ∃ L, L = findW os e.a := ⟨_, rfl⟩
    rw [← hL] at hle4 rC HCS HCF HSP cL
    have HI := hide (show ∀ x ∈ L, (0 ≤ x.c ∧ x.c < (t.length : Int)) ∧ 0 ≤ x.i ∧ x.i < ((t.getD x.c.toNat []).length : Int) by rw [hL]; exact fun x hx => HJ.out.ids hx)
    have hz4 := B4.size
    clear hL hcd t0 e0 e1 e2 b4 HFD
    go_wp2
    go_loopw [11] (fun i wr => ∃ p : Nat, p ≤ L.length ∧ i = .int .i64 p ∧ Below w4.heap.size w4 wr ∧ Hid (∀ j (hj : j < L.length), j < p → L[j].i < (q.getD L[j].c.toNat 0 : Int))) (fun i _ => L.length - (intOf i).toNat)
    case atStart => exact ⟨0, Nat.zero_le _, rfl, Below.refl _ _, hide fun j hj h => by omega⟩
    case round =>
      obtain ⟨p, hp, rfl, hb, HR⟩ := hrel
      have hpm : p < maxLen + 1 := by omega
      unfold maxLen at hpm
      have hb0 := hb
      have hB : Below w.heap.size w wr := B4.trans (hb.mono hz4)
      have xL := cell_kept hb cL
      have rCr := rC.below hb
      have t0 := cell_kept hB HH.out.1
      have e0 := cell_kept hB HH.out.2.1
      have e2 := cell_kept hB HH.out.2.2.2.1
      have hcd := cell_kept hB HH.out.2.2.2.2
      have hp0 : (0 : Int) ≤ (p : Int) := by omega
      have hp2 : ((p : Int)).toNat = p := by omega
      clear hb B4
      by_cases hlp : p < L.length
      · obtain ⟨b3, off3, hD3, hbb3, c0, c1⟩ := ids_get rCr hlp
        obtain ⟨⟨g1, g2⟩, g3, g4⟩ := HI.out _ (List.getElem_mem hlp)
        obtain ⟨i5, hi5⟩ := Int.eq_ofNat_of_zero_le g1
        have hi2 : i5 < t.length := by omega
        have hx2 : (L[p].c).toNat = i5 := by omega
        have HPS := hide (pass_step (q := q) hlp)
        have HPF := hide (pass_from (q := q) (l := L) (k := p) hp fun j hj => HR.out j (by omega) hj)
        have HPN := hide (fun (hh : L[p].i < (q.getD L[p].c.toNat 0 : Int)) => (fun j hj h1 => by
          by_cases hjk : j = p
          · subst hjk; exact hh
          · exact HR.out j hj (by omega) : ∀ j (hj : j < L.length), j < p + 1 → L[j].i < (q.getD L[j].c.toNat 0 : Int)))
        rw [hx2] at HPS HPN
        have HLP := hide (show ∀ y : Wid, L[p] = y → L[p]? = some y from fun y hy => by rw [List.getElem?_eq_getElem hlp, hy])
        obtain ⟨x, hx⟩ : ∃ x, x = L[p] := ⟨_, rfl⟩
        rw [← hx] at c0 c1 HPS HPN hi5
        obtain ⟨b6, o6, hQ6, hb6, qc⟩ := (HRQ.out.below hB).get (i := i5) (by rw [intR_len, HQ.out.1]; exact hi2)
        rw [intR_get] at qc
        simp only [Option.some.injEq, Addr.mk.injEq, and_true] at hQ6
        obtain ⟨hQ6, hQ6'⟩ := hQ6
        subst hQ6
        subst hQ6'
        obtain ⟨m, hm⟩ : ∃ m, m = q.getD i5 0 := ⟨_, rfl⟩
        rw [← hm] at qc HPS HPN
        have HX := hide hx
        have HM := hide hm
        rw [hi5] at c0
        have k0 : (0 : Int) ≤ (i5 : Int) := by omega
        have k1 : (i5 : Int) < (t.length : Int) := by omega
        have k2 : ((i5 : Int)).toNat = i5 := by omega
        have hpI : (p : Int) < (L.length : Int) := by omega
        have hd0 : decide ((p : Int) < (L.length : Int)) = true := decide_eq_true hpI
        have HXC := hide hi5
        clear hx hm hi5 hx2 g1 g2 g3 g4
        subst hD3
        by_cases hh : x.i < (m : Int)
        · have HE := hide (HPN.out hh)
          have hwr : IntKind.i64.wrap ((p : Int) + 1) = (p : Int) + 1 := by unfold maxLen at hcm4; rw [IntKind.wrap_i64]; omega
          have hd1 : decide (x.i < (m : Int)) = true := decide_eq_true hh
          clear HPS HPF HPN
          go_wp2_with fail
          go_quiet (fail)
          go_wp2
          go_roundw
          case rel => exact ⟨p + 1, by omega, by go_num, below_drewN hb0 _, HE⟩
          case measure => simp [intOf]; omega
        · have HE := hide (show passW q L = p by rw [HPF.out, HPS.out, if_neg hh]; rfl)
          have hd1 : decide (x.i < (m : Int)) = false := decide_eq_false hh
          clear HPS HPF HPN
          by_cases hk1 : e.k = 1
          · have HCL := hide (fun hk1 : e.k = 1 => HCS.out hk1 (by rw [HE.out]; exact hlp))
            have HC2 := hide (show canW t os q k = decide (x = ⟨(k : Int), (n : Int)⟩) by rw [HCL.out hk1, HX.out]; simp only [HE.out])
            rw [hk1] at e0
            clear HCL HCF HSP HCS hk1
            by_cases hyc : x.c = (k : Int)
            · by_cases hyi : x.i = (n : Int)
              · have HF := hide (show canW t os q k = true by rw [HC2.out]; exact decide_eq_true (by rw [← hyc, ← hyi]))
                have g2 : ((i5 : Int) == (k : Int)) = true := beq_iff_eq.2 (by have := HXC.out; omega)
                have g3 : (x.i == (n : Int)) = true := beq_iff_eq.2 hyi
                clear hyc hyi HC2
                go_wp2_with fail
                go_quiet (fail)
                go_wp2
                go_quiet (fail)
                go_wp2
                go_ret
                exact ⟨ret_bool HF.out.symm, below_drewN (below_drewN hB _) _⟩
              · have HF := hide (show canW t os q k = false by rw [HC2.out]; exact decide_eq_false (fun h => hyi (by rw [h])))
                have g3 : (x.i == (n : Int)) = false := beq_eq_false_iff_ne.2 hyi
                clear hyc hyi HC2
                go_wp2_with fail
                go_quiet (fail)
                go_wp2
                go_quiet (fail)
                go_wp2
                go_ret
                exact ⟨ret_bool HF.out.symm, below_drewN (below_drewN hB _) _⟩
            · have HF := hide (show canW t os q k = false by rw [HC2.out]; exact decide_eq_false (fun h => hyc (by rw [h])))
              have g2 : ((i5 : Int) == (k : Int)) = false := beq_eq_false_iff_ne.2 (by have := HXC.out; omega)
              clear hyc HC2
              go_wp2_with fail
              go_quiet (fail)
              go_wp2
              go_quiet (fail)
              go_wp2
              go_ret
              exact ⟨ret_bool HF.out.symm, below_drewN (below_drewN hB _) _⟩
          · have HC := hide (show canW t os q k = decide (e.v = lastV t L p) by rw [HCF.out hk1, HE.out])
            have g0 : (e.k == 1) = false := beq_eq_false_iff_ne.2 hk1
            have g1 : (e.k != 1) = true := bne_iff_ne.2 hk1
            clear HCS HCF HSP hk1
            by_cases hz : p = 0
            · have hz0 : ((p : Int) == 0) = true := beq_iff_eq.2 (by omega)
              have HL0 := hide (show lastV t L p = 0 by rw [hz]; rfl)
              clear hz
              by_cases hv : e.v = 0
              · have HF := hide (show canW t os q k = true by rw [HC.out]; exact decide_eq_true (by rw [HL0.out]; exact hv))
                have g2 : (e.v == 0) = true := beq_iff_eq.2 hv
                clear hv HC
                go_wp2_with fail
                go_quiet (fail)
                go_wp2
                go_ret
                exact ⟨ret_bool HF.out.symm, below_drewN hB _⟩
              · have HF := hide (show canW t os q k = false by rw [HC.out]; exact decide_eq_false (by rw [HL0.out]; exact hv))
                have g2 : (e.v == 0) = false := beq_eq_false_iff_ne.2 hv
                clear hv HC
                go_wp2_with fail
                go_quiet (fail)
                go_wp2
                go_ret
                exact ⟨ret_bool HF.out.symm, below_drewN hB _⟩
            · have hz0 : ((p : Int) == 0) = false := beq_eq_false_iff_ne.2 (by omega)
              have hm0 : (0 : Int) ≤ (p : Int) - 1 := by omega
              have hm1 : (p : Int) - 1 < (L.length : Int) := by omega
              have hm2 : ((p : Int) - 1).toNat = p - 1 := by omega
              have hwr2 : IntKind.i64.wrap ((p : Int) - 1) = (p : Int) - 1 := by unfold maxLen at hcm4; rw [IntKind.wrap_i64]; omega
              have hlq : p - 1 < L.length := by omega
              obtain ⟨b7, off7, hD7, hbb7, l0, l1⟩ := ids_get rCr hlq
              obtain ⟨⟨g5, g6⟩, g7, g8⟩ := HI.out _ (List.getElem_mem hlq)
              have HV := hide (show lastV t L p = (evN t L[p - 1].c.toNat L[p - 1].i.toNat).v from lastV_at (by omega) hlq)
              obtain ⟨i5, hi5⟩ := Int.eq_ofNat_of_zero_le g5
              obtain ⟨j5, hj5⟩ := Int.eq_ofNat_of_zero_le g7
              have hi2 : i5 < t.length := by omega
              have eD5 : t.getD i5 [] = t[i5] := by rw [List.getD_eq_getElem?_getD, List.getElem?_eq_getElem hi2]; rfl
              rw [hi5, hj5] at HV
              simp only [Int.toNat_natCast] at HV
              rw [hi5] at l0 g8
              rw [hj5] at l1 g8
              rw [Int.toNat_natCast, eD5] at g8
              have hj2 : j5 < t[i5].length := by omega
              rw [(evN_get t hi2 hj2).1] at HV
              obtain ⟨b8, off8, a8, d8, hA8, hbb8, s0, hle8, hcm8, hr8⟩ := (HT.out.below hB).get hi2
              obtain ⟨b9, off9, hA9, hbb9, v0, v1, v2⟩ := hr8.get hj2
              simp only [Option.some.injEq, Addr.mk.injEq, and_true] at hA8
              obtain ⟨hA8, hA8'⟩ := hA8
              subst hA8
              subst hA8'
              subst hA9
              obtain ⟨y, hy⟩ : ∃ y, y = (t[i5])[j5] := ⟨_, rfl⟩
              rw [← hy] at HV v0 v1 v2
              have r0 : (0 : Int) ≤ (i5 : Int) := by omega
              have r1 : (i5 : Int) < (t.length : Int) := by omega
              have r2 : ((i5 : Int)).toNat = i5 := by omega
              have r3 : (0 : Int) ≤ (j5 : Int) := by omega
              have r4 : (j5 : Int) < (t[i5].length : Int) := by omega
              have r5 : ((j5 : Int)).toNat = j5 := by omega
              have HF := hide (show canW t os q k = (e.v == y.v) by rw [HC.out, HV.out]; rfl)
              clear HC HV hy g5 g6 g7 g8 hi5 hj5 eD5
              simp only [Option.some.injEq, Addr.mk.injEq, and_true] at hD7
              obtain ⟨hD7, hD7'⟩ := hD7
              subst hD7
              subst hD7'
              go_wp2_with fail
              go_quiet (fail)
              go_upto_region 12 with fail
              obtain ⟨V, hV⟩ : ∃ V, V = wr.drewN nq := ⟨_, rfl⟩
              rw [← hV]
              have xLV := drewN_cell xL hV
              have l0V := drewN_cell l0 hV
              have l1V := drewN_cell l1 hV
              have s0V := drewN_cell s0 hV
              have v2V := drewN_cell v2 hV
              have e2V := drewN_cell e2 hV
              have hBV : Below w.heap.size w V := by rw [hV]; exact below_drewN hB _
              clear hV
              obtain ⟨X, hX⟩ : ∃ X, X = V.alloc (Obj.cells #[.int .i64 i5, .int .i64 j5] 191) := ⟨_, rfl⟩
              have kX : Bk X V.heap.size #[.int .i64 i5, .int .i64 j5] 191 := by rw [hX]; exact Bk.new V _ _
              have s0X := (World.cell?_alloc_lt V (Obj.cells #[.int .i64 i5, .int .i64 j5] 191) _ (block_lt_of_cell s0V)).trans s0V
              have v2X := (World.cell?_alloc_lt V (Obj.cells #[.int .i64 i5, .int .i64 j5] 191) _ (block_lt_of_cell v2V)).trans v2V
              have e2X := (World.cell?_alloc_lt V (Obj.cells #[.int .i64 i5, .int .i64 j5] 191) _ (block_lt_of_cell e2V)).trans e2V
              have hBX : Below w.heap.size w X := by rw [hX]; exact hBV.alloc hBV.size _
              rw [← hX] at s0X v2X e2X
              have x0 := (kX.cell 0).trans (rfl : _ = some (Value.int .i64 i5))
              have x1 := (kX.cell 1).trans (rfl : _ = some (Value.int .i64 j5))
              have HXX := hide hX
              clear hX s0 v2 e2 s0V v2V e2V
              go_upto_region 13 with fail
              rw [← HXX.out]
              go_quiet (fail)
              go_wp2
              go_ret
              exact ⟨ret_bool HF.out.symm, below_drewN hBX _⟩
      · have HE := hide (show passW q L = p by
          obtain rfl : p = L.length := by omega
          rw [pass_from (q := q) (l := L) (k := L.length) (Nat.le_refl _) fun j hj => HR.out j hj hj, List.drop_length]
          rfl)
        have hd0 : decide ((p : Int) < (L.length : Int)) = false := decide_eq_false (by omega)
        by_cases hk1 : e.k = 1
        · have := HSP.out hk1
          rw [HE.out] at this
          exact absurd this hlp
        · have HC := hide (show canW t os q k = decide (e.v = lastV t L p) by rw [HCF.out hk1, HE.out])
          have g0 : (e.k == 1) = false := beq_eq_false_iff_ne.2 hk1
          have g1 : (e.k != 1) = true := bne_iff_ne.2 hk1
          clear HCS HCF HSP hk1
          by_cases hz : p = 0
          · have hz0 : ((p : Int) == 0) = true := beq_iff_eq.2 (by omega)
            have HL0 := hide (show lastV t L p = 0 by rw [hz]; rfl)
            clear hz
            by_cases hv : e.v = 0
            · have HF := hide (show canW t os q k = true by rw [HC.out]; exact decide_eq_true (by rw [HL0.out]; exact hv))
              have g2 : (e.v == 0) = true := beq_iff_eq.2 hv
              clear hv HC
              go_wp2_with fail
              go_quiet (fail)
              go_wp2
              go_ret
              exact ⟨ret_bool HF.out.symm, below_drewN hB _⟩
            · have HF := hide (show canW t os q k = false by rw [HC.out]; exact decide_eq_false (by rw [HL0.out]; exact hv))
              have g2 : (e.v == 0) = false := beq_eq_false_iff_ne.2 hv
              clear hv HC
              go_wp2_with fail
              go_quiet (fail)
              go_wp2
              go_ret
              exact ⟨ret_bool HF.out.symm, below_drewN hB _⟩
          · have hz0 : ((p : Int) == 0) = false := beq_eq_false_iff_ne.2 (by omega)
            have hm0 : (0 : Int) ≤ (p : Int) - 1 := by omega
            have hm1 : (p : Int) - 1 < (L.length : Int) := by omega
            have hm2 : ((p : Int) - 1).toNat = p - 1 := by omega
            have hwr2 : IntKind.i64.wrap ((p : Int) - 1) = (p : Int) - 1 := by unfold maxLen at hcm4; rw [IntKind.wrap_i64]; omega
            have hlq : p - 1 < L.length := by omega
            obtain ⟨b7, off7, hD7, hbb7, l0, l1⟩ := ids_get rCr hlq
            obtain ⟨⟨g5, g6⟩, g7, g8⟩ := HI.out _ (List.getElem_mem hlq)
            have HV := hide (show lastV t L p = (evN t L[p - 1].c.toNat L[p - 1].i.toNat).v from lastV_at (by omega) hlq)
            obtain ⟨i5, hi5⟩ := Int.eq_ofNat_of_zero_le g5
            obtain ⟨j5, hj5⟩ := Int.eq_ofNat_of_zero_le g7
            have hi2 : i5 < t.length := by omega
            have eD5 : t.getD i5 [] = t[i5] := by rw [List.getD_eq_getElem?_getD, List.getElem?_eq_getElem hi2]; rfl
            rw [hi5, hj5] at HV
            simp only [Int.toNat_natCast] at HV
            rw [hi5] at l0 g8
            rw [hj5] at l1 g8
            rw [Int.toNat_natCast, eD5] at g8
            have hj2 : j5 < t[i5].length := by omega
            rw [(evN_get t hi2 hj2).1] at HV
            obtain ⟨b8, off8, a8, d8, hA8, hbb8, s0, hle8, hcm8, hr8⟩ := (HT.out.below hB).get hi2
            obtain ⟨b9, off9, hA9, hbb9, v0, v1, v2⟩ := hr8.get hj2
            simp only [Option.some.injEq, Addr.mk.injEq, and_true] at hA8
            obtain ⟨hA8, hA8'⟩ := hA8
            subst hA8
            subst hA8'
            subst hA9
            obtain ⟨y, hy⟩ : ∃ y, y = (t[i5])[j5] := ⟨_, rfl⟩
            rw [← hy] at HV v0 v1 v2
            have r0 : (0 : Int) ≤ (i5 : Int) := by omega
            have r1 : (i5 : Int) < (t.length : Int) := by omega
            have r2 : ((i5 : Int)).toNat = i5 := by omega
            have r3 : (0 : Int) ≤ (j5 : Int) := by omega
            have r4 : (j5 : Int) < (t[i5].length : Int) := by omega
            have r5 : ((j5 : Int)).toNat = j5 := by omega
            have HF := hide (show canW t os q k = (e.v == y.v) by rw [HC.out, HV.out]; rfl)
            clear HC HV hy g5 g6 g7 g8 hi5 hj5 eD5
            subst hD7
            go_wp2_with fail
            go_quiet (fail)
            go_upto_region 12 with fail
            obtain ⟨V, hV⟩ : ∃ V, V = wr.drewN nq := ⟨_, rfl⟩
            rw [← hV]
            have xLV := drewN_cell xL hV
            have l0V := drewN_cell l0 hV
            have l1V := drewN_cell l1 hV
            have s0V := drewN_cell s0 hV
            have v2V := drewN_cell v2 hV
            have e2V := drewN_cell e2 hV
            have hBV : Below w.heap.size w V := by rw [hV]; exact below_drewN hB _
            clear hV
            obtain ⟨X, hX⟩ : ∃ X, X = V.alloc (Obj.cells #[.int .i64 i5, .int .i64 j5] 191) := ⟨_, rfl⟩
            have kX : Bk X V.heap.size #[.int .i64 i5, .int .i64 j5] 191 := by rw [hX]; exact Bk.new V _ _
            have s0X := (World.cell?_alloc_lt V (Obj.cells #[.int .i64 i5, .int .i64 j5] 191) _ (block_lt_of_cell s0V)).trans s0V
            have v2X := (World.cell?_alloc_lt V (Obj.cells #[.int .i64 i5, .int .i64 j5] 191) _ (block_lt_of_cell v2V)).trans v2V
            have e2X := (World.cell?_alloc_lt V (Obj.cells #[.int .i64 i5, .int .i64 j5] 191) _ (block_lt_of_cell e2V)).trans e2V
            have hBX : Below w.heap.size w X := by rw [hX]; exact hBV.alloc hBV.size _
            rw [← hX] at s0X v2X e2X
            have x0 := (kX.cell 0).trans (rfl : _ = some (Value.int .i64 i5))
            have x1 := (kX.cell 1).trans (rfl : _ = some (Value.int .i64 j5))
            have HXX := hide hX
            clear hX s0 v2 e2 s0V v2V e2V
            go_upto_region 13 with fail
            rw [← HXX.out]
            go_quiet (fail)
            go_wp2
            go_ret
            exact ⟨ret_bool HF.out.symm, below_drewN hBX _⟩
  · have HE := hide (show canW t os q k = false from can_end (by rw [eD, ← hn]; exact hlt))
    obtain rfl : n = t[k].length := by omega
    clear hn hlt hj hq
    go_enter Tryz.func265, Tryz.ntmps265
    go_wp2
    go_quiet (fail)
    go_wp2
    go_ret
    exact ⟨ret_bool HE.out.symm, below_drewN (Below.refl _ _) _⟩
end Go.Proofs.YtnnfkmjhaljplaaGreatDoor
namespace Go.Proofs.YtnnfkmjhaljplaaGreatDoor
open Go.RowKit
theorem intR_zero (t : List (List Ev)) : (intR (zeroQ t)).map (Value.int .i64) = List.replicate t.length (Value.int .i64 0) := by
  unfold zeroQ intR
  rw [List.map_replicate, List.map_replicate]
  rfl
theorem intR_next (q : List Nat) (c : Nat) : ((intR q).map (Value.int .i64)).set c (.int .i64 ((q.getD c 0 : Nat) + 1 : Int)) = (intR (nextQ q c)).map (Value.int .i64) := by
  unfold intR nextQ
  rw [List.map_set, List.map_set]
  rfl
theorem evsT_few {t : List (List Ev)} {os : List Wls} (h : JdgOk t os) : evsT t ≤ 32 := by
  have key : ∀ t : List (List Ev), (∀ l ∈ t, l.length ≤ 8) → evsT t ≤ 8 * t.length := by
    intro t
    induction t with
    | nil => intro _; simp [evsT]
    | cons l r ih =>
      intro h
      have h1 := ih fun x hx => h x (List.mem_cons_of_mem _ hx)
      have := h l (List.mem_cons_self ..)
      simp only [evsT] at h1
      simp only [evsT, List.map_cons, List.sum_cons, List.length_cons]
      omega
  have := key t h.rows
  have := h.few
  omega
end Go.Proofs.YtnnfkmjhaljplaaGreatDoor
