/- The contract of OrderFault in the model: stores counted, ids, lists. -/
import Derived.Test.YtdmdljimbmhecaaOdm6
import Derived.Test.YtdmdljimbmhecaaEqW
import Derived.Test.YtdmdljimbmhecaaGTrS
import Derived.BigQuiet
namespace Go.Proofs.Ytdmdljimbmhecaa
open Go.RowKit

theorem cntS_le (a : Int) : ∀ l : List Ev, cntS a l ≤ l.length
  | [] => Nat.le_refl _
  | e :: r => by have := cntS_le a r; rw [cntS, List.length_cons]; split <;> omega
theorem storesW_append (a : Int) : ∀ l m : List (List Ev), storesW a (l ++ m) = storesW a l + storesW a m
  | [], m => by simp [storesW]
  | e :: r, m => by rw [List.cons_append, storesW, storesW, storesW_append a r m]; omega
theorem storesW_le (a : Int) : ∀ t : List (List Ev), (∀ l ∈ t, l.length ≤ 8) → storesW a t ≤ 8 * t.length
  | [], _ => Nat.le_refl _
  | l :: r, h => by
    have h1 := storesW_le a r fun x hx => h x (by simp [hx])
    have h2 := cntS_le a l
    have h3 := h l (by simp)
    rw [storesW, List.length_cons]; omega
theorem cntS_step (a : Int) {l : List Ev} {j : Nat} (h : j < l.length) : cntS a (l.take (j + 1)) = cntS a (l.take j) + if l[j].k = 1 ∧ l[j].a = a then 1 else 0 := by
  rw [List.take_succ_eq_append_getElem h, cntS_append]
  simp [cntS]
theorem storesW_step (a : Int) {t : List (List Ev)} {k : Nat} (h : k < t.length) : storesW a (t.take (k + 1)) = storesW a (t.take k) + cntS a t[k] := by
  rw [List.take_succ_eq_append_getElem h, storesW_append]
  simp [storesW]
theorem storesW_take_le (a : Int) (t : List (List Ev)) (k : Nat) : storesW a (t.take k) ≤ storesW a t := by
  have := storesW_append a (t.take k) (t.drop k)
  rw [List.take_append_drop] at this
  omega
theorem cntS_take_le (a : Int) (l : List Ev) (k : Nat) : cntS a (l.take k) ≤ cntS a l := by
  have := cntS_append a (l.take k) (l.drop k)
  rw [List.take_append_drop] at this
  omega

set_option maxRecDepth 100000 in
set_option maxHeartbeats 800000 in
theorem l8Stores_any (t : List (List Ev)) (a : Int) (A : Option Addr) (c : Nat) (w : World) (hm : t.length ≤ 4) (h8 : ∀ l ∈ t, l.length ≤ 8) (h : RdT w w.heap.size A t) :
    Calls Try.prog 108 #[.slice A t.length c, .int .i64 a] w fun e w' => e = .returned (.int .i64 (storesW a t : Nat)) ∧ w = w' := by
  have hle := storesW_le a t h8
  go_enter Try.func108, Try.ntmps108
  go_wp2
  go_loop [5, 10] (fun v i => ∃ k n : Nat, k ≤ t.length ∧ i = .int .i64 k ∧ v = .int .i64 n ∧ Hid (n = storesW a (t.take k))) (fun _ i => t.length - (intOf i).toNat)
  case atStart => exact ⟨0, 0, Nat.zero_le _, rfl, rfl, hide rfl⟩
  case round =>
    obtain ⟨k, n, hk, rfl, rfl, HN⟩ := hrel
    by_cases hlt : k < t.length
    · obtain ⟨b, off, a1, d, rfl, hbb, hc0, hle1, hcm, hr⟩ := h.get hlt
      have hs := storesW_step a hlt
      have hs2 := storesW_take_le a t (k + 1)
      have HS := hide hs
      have hb32 : n + cntS a t[k] ≤ 32 := by rw [HN.out]; omega
      have h8k := h8 _ (List.getElem_mem hlt)
      obtain ⟨es, hes⟩ : ∃ es, es = t[k] := ⟨_, rfl⟩
      rw [← hes] at hc0 hr hb32 HS hle1 h8k
      clear hs hs2 hes hle1
      go_wp2
      go_loop [5, 18] (fun v i => ∃ j m : Nat, j ≤ es.length ∧ i = .int .i64 j ∧ v = .int .i64 m ∧ Hid (m = n + cntS a (es.take j))) (fun _ i => es.length - (intOf i).toNat)
      case atStart => exact ⟨0, n, Nat.zero_le _, rfl, rfl, hide rfl⟩
      case round =>
        obtain ⟨j, m, hj, rfl, rfl, HM⟩ := hrel
        by_cases hjl : j < es.length
        · obtain ⟨b2, off2, rfl, _, e0, e1, e2⟩ := hr.get hjl
          have hstep := cntS_step a hjl
          have hm32 : m ≤ 32 := by rw [HM.out]; have := cntS_take_le a es j; omega
          obtain ⟨x, hx⟩ : ∃ x, x = es[j] := ⟨_, rfl⟩
          rw [← hx] at e0 e1 e2 hstep
          have HX := hide hstep
          clear hstep hx
          by_cases hkk : x.k = 1
          · have f0 : (x.k == 1) = true := beq_iff_eq.2 hkk
            by_cases haa : x.a = a
            · have f1 : (x.a == a) = true := beq_iff_eq.2 haa
              have HY := hide (show m + 1 = n + cntS a (es.take (j + 1)) by rw [HX.out, if_pos ⟨hkk, haa⟩, HM.out]; omega)
              clear hkk haa
              go_wp2
              go_round
              case rel => exact ⟨j + 1, m + 1, by omega, by go_num, by go_num, HY⟩
              case measure => simp [intOf]; omega
            · have f1 : (x.a == a) = false := beq_eq_false_iff_ne.2 haa
              have HY := hide (show m = n + cntS a (es.take (j + 1)) by rw [HX.out, if_neg (fun e => haa e.2), HM.out]; omega)
              clear hkk haa
              go_wp2
              go_round
              case rel => exact ⟨j + 1, m, by omega, by go_num, rfl, HY⟩
              case measure => simp [intOf]; omega
          · have f0 : (x.k == 1) = false := beq_eq_false_iff_ne.2 hkk
            have HY := hide (show m = n + cntS a (es.take (j + 1)) by rw [HX.out, if_neg (fun e => hkk e.1), HM.out]; omega)
            clear hkk
            go_wp2
            go_round
            case rel => exact ⟨j + 1, m, by omega, by go_num, rfl, HY⟩
            case measure => simp [intOf]; omega
        · obtain rfl : j = es.length := by omega
          rw [List.take_length] at HM
          go_wp2
          go_round
          case rel => exact ⟨k + 1, m, by omega, by go_num, rfl, hide (by rw [HS.out, HM.out, HN.out])⟩
          case measure => simp [intOf]; omega
    · obtain rfl : k = t.length := by omega
      rw [List.take_length] at HN
      go_wp2
      go_ret
      exact ⟨ret_int (by rw [HN.out]), rfl⟩

open Classical in
noncomputable def idB (t : List (List Ev)) (a : Int) (x : Wid) : Bool := if idW t a x then true else false
theorem idB_yes {t : List (List Ev)} {a : Int} {x : Wid} (h : idW t a x) : idB t a x = true := if_pos h
theorem idB_no {t : List (List Ev)} {a : Int} {x : Wid} (h : ¬ idW t a x) : idB t a x = false := if_neg h
set_option maxRecDepth 100000 in
set_option maxHeartbeats 1600000 in
theorem l8Id_any (t : List (List Ev)) (a : Int) (x : Wid) (b off : Nat) (A : Option Addr) (c : Nat) (w : World) (hm : t.length ≤ 4) (h8 : ∀ l ∈ t, l.length ≤ 8) (h : RdT w w.heap.size A t) (h0 : w.cell? ⟨b, off, none⟩ = some (.int .i64 x.c)) (h1 : w.cell? ⟨b, off + 1, none⟩ = some (.int .i64 x.i)) :
    Calls Try.prog 109 #[.slice A t.length c, .pointer (some ⟨b, off, none⟩), .int .i64 a] w fun e w' => e = .returned (.bool (idB t a x)) ∧ ∃ m, w' = w.drewN m := by
  have hw1 : IntKind.i64.wrap ((t.length : Int) - 1) = (t.length : Int) - 1 := IntWalk.i64_in _ (by omega)
  by_cases hc : 0 ≤ x.c ∧ x.c ≤ (t.length : Int) - 1
  · obtain ⟨i, hi⟩ := Int.eq_ofNat_of_zero_le hc.1
    have hit : i < t.length := by omega
    obtain ⟨b1, off1, a1, d, rfl, hbb, hc0, hle1, hcm, hr⟩ := h.get hit
    have h8i := h8 _ (List.getElem_mem hit)
    have hgD : t.getD i [] = t[i] := (by rw [List.getD_eq_getElem?_getD, List.getElem?_eq_getElem hit]; rfl)
    by_cases hx : 0 ≤ x.i ∧ x.i ≤ (t[i].length : Int) - 1
    · obtain ⟨j, hj⟩ := Int.eq_ofNat_of_zero_le hx.1
      have hjt : j < t[i].length := by omega
      obtain ⟨b2, off2, rfl, _, e0, e1, e2⟩ := hr.get hjt
      have HV := hide (show idW t a x ↔ t[i][j].k = 1 ∧ t[i][j].a = a by
        unfold idW
        rw [hi, hj]
        simp only [Int.toNat_natCast]
        rw [(evN_get t hit hjt).1, hgD]
        exact ⟨fun h => ⟨h.2.2.1, h.2.2.2⟩, fun h => ⟨⟨by omega, by omega⟩, ⟨by omega, by omega⟩, h.1, h.2⟩⟩)
      obtain ⟨es, hes⟩ : ∃ es, es = t[i] := ⟨_, rfl⟩
      obtain ⟨v, hv⟩ : ∃ v, v = t[i][j] := ⟨_, rfl⟩
      rw [← hv] at e0 e1 e2 HV
      simp only [← hes] at hc0 h8i hjt
      rw [hi] at h0
      rw [hj] at h1
      have n1 : ¬ t.length ≤ i := by omega
      have hw2 : IntKind.i64.wrap ((es.length : Int) - 1) = (es.length : Int) - 1 := IntWalk.i64_in _ (by omega)
      have n2 : ¬ es.length ≤ j := by omega
      clear hes hv hr hgD hle1 hx hc hi hj
      go_enter Try.func109, Try.ntmps109
      go_wp2
      go_quiet ((go_at_call 75; first | exact Calls.quiet_of_same (Calls.mono (l1In_yes _ _ _ _ (by omega)) (fun _ _ h => ⟨h.1, h.2.symm⟩)) | exact Calls.quiet_of_same (Calls.mono (l1In_no _ _ _ _ (by omega)) (fun _ _ h => ⟨h.1, h.2.symm⟩))))
      go_wp2
      go_quiet (fail)
      by_cases hkk : v.k = 1
      · have f0 : (v.k == 1) = true := beq_iff_eq.2 hkk
        by_cases haa : v.a = a
        · have f1 : (v.a == a) = true := beq_iff_eq.2 haa
          have HE := hide (idB_yes (HV.out.2 ⟨hkk, haa⟩))
          clear hkk haa
          go_wp2
          go_ret
          exact ⟨ret_bool HE.out.symm, _, rfl⟩
        · have f1 : (v.a == a) = false := beq_eq_false_iff_ne.2 haa
          have HE := hide (idB_no fun h => haa (HV.out.1 h).2)
          clear hkk haa
          go_wp2
          go_ret
          exact ⟨ret_bool HE.out.symm, _, rfl⟩
      · have f0 : (v.k == 1) = false := beq_eq_false_iff_ne.2 hkk
        have HE := hide (idB_no fun h => hkk (HV.out.1 h).1)
        clear hkk
        go_wp2
        go_ret
        exact ⟨ret_bool HE.out.symm, _, rfl⟩
    · have HE := hide (show idB t a x = false from idB_no fun hh => hx (by
        have := hh.2.1
        rw [hi, Int.toNat_natCast, hgD] at this
        omega))
      have hnx : x.i < 0 ∨ (t[i].length : Int) - 1 < x.i := by omega
      obtain ⟨es, hes⟩ : ∃ es, es = t[i] := ⟨_, rfl⟩
      rw [← hes] at hc0 hnx h8i
      rw [hi] at h0
      have n1 : ¬ t.length ≤ i := by omega
      have hw2 : IntKind.i64.wrap ((es.length : Int) - 1) = (es.length : Int) - 1 := IntWalk.i64_in _ (by omega)
      clear hes hr hgD hle1 hx hc hi
      go_enter Try.func109, Try.ntmps109
      go_wp2
      go_quiet ((go_at_call 75; first | exact Calls.quiet_of_same (Calls.mono (l1In_yes _ _ _ _ (by omega)) (fun _ _ h => ⟨h.1, h.2.symm⟩)) | exact Calls.quiet_of_same (Calls.mono (l1In_no _ _ _ _ (by omega)) (fun _ _ h => ⟨h.1, h.2.symm⟩))))
      go_wp2
      go_ret
      exact ⟨ret_bool HE.out.symm, _, rfl⟩
  · have HE := hide (show idB t a x = false from idB_no fun hh => hc (by have := hh.1; omega))
    go_enter Try.func109, Try.ntmps109
    go_wp2
    go_quiet ((go_at_call 75; exact Calls.quiet_of_same (Calls.mono (l1In_no _ _ _ _ (by omega)) (fun _ _ h => ⟨h.1, h.2.symm⟩))))
    go_wp2
    go_ret
    exact ⟨ret_bool HE.out.symm, _, rfl⟩

open Classical in
noncomputable def listB (t : List (List Ev)) (x : Wls) : Bool := if listW t x then true else false
theorem listB_yes {t : List (List Ev)} {x : Wls} (h : listW t x) : listB t x = true := if_pos h
theorem listB_no {t : List (List Ev)} {x : Wls} (h : ¬ listW t x) : listB t x = false := if_neg h
theorem nodup_step {l : List Wid} {j : Nat} (hj : j < l.length) (h : (l.take j).Nodup) (hn : ∀ q (hq : q < l.length), q < j → l[q] ≠ l[j]) : (l.take (j + 1)).Nodup := by
  rw [List.take_succ_eq_append_getElem hj, List.nodup_append]
  refine ⟨h, by simp, fun x hx y hy e => ?_⟩
  rw [List.mem_singleton] at hy
  obtain ⟨q, hq, e2⟩ := List.getElem_of_mem hx
  rw [List.getElem_take] at e2
  rw [List.length_take] at hq
  exact hn q (by omega) (by omega) (by rw [e2, e, hy])
theorem nodup_not {l : List Wid} {j q : Nat} (hj : j < l.length) (hq : q < j) (he : l[q] = l[j]) : ¬ l.Nodup := fun h => by
  have := List.pairwise_iff_getElem.1 h q j (by omega) hj hq
  exact this he
set_option maxRecDepth 100000 in
set_option maxHeartbeats 1600000 in
theorem l8List_any (t : List (List Ev)) (x : Wls) (b off : Nat) (ai : Option Addr) (d : Nat) (A : Option Addr) (c : Nat) (w : World) (hm : t.length ≤ 4) (h8 : ∀ l ∈ t, l.length ≤ 8) (h : RdT w w.heap.size A t) (h0 : w.cell? ⟨b, off, none⟩ = some (.int .i64 x.a)) (h1 : w.cell? ⟨b, off + 1, none⟩ = some (.slice ai x.ids.length d)) (hr : RdC w w.heap.size ai (wids x.ids)) (hxm : x.ids.length ≤ maxLen) :
    Calls Try.prog 64 #[.slice A t.length c, .pointer (some ⟨b, off, none⟩)] w fun e w' => e = .returned (.bool (listB t x)) ∧ ∃ m, w' = w.drewN m := by
  unfold maxLen at hxm
  have ST := hide (fun n => l8Stores_any t x.a A c (w.drewN n) hm h8 (RdT.drewN h n))
  by_cases hz : x.ids.length = 0
  · have HE := hide (listB_no (t := t) (x := x) fun hh => hh.1 hz)
    rw [hz] at h1
    clear hz
    go_enter Try.func64, Try.ntmps64
    go_wp2
    go_quiet (fail)
    go_wp2
    go_ret
    exact ⟨ret_bool HE.out.symm, _, rfl⟩
  · have g0 : ((x.ids.length : Int) == 0) = false := beq_eq_false_iff_ne.2 (by omega)
    have hs32 := storesW_le x.a t h8
    by_cases hs : x.ids.length = storesW x.a t
    · have HS := hide hs
      have HLW := hide (show listW t x ↔ (∀ z ∈ x.ids, idW t x.a z) ∧ x.ids.Nodup from ⟨fun h => h.2.2, fun h => ⟨hz, hs, h⟩⟩)
      rw [← hs] at ST
      have hl32 : x.ids.length ≤ 32 := by omega
      have g1 : ((x.ids.length : Int) == (x.ids.length : Int)) = true := beq_self_eq_true _
      have g2 : ((x.ids.length : Int) != (x.ids.length : Int)) = false := by rw [bne, g1]; rfl
      clear hz hs hs32
      go_enter Try.func64, Try.ntmps64
      go_wp2
      go_quiet ((go_at_call 108; exact Calls.quiet_of_same (Calls.mono (ST.out _) (fun _ _ h => ⟨h.1, h.2.symm⟩))))
      go_wp2
      go_loopw [32] (fun i wr => ∃ (k m : Nat), k ≤ x.ids.length ∧ i = .int .i64 k ∧ wr = w.drewN m ∧ Hid (∀ p (hp : p < x.ids.length), p < k → idW t x.a x.ids[p]) ∧ Hid ((x.ids.take k).Nodup)) (fun i _ => x.ids.length - (intOf i).toNat)
      case atStart => exact ⟨0, _, Nat.zero_le _, rfl, rfl, hide fun p hp h => by omega, hide (by simp)⟩
      case round =>
        obtain ⟨k, m, hk, rfl, hwr, HI, HN⟩ := hrel
        have hT : RdT wr wr.heap.size A t := by rw [hwr]; exact RdT.drewN h m
        have j0 : wr.cell? ⟨b, off, none⟩ = some (.int .i64 x.a) := by rw [hwr]; exact h0
        have j1 : wr.cell? ⟨b, off + 1, none⟩ = some (.slice ai x.ids.length d) := by rw [hwr]; exact h1
        have hrr : RdC wr wr.heap.size ai (wids x.ids) := by rw [hwr]; exact RdC.drewN hr m
        have HWR := hide hwr
        clear h0 h1 hwr
        by_cases hlt : k < x.ids.length
        · obtain ⟨b2, off2, rfl, _, e0, e1⟩ := ids_get hrr hlt
          have n1 : ¬ x.ids.length ≤ k := by omega
          have ID := hide (fun n => l8Id_any t x.a x.ids[k] b2 (off2 + k * 2) A c (wr.drewN n) hm h8 (RdT.drewN hT n) e0 e1)
          by_cases hid : idW t x.a x.ids[k]
          · rw [idB_yes hid] at ID
            have HI2 := hide (show ∀ p (hp : p < x.ids.length), p < k + 1 → idW t x.a x.ids[p] from fun p hp h1 => by
              by_cases hpk : p = k
              · subst hpk; exact hid
              · exact HI.out p hp (by omega))
            obtain ⟨z, hz⟩ : ∃ z, z = x.ids[k] := ⟨_, rfl⟩
            rw [← hz] at e0 e1
            have HZ := hide hz
            clear hid hz
            go_wp2
            go_quiet ((go_at_call 109; exact Calls.quiet_of (Calls.mono (ID.out _) (fun _ _ h => h))))
            go_wp2
            go_loopw [6] (fun i w2 => ∃ (p n : Nat), p ≤ k ∧ i = .int .i64 p ∧ w2 = wr.drewN n ∧ Hid (∀ q (hq : q < x.ids.length), q < p → x.ids[q] ≠ x.ids[k])) (fun i _ => k - (intOf i).toNat)
            case atStart => exact ⟨0, _, Nat.zero_le _, rfl, rfl, hide fun q hq h => by omega⟩
            case round =>
              obtain ⟨p, n, hp, rfl, rfl, HQ⟩ := hrel
              by_cases hpk : p < k
              · have hpl : p < x.ids.length := by omega
                obtain ⟨b3, off3, hA3, _, d0, d1⟩ := ids_get hrr hpl
                cases hA3
                by_cases he : x.ids[p] = z
                · have HE := hide (listB_no (t := t) (x := x) fun hh => nodup_not hlt hpk (he.trans HZ.out) (HLW.out.1 hh).2)
                  rw [he] at d0 d1
                  have n2 : ¬ x.ids.length ≤ p := by omega
                  clear he
                  go_wp2
                  go_quiet (fail)
                  go_wp2
                  go_ret
                  exact ⟨ret_bool HE.out.symm, _, by rw [HWR.out]; simp only [World.drewN_drewN]; rfl⟩
                · have HE := hide (show ∀ q (hq : q < x.ids.length), q < p + 1 → x.ids[q] ≠ x.ids[k] from fun q hq h1 => by
                    by_cases hqp : q = p
                    · subst hqp; rw [← HZ.out]; exact he
                    · exact HQ.out q hq (by omega))
                  have n2 : ¬ x.ids.length ≤ p := by omega
                  rcases wid_ne he with hx | ⟨hx0, hx⟩
                  · have f0 := beq_eq_false_iff_ne.2 hx
                    clear he hx
                    go_wp2
                    go_quiet (fail)
                    go_wp2
                    go_roundw
                    case rel => exact ⟨p + 1, _, by omega, by go_num, rfl, HE⟩
                    case measure => simp [intOf]; omega
                  · have f0 := beq_eq_false_iff_ne.2 hx
                    rw [hx0] at d0
                    clear he hx hx0
                    go_wp2
                    go_quiet (fail)
                    go_wp2
                    go_roundw
                    case rel => exact ⟨p + 1, _, by omega, by go_num, rfl, HE⟩
                    case measure => simp [intOf]; omega
              · obtain rfl : p = k := by omega
                have HN2 := hide (nodup_step hlt HN.out fun q hq h1 => HQ.out q hq h1)
                go_wp2
                go_roundw
                case rel => exact ⟨p + 1, _, by omega, by go_num, by rw [HWR.out, World.drewN_drewN], HI2, HN2⟩
                case measure => simp [intOf]; omega
          · have HE := hide (listB_no (t := t) (x := x) fun hh => hid ((HLW.out.1 hh).1 _ (List.getElem_mem hlt)))
            rw [idB_no hid] at ID
            clear hid
            go_wp2
            go_quiet ((go_at_call 109; exact Calls.quiet_of (Calls.mono (ID.out _) (fun _ _ h => h))))
            go_wp2
            go_ret
            exact ⟨ret_bool HE.out.symm, _, by rw [HWR.out]; simp only [World.drewN_drewN]; rfl⟩
        · obtain rfl : k = x.ids.length := by omega
          have HE := hide (listB_yes (HLW.out.2 ⟨fun z hz => by
            obtain ⟨p, hp, e⟩ := List.getElem_of_mem hz
            rw [← e]; exact HI.out p hp hp, by have := HN.out; rwa [List.take_length] at this⟩))
          go_wp2
          go_ret
          exact ⟨ret_bool HE.out.symm, _, HWR.out⟩
    · have HE := hide (listB_no (t := t) (x := x) fun hh => hs hh.2.1)
      obtain ⟨S, hS⟩ : ∃ S, S = storesW x.a t := ⟨_, rfl⟩
      rw [← hS] at ST hs
      have g1 : ((x.ids.length : Int) == (S : Int)) = false := beq_eq_false_iff_ne.2 (by omega)
      have g2 : ((x.ids.length : Int) != (S : Int)) = true := bne_iff_ne.2 (by omega)
      clear hz hs hs32 hS
      go_enter Try.func64, Try.ntmps64
      go_wp2
      go_quiet ((go_at_call 108; exact Calls.quiet_of_same (Calls.mono (ST.out _) (fun _ _ h => ⟨h.1, h.2.symm⟩))))
      go_wp2
      go_ret
      exact ⟨ret_bool HE.out.symm, _, rfl⟩
end Go.Proofs.Ytdmdljimbmhecaa
