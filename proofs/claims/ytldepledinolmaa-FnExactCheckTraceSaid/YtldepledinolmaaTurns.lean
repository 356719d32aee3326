/- The contract of the program's iterator of turns. -/
import Derived.RangeFuncNested
import Derived.RangeFuncBound
import Derived.RangeFuncCalls
import Derived.RangeFuncLeaves
import Derived.RangeFuncWrites
import Derived.Shelf.Abstract
import Derived.Shelf.RegionOpen
import Derived.WalkKit
import Derived.OwnWalkIn
import Derived.TacticsInMore
import Derived.LoopNIn
import Derived.LoopIn
import Derived.Test.YtldepledinolmaaMapT
namespace Go.Proofs.Ytldepledinolmaa
open Go.RowKit Go.Shelf
attribute [local go_sem] Oper.semAt_some

abbrev Num64 := { p : Int // I64 p }
/-- What yield is handed. -/
def encN (x : Num64) : Array Value := #[.int .i64 x.1]
/-- What the loop's body must keep. -/
def KpT (B Bp Bc : Nat) (W W' : World) : Prop := Below B W W' ∧ (∀ v, Bk W Bp #[v] 41 → Bk W' Bp #[v] 41) ∧ ∀ v, Bk W Bc #[v] 31 → Bk W' Bc #[v] 31
theorem KpT.refl (B Bp Bc : Nat) (W : World) : KpT B Bp Bc W W := ⟨Below.refl _ _, fun _ h => h, fun _ h => h⟩
theorem kpT_t {B Bp Bc : Nat} {X Y Z : World} (h : KpT B Bp Bc X Y) (k : KpT B Bp Bc Y Z) : KpT B Bp Bc X Z := ⟨h.1.trans k.1, fun v hv => k.2.1 v (h.2.1 v hv), fun v hv => k.2.2 v (h.2.2 v hv)⟩
theorem kpT_b {B Bp Bc : Nat} {w : World} (hB : B ≤ w.heap.size) (W : World) (l : Nat) (o o' : Obj) (hl : w.heap.size ≤ l) (h : W.heap[l]? = some o) (hc : o.isCells = false) (_ : o.isWalk = false) : KpT B Bp Bc W (W.putObj l o') := by
  have hk : ∀ g cs t, Bk W g cs t → Bk (W.putObj l o') g cs t := fun g cs t hb => by
    refine (World.putObj_heap_other (fun e => ?_)).trans hb
    subst e
    rw [show W.heap[g]? = _ from hb] at h; cases h; cases hc
  exact ⟨(Below.refl B W).grown (grownBy_putObj' W l o') (by have := (Array.getElem?_eq_some_iff.1 h).1; omega) (fun k e => by cases e; omega), fun v => hk _ _ _, fun v => hk _ _ _⟩

theorem repsT_room {t : List (List Ev)} : ∀ {n k : Nat}, k < n → (repsT t k).length + lenT t (k : Int) ≤ (repsT t n).length
  | 0, k, h => absurd h (Nat.not_lt_zero _)
  | n + 1, k, h => by
    rw [repsT, List.length_append, List.length_replicate]
    by_cases hk : k = n
    · subst hk; exact Nat.le_refl _
    · have := repsT_room (t := t) (n := n) (k := k) (by omega)
      omega

set_option maxRecDepth 100000 in
set_option maxHeartbeats 2000000 in
theorem turns1_in (F : Fence) (n : Nat) (h7 : F.fn 137) (hro : F.round = none) (hn : 1 ≤ n) (l Bp Bc B : Nat) (t : List (List Ev)) (A : Option Addr) (c : Nat) (picks : List Int) (Ap : Option Addr) (cp : Nat)
    (ht : t.length ≤ 4) (h8 : ∀ l ∈ t, l.length ≤ 8) (hpk : picks.length ≤ 100) (hpI : ∀ p ∈ picks, I64 p) (J Jx : List Num64 → World → Prop)
    (hY : ∀ pre x W, J pre W → pre.length < (turnsT t picks).length → YieldAt F (n - 1) Try.prog l (encN x) W fun e W' =>
      (e = .returned (.bool true) ∧ J (pre ++ [x]) W' ∧ KpT B Bp Bc W W') ∨ (e = .returned (.bool false) ∧ Jx (pre ++ [x]) W'))
    (W : World) (hp : Bk W Bp #[.slice Ap picks.length cp] 41) (hc : Bk W Bc #[.slice A t.length c] 31) (hrp : Rd .i64 W B Ap picks) (hrt : RdT W B A t) (h0 : J [] W) :
    CallsIn F n Try.prog 137 #[.func (.yield l) #[] #[], .pointer (some ⟨Bp, 0, none⟩), .pointer (some ⟨Bc, 0, none⟩)] W fun e W' => (∃ v, e = .returned v) ∧
      ((∃ ys : List Num64, ys.map (·.1) = turnsT t picks ∧ J ys W') ∨ (∃ pre : List Num64, True ∧ Jx pre W')) := by
  refine callsIn_of_wp Try.func137 rfl h7 ?_ hro
  simp only [Try.ntmps137, List.size_toArray, List.length_cons, List.length_nil, Nat.reduceAdd, Nat.reduceSub, Array.replicate_succ, Array.replicate_zero, List.push_toArray, List.append_toArray, List.nil_append, List.cons_append]
  have c1 : W.cell? ⟨Bp, 0, none⟩ = some (.slice Ap picks.length cp) := by rw [hp.cell 0]; rfl
  obtain ⟨N, hN⟩ : ∃ N, N = (turnsT t picks).length := ⟨_, rfl⟩
  rw [← hN] at hY
  have HNl := hide (show N = picks.length + (repsT t t.length).length by rw [hN]; unfold turnsT; rw [List.length_append])
  have HRM := hide (fun k (h : k < t.length) => repsT_room (t := t) h)
  have HRL := hide (fun k => repsT_len h8 k)
  have HTT : Hid (turnsT t picks = picks ++ repsT t t.length) := hide rfl
  have HY := hide hY
  have HTP : Hid (picks.take picks.length = picks) := hide List.take_length
  clear hN hY
  have hmx : Try.prog.follows .mixedOrders = true := by kernel_rfl
  gi_wp2
  gi_loopw [10] (fun i wr => ∃ (k : Nat) (pre : List Num64), k ≤ picks.length ∧ i = .int .i64 k ∧ J pre wr ∧ Hid (pre.map (·.1) = picks.take k) ∧ KpT B Bp Bc W wr) (fun i _ => picks.length - (intOf i).toNat)
  case atStart => exact ⟨0, [], Nat.zero_le _, rfl, h0, hide rfl, KpT.refl _ _ _ _⟩
  case round =>
    obtain ⟨k, pre, hk, rfl, hJs, HP, hkp⟩ := hrel
    by_cases hlt : k < picks.length
    · obtain ⟨b, off, rfl, hbb, hc0⟩ := (hrp.below hkp.1).get hlt
      have hI := hpI _ (List.getElem_mem hlt)
      have HP2 := hide (show (pre ++ [(⟨picks[k], hI⟩ : Num64)]).map (·.1) = picks.take (k + 1) by rw [List.map_append, HP.out, List.take_succ_eq_append_getElem hlt]; rfl)
      have hpl : pre.length < N := by
        have e := congrArg List.length HP.out
        rw [List.length_map, List.length_take] at e
        rw [HNl.out]
        omega
      obtain ⟨fn, tmps, assign, body, hy, hR⟩ := HY.out pre ⟨picks[k], hI⟩ wr hJs hpl
      simp only [encN] at hy
      gi_wp2
      refine hR.mono ?_
      rintro e W3 (⟨rfl, hJ3, hk3⟩ | ⟨rfl, hJx3⟩)
      · gi_wp2
        go_roundw
        case rel => exact ⟨k + 1, _, by omega, by go_num, hJ3, HP2, kpT_t hkp hk3⟩
        case measure => simp [intOf]; omega
      · gi_wp2
        refine bodyPost_ret (results_none rfl _ _ _) rfl ?_
        exact ⟨⟨_, rfl⟩, .inr ⟨_, trivial, hJx3⟩⟩
    · obtain rfl : k = picks.length := by omega
      rw [HTP.out] at HP
      have hcr := hkp.2.2 _ hc
      have c2 : wr.cell? ⟨Bc, 0, none⟩ = some (.slice A t.length c) := by rw [hcr.cell 0]; rfl
      have hrt1 := hrt.below hkp.1
      gi_wp2
      gi_loopw [21] (fun i wr => ∃ (k : Nat) (pre : List Num64), k ≤ t.length ∧ i = .int .i64 k ∧ J pre wr ∧ Hid (pre.map (·.1) = picks ++ repsT t k) ∧ KpT B Bp Bc W wr) (fun i _ => t.length - (intOf i).toNat)
      case atStart => exact ⟨0, pre, Nat.zero_le _, rfl, hJs, hide (by rw [HP.out]; simp [repsT]), hkp⟩
      case round =>
        clear hJs HP hkp hcr c2 hrt1
        obtain ⟨k, pre, hk, rfl, hJs, HP, hkp⟩ := hrel
        by_cases hlt : k < t.length
        · obtain ⟨b, off, a, d, rfl, hbb, hc0, hle, hcm, hr⟩ := (hrt.below hkp.1).get hlt
          have HLk : Hid (lenT t (k : Int) = t[k].length) := hide (lenT_at t k hlt)
          have hk8 := h8 _ (List.getElem_mem hlt)
          obtain ⟨L, hL⟩ : ∃ L, L = t[k].length := ⟨_, rfl⟩
          rw [← hL] at hc0 HLk hk8
          clear hL hle hr
          gi_wp2
          gi_loopw [28] (fun i wr => ∃ (j : Nat) (pre : List Num64), j ≤ L ∧ i = .int .i64 j ∧ J pre wr ∧ Hid (pre.map (·.1) = picks ++ repsT t k ++ List.replicate j (k : Int)) ∧ KpT B Bp Bc W wr) (fun i _ => L - (intOf i).toNat)
          case atStart => exact ⟨0, pre, Nat.zero_le _, rfl, hJs, hide (by rw [HP.out]; simp), hkp⟩
          case round =>
            clear hJs HP hkp hc0
            obtain ⟨j, pre, hj, rfl, hJs, HP, hkp⟩ := hrel
            by_cases hjl : j < L
            · have hI : I64 (k : Int) := by unfold I64; omega
              have HP2 := hide (show (pre ++ [(⟨(k : Int), hI⟩ : Num64)]).map (·.1) = picks ++ repsT t k ++ List.replicate (j + 1) (k : Int) by rw [List.map_append, HP.out, List.replicate_succ', List.append_assoc (bs := List.replicate j (k : Int))]; rfl)
              have hpl : pre.length < N := by
                have e := congrArg List.length HP.out
                rw [List.length_map, List.length_append, List.length_append, List.length_replicate] at e
                have := HRM.out k hlt
                rw [HLk.out] at this
                rw [HNl.out]
                omega
              obtain ⟨fn, tmps, assign, body, hy, hR⟩ := HY.out pre ⟨(k : Int), hI⟩ wr hJs hpl
              simp only [encN] at hy
              gi_wp2
              refine hR.mono ?_
              rintro e W3 (⟨rfl, hJ3, hk3⟩ | ⟨rfl, hJx3⟩)
              · gi_wp2
                go_roundw
                case rel => exact ⟨j + 1, _, by omega, by go_num, hJ3, HP2, kpT_t hkp hk3⟩
                case measure => simp [intOf]; omega
              · gi_wp2
                refine bodyPost_ret (results_none rfl _ _ _) rfl ?_
                exact ⟨⟨_, rfl⟩, .inr ⟨_, trivial, hJx3⟩⟩
            · obtain rfl : j = L := by omega
              have HP2 := hide (show pre.map (·.1) = picks ++ repsT t (k + 1) by rw [HP.out, repsT, HLk.out, List.append_assoc])
              gi_wp2
              go_roundw
              case rel => exact ⟨k + 1, pre, by omega, by go_num, hJs, HP2, hkp⟩
              case measure => simp [intOf]; omega
        · obtain rfl : k = t.length := by omega
          gi_wp2
          go_end0
          exact ⟨⟨_, rfl⟩, .inl ⟨_, by rw [HP.out, HTT.out], hJs⟩⟩

set_option maxHeartbeats 1000000 in
theorem turns_any (A Ap : Option Addr) (n c np cp : Nat) (w : World) :
    Calls Try.prog 110 #[.slice A n c, .slice Ap np cp] w fun e w' => e = .returned (.func (.func 137) #[] #[.pointer (some ⟨w.heap.size + 1, 0, none⟩), .pointer (some ⟨w.heap.size, 0, none⟩)]) ∧ w' = (w.alloc (.cells #[.slice A n c] 31)).alloc (.cells #[.slice Ap np cp] 41) := by
  go_enter Try.func110, Try.ntmps110
  go_wp2
  go_ret
  exact ⟨rfl, rfl⟩

theorem turns_stops (F : Fence) (n : Nat) (h7 : F.fn 137) (hro : F.round = none) (hn : 1 ≤ n) (Bp Bc B : Nat) (t : List (List Ev)) (A : Option Addr) (c : Nat) (picks : List Int) (Ap : Option Addr) (cp : Nat)
    (ht : t.length ≤ 4) (h8 : ∀ l ∈ t, l.length ≤ 8) (hpk : picks.length ≤ 100) (hpI : ∀ p ∈ picks, I64 p) (w : World) (hB : B ≤ w.heap.size) (hp : Bk w Bp #[.slice Ap picks.length cp] 41) (hc : Bk w Bc #[.slice A t.length c] 31) (hrp : Rd .i64 w B Ap picks) (hrt : RdT w B A t) :
    SeqStopsK F n Try.prog 137 #[.pointer (some ⟨Bp, 0, none⟩), .pointer (some ⟨Bc, 0, none⟩)] encN (KpT B Bp Bc) (fun ys => ys.map (·.1) = turnsT t picks) (fun _ => True) (turnsT t picks).length w := fun l J Jx W hW _ _ hY h0 =>
  turns1_in F n h7 hro hn l Bp Bc B t A c picks Ap cp ht h8 hpk hpI J Jx hY W (hp.kept hW) (hc.kept hW) (hrp.below (hW.mono hB)) (hrt.below (hW.mono hB)) h0
end Go.Proofs.Ytldepledinolmaa
