/- What the laws' walks rest upon, part 25. -/
import Derived.Test.YtnnfkmjhaljplaaGreatDoorM24
import Derived.RangeFuncNested
import Derived.RangeFuncBound
import Derived.RangeFuncCalls
import Derived.RangeFuncLeaves
import Derived.RangeFuncWrites
import Derived.Shelf.Abstract
import Derived.Shelf.RegionOpen
import Derived.WalkKit
import Derived.OwnWalkIn
import Derived.TacticsInMore
import Derived.LoopNIn
import Derived.LoopIn
namespace Go.Proofs.YtnnfkmjhaljplaaGreatDoor
open Go.RowKit Go.Maps
theorem grownM_new {w w2 : World} {row : Option Nat} (h : w.grownBy w2 row) {g : Nat} (hg : w.heap.size ≤ g) (i : Nat) (u : Value) : w.grownBy (w2.setCell ⟨g, i, none⟩ u) row :=
  ⟨h.os, h.tape, h.output, by simpa using h.size, fun k hk hne => (Below.heap_setCell w2 ⟨g, i, none⟩ u k (by simp only; omega)).trans (h.block k hk hne)⟩
/-- What takeNext tells. -/
def TnPost (w : World) (B M n : Nat) (t : List (List Ev)) (O : List Int) (p : Int) (e : Ending) (w' : World) : Prop :=
  (cntO O p < lenT t p ∧ e = .returned (.tuple #[evV (evAtO t p (cntO O p)).k (evAtO t p (cntO O p)).a (evAtO t p (cntO O p)).v, .bool true]) ∧ LeftM w' B M (n + 1) t (O ++ [p]) ∧ w.grownBy w' (some M)) ∨
  (¬ cntO O p < lenT t p ∧ e = .returned (.tuple #[evV 0 0 0, .bool false]) ∧ LeftM w' B M n t O ∧ Below w.heap.size w w')
set_option maxRecDepth 100000 in
set_option maxHeartbeats 1600000 in
theorem take_no (w : World) (B M n : Nat) (t : List (List Ev)) (O : List Int) (p : Int) (hp : I64 p) (hB : B ≤ w.heap.size) (h : LeftM w B M n t O) (hlt : ¬ cntO O p < lenT t p) :
    Calls Tryz.prog 205 #[.map (some M), .int .i64 p] w (TnPost w B M n t O p) := by
  unfold TnPost
  have hkey : keyOf Tryz.prog 2 (.int .i64 p) = some (.int .i64 p) := keyOf_int_mk Tryz.underlying2 (WalkArith.wf_i64 hp)
  have HL := hide h
  obtain ⟨D, hown, hD⟩ := h
  have hhas : Maps.has D (.int .i64 p) = false := by rw [(hD p hp).1]; exact decide_eq_false hlt
  have hat := Maps.atKey_of_not_has hhas zH
  have hown1 := hown.alloc (Obj.cells #[.int .i64 0, .int .i64 0, .int .i64 0] 48)
  have HN := hide hlt
  clear hD hlt hown
  go_enter Tryz.func205, Tryz.ntmps205
  go_wp2_with (first | (at_lookup; refine wpList_lookup_held _ rfl _ _ 273 rfl 2 45 lawK Tryz.underlying273 (zeroEs _) M n D rfl hown1 _ _ rfl hkey (.slice none 0 0) hat false hhas ?_) | go_in)
  refine bodyPost_ret (v := .tuple #[evV 0 0 0, .bool false]) (by simp [results, Tryz.results205, go_sem]) rfl ?_
  exact .inr ⟨HN.out, rfl, HL.out.below ((Below.refl _ _).alloc (Nat.le_refl _) _) hB, (Below.refl _ _).alloc (Nat.le_refl _) _⟩
theorem evAtO_head {t : List (List Ev)} {p : Int} {c : Nat} (h : c < lenT t p) : ∃ (hl : 0 < ((t.getD p.toNat []).drop c).length), ((t.getD p.toNat []).drop c)[0] = evAtO t p c := by
  have h0 := lenT_in (t := t) (p := p) (by omega)
  unfold lenT at h
  rw [if_pos h0.1] at h
  refine ⟨by rw [List.length_drop]; omega, ?_⟩
  rw [List.getElem_drop]
  unfold evAtO
  rw [List.getD_eq_getElem?_getD (l := t.getD p.toNat []), List.getElem?_eq_getElem (by omega)]
  rfl
set_option maxRecDepth 100000 in
set_option maxHeartbeats 1600000 in
theorem take_yes (w : World) (B M n : Nat) (t : List (List Ev)) (O : List Int) (p : Int) (hp : I64 p) (hB : B ≤ w.heap.size) (hBM : B ≤ M) (hn : n ≤ 1000) (h : LeftM w B M n t O) (hlt : cntO O p < lenT t p) :
    Calls Tryz.prog 205 #[.map (some M), .int .i64 p] w (TnPost w B M n t O p) := by
  unfold TnPost
  have hkey : keyOf Tryz.prog 2 (.int .i64 p) = some (.int .i64 p) := keyOf_int_mk Tryz.underlying2 (WalkArith.wf_i64 hp)
  have hMw := h.lt
  obtain ⟨D, hown, hD⟩ := h
  have hhas : Maps.has D (.int .i64 p) = true := by rw [(hD p hp).1]; exact decide_eq_true hlt
  obtain ⟨a, d, hat, hmd, hdm, hr⟩ := (hD p hp).2 hlt
  have HM := hide (fun D' (e : D' = _) => take_math hown.isMap hlt hmd hdm hr e hD)
  obtain ⟨hl0, hev⟩ := evAtO_head hlt
  have HN := hide hlt
  obtain ⟨x, hx⟩ : ∃ x, x = evAtO t p (cntO O p) := ⟨_, rfl⟩
  rw [← hx] at hev
  have HR := hide (fun w' (hb : Below B w w') => by
    obtain ⟨b, off, e, hbb, c0, c1, c2⟩ := (hr.below hb).get (i := 0) hl0
    rw [hev] at c0 c1 c2
    rw [Nat.zero_mul, Nat.add_zero] at c0 c1 c2
    exact (⟨b, off, e, hbb, c0, c1, c2⟩ : ∃ b off, a = some ⟨b, off, none⟩ ∧ b < B ∧ w'.cell? ⟨b, off, none⟩ = some (.int .i64 x.k) ∧ w'.cell? ⟨b, off + 1, none⟩ = some (.int .i64 x.a) ∧ w'.cell? ⟨b, off + 2, none⟩ = some (.int .i64 x.v)))
  obtain ⟨b, off, ha, _⟩ := HR.out w (Below.refl _ _)
  have HX := hide hx
  obtain ⟨m, hm⟩ : ∃ m, m = lenT t p - cntO O p := ⟨_, rfl⟩
  have hm1 : 1 ≤ m := by omega
  have hm2 : m ≤ maxLen := by omega
  rw [← hm] at hat hmd HM
  unfold maxLen at hm2
  have hown1 := hown.alloc (Obj.cells #[.int .i64 0, .int .i64 0, .int .i64 0] 48)
  have gA : w.grownBy (w.alloc (Obj.cells #[.int .i64 0, .int .i64 0, .int .i64 0] 48)) (some M) := World.grownBy_alloc _ _ _
  have kG := Bk.new w #[.int .i64 0, .int .i64 0, .int .i64 0] 48
  have R1 := fun W => run_tailM a m 1 d 1 W rfl hm1
  have R1' := R1
  subst ha
  obtain ⟨a', ha'⟩ : ∃ a', a' = cutM (some ⟨b, off, none⟩) 1 d := ⟨_, rfl⟩
  rw [← ha'] at R1 HM
  have hGM : w.heap.size ≠ M := by omega
  have HD := hide hD
  clear hx hm hD hl0 hev hlt hr hown R1' ha'
  by_cases h1 : m = 1
  · subst h1
    have HM2 := hide (fun D' e => HM.out D' (by rw [if_pos rfl]; exact e))
    go_enter Tryz.func205, Tryz.ntmps205
    go_wp2_with (first
      | (at_lookup; refine wpList_lookup_held _ rfl _ _ 273 rfl 2 45 lawK Tryz.underlying273 (zeroEs _) M n D rfl hown1 _ _ rfl hkey _ hat true hhas ?_)
      | (at_mapUpdate; refine wpList_mapUpdate_own _ rfl _ _ _ 273 rfl 2 45 lawK Tryz.underlying273 rdH M n D rfl hown1 (by unfold maxLen; omega) _ _ _ rfl rfl hkey (.held (.slice a' (1 - 1) (d - 1))) [] rfl ?_; intro w1 hown2 hgrow1)
      | (at_delete; refine wpList_delete_own _ rfl _ _ 273 2 rfl 45 lawK Tryz.underlying273 rdH M (n + 1) _ rfl hown2 _ _ rfl hkey ?_; intro w2 hown3 hturn; have gT := (gA.trans hgrow1).trans hturn.grown; have bT : Below B w w2 := (Below.refl _ _).grown gT hB (fun k e => by cases e; exact hBM); obtain ⟨b', off', hbo, hbb, c0, c1, c2⟩ := HR.out w2 bT; obtain ⟨rfl, rfl⟩ : b' = b ∧ off' = off := (by simp only [Option.some.injEq, Addr.mk.injEq] at hbo; exact ⟨hbo.1.symm, hbo.2.1.symm⟩); have kG2 := (kG.grown hgrow1 (by simp; omega)).grown hturn.grown (by simp; omega); have q0 := kG2.cell 0; have q1 := kG2.cell 1; have q2 := kG2.cell 2; have f0 := kG2.frozen 0; have f1 := kG2.frozen 1; have f2 := kG2.frozen 2; simp at q0 q1 q2; clear hgrow1 hturn)
      | go_in)
    have kG3 := ((kG2.set_ 0 (.int .i64 x.k)).set_ 1 (.int .i64 x.a)).set_ 2 (.int .i64 x.v)
    have p0 := kG3.cell 0
    have p1 := kG3.cell 1
    have p2 := kG3.cell 2
    simp at p0 p1 p2
    refine bodyPost_ret (v := .tuple #[evV x.k x.a x.v, .bool true]) (by simp [results, Tryz.results205, go_sem, p0, p1, p2]) rfl ?_
    have gF := grownM_new (grownM_new (grownM_new gT (Nat.le_refl _) 0 (.int .i64 x.k)) (Nat.le_refl _) 1 (.int .i64 x.a)) (Nat.le_refl _) 2 (.int .i64 x.v)
    have bF := (Below.refl B w).grown gF hB (fun k e => by cases e; exact hBM)
    refine .inl ⟨HN.out, by rw [← HX.out], ⟨_, (((hown3.setCell (a := ⟨w.heap.size, 0, none⟩) hGM.symm _).setCell (a := ⟨w.heap.size, 1, none⟩) hGM.symm _).setCell (a := ⟨w.heap.size, 2, none⟩) hGM.symm _), fun q hq => ⟨(HM2.out _ rfl q hq).1, fun hc => ?_⟩⟩, gF⟩
    obtain ⟨a1, d1, e1, e2, e3, e4⟩ := (HM2.out _ rfl q hq).2 hc
    exact ⟨a1, d1, e1, e2, e3, e4.below bF⟩
  · have HM2 := hide (fun D' e => HM.out D' (by rw [if_neg h1]; exact e))
    have hm1' : ((m : Int) == 1) = false := beq_eq_false_iff_ne.2 (by omega)
    have hm2' : ¬ (m : Int) = 1 := by omega
    have hm3 : (0 : Int) < (m : Int) := by omega
    clear h1
    go_enter Tryz.func205, Tryz.ntmps205
    go_wp2_with (first
      | (at_lookup; refine wpList_lookup_held _ rfl _ _ 273 rfl 2 45 lawK Tryz.underlying273 (zeroEs _) M n D rfl hown1 _ _ rfl hkey _ hat true hhas ?_)
      | (at_mapUpdate; refine wpList_mapUpdate_own _ rfl _ _ _ 273 rfl 2 45 lawK Tryz.underlying273 rdH M n D rfl hown1 (by unfold maxLen; omega) _ _ _ rfl rfl hkey (.held (.slice a' (m - 1) (d - 1))) [] rfl ?_; intro w1 hown2 hgrow1; have gT := (gA.trans hgrow1); have bT : Below B w w1 := (Below.refl _ _).grown gT hB (fun k e => by cases e; exact hBM); obtain ⟨b', off', hbo, hbb, c0, c1, c2⟩ := HR.out w1 bT; obtain ⟨rfl, rfl⟩ : b' = b ∧ off' = off := (by simp only [Option.some.injEq, Addr.mk.injEq] at hbo; exact ⟨hbo.1.symm, hbo.2.1.symm⟩); have kG2 := (kG.grown hgrow1 (by simp; omega)); have q0 := kG2.cell 0; have q1 := kG2.cell 1; have q2 := kG2.cell 2; have f0 := kG2.frozen 0; have f1 := kG2.frozen 1; have f2 := kG2.frozen 2; simp at q0 q1 q2; clear hgrow1)
      | go_in)
    have kG3 := ((kG2.set_ 0 (.int .i64 x.k)).set_ 1 (.int .i64 x.a)).set_ 2 (.int .i64 x.v)
    have p0 := kG3.cell 0
    have p1 := kG3.cell 1
    have p2 := kG3.cell 2
    simp at p0 p1 p2
    refine bodyPost_ret (v := .tuple #[evV x.k x.a x.v, .bool true]) (by simp [results, Tryz.results205, go_sem, p0, p1, p2]) rfl ?_
    have gF := grownM_new (grownM_new (grownM_new gT (Nat.le_refl _) 0 (.int .i64 x.k)) (Nat.le_refl _) 1 (.int .i64 x.a)) (Nat.le_refl _) 2 (.int .i64 x.v)
    have bF := (Below.refl B w).grown gF hB (fun k e => by cases e; exact hBM)
    refine .inl ⟨HN.out, by rw [← HX.out], ⟨_, (((hown2.setCell (a := ⟨w.heap.size, 0, none⟩) hGM.symm _).setCell (a := ⟨w.heap.size, 1, none⟩) hGM.symm _).setCell (a := ⟨w.heap.size, 2, none⟩) hGM.symm _), fun q hq => ⟨(HM2.out _ rfl q hq).1, fun hc => ?_⟩⟩, gF⟩
    obtain ⟨a1, d1, e1, e2, e3, e4⟩ := (HM2.out _ rfl q hq).2 hc
    exact ⟨a1, d1, e1, e2, e3, e4.below bF⟩
theorem takeN_any (w : World) (B M n : Nat) (t : List (List Ev)) (O : List Int) (p : Int) (hp : I64 p) (hB : B ≤ w.heap.size) (hBM : B ≤ M) (hn : n ≤ 1000) (h : LeftM w B M n t O) :
    Calls Tryz.prog 205 #[.map (some M), .int .i64 p] w (TnPost w B M n t O p) := by
  by_cases hlt : cntO O p < lenT t p
  · exact take_yes w B M n t O p hp hB hBM hn h hlt
  · exact take_no w B M n t O p hp hB h hlt
end Go.Proofs.YtnnfkmjhaljplaaGreatDoor
namespace Go.Proofs.YtnnfkmjhaljplaaGreatDoor
open Go.RowKit Go.Shelf
attribute [local go_sem] Oper.semAt_some
abbrev Num64 := { p : Int // I64 p }
/-- What yield is handed. -/
def encN (x : Num64) : Array Value := #[.int .i64 x.1]
/-- What the loop's body must keep. -/
def KpT (B Bp Bc : Nat) (W W' : World) : Prop := Below B W W' ∧ (∀ v, Bk W Bp #[v] 25 → Bk W' Bp #[v] 25) ∧ ∀ v, Bk W Bc #[v] 34 → Bk W' Bc #[v] 34
theorem KpT.refl (B Bp Bc : Nat) (W : World) : KpT B Bp Bc W W := ⟨Below.refl _ _, fun _ h => h, fun _ h => h⟩
theorem kpT_t {B Bp Bc : Nat} {X Y Z : World} (h : KpT B Bp Bc X Y) (k : KpT B Bp Bc Y Z) : KpT B Bp Bc X Z := ⟨h.1.trans k.1, fun v hv => k.2.1 v (h.2.1 v hv), fun v hv => k.2.2 v (h.2.2 v hv)⟩
theorem kpT_b {B Bp Bc : Nat} {w : World} (hB : B ≤ w.heap.size) (W : World) (l : Nat) (o o' : Obj) (hl : w.heap.size ≤ l) (h : W.heap[l]? = some o) (hc : o.isCells = false) (_ : o.isWalk = false) : KpT B Bp Bc W (W.putObj l o') := by
  have hk : ∀ g cs t, Bk W g cs t → Bk (W.putObj l o') g cs t := fun g cs t hb => by
    refine (World.putObj_heap_other (fun e => ?_)).trans hb
    subst e
    rw [show W.heap[g]? = _ from hb] at h; cases h; cases hc
  exact ⟨(Below.refl B W).grown (grownBy_putObj' W l o') (by have := (Array.getElem?_eq_some_iff.1 h).1; omega) (fun k e => by cases e; omega), fun v => hk _ _ _, fun v => hk _ _ _⟩
theorem repsT_room {t : List (List Ev)} : ∀ {n k : Nat}, k < n → (repsT t k).length + lenT t (k : Int) ≤ (repsT t n).length
  | 0, k, h => absurd h (Nat.not_lt_zero _)
  | n + 1, k, h => by
    rw [repsT, List.length_append, List.length_replicate]
    by_cases hk : k = n
    · subst hk; exact Nat.le_refl _
    · have := repsT_room (t := t) (n := n) (k := k) (by omega)
      omega
set_option maxRecDepth 100000 in
set_option maxHeartbeats 2000000 in
theorem turns1_in (F : Fence) (n : Nat) (h7 : F.fn 244) (hro : F.round = none) (hn : 1 ≤ n) (l Bp Bc B : Nat) (t : List (List Ev)) (A : Option Addr) (c : Nat) (picks : List Int) (Ap : Option Addr) (cp : Nat)
    (ht : t.length ≤ 4) (h8 : ∀ l ∈ t, l.length ≤ 8) (hpk : picks.length ≤ 100) (hpI : ∀ p ∈ picks, I64 p) (J Jx : List Num64 → World → Prop)
    (hY : ∀ pre x W, J pre W → pre.length < (turnsT t picks).length → YieldAt F (n - 1) Tryz.prog l (encN x) W fun e W' =>
      (e = .returned (.bool true) ∧ J (pre ++ [x]) W' ∧ KpT B Bp Bc W W') ∨ (e = .returned (.bool false) ∧ Jx (pre ++ [x]) W'))
    (W : World) (hp : Bk W Bp #[.slice Ap picks.length cp] 25) (hc : Bk W Bc #[.slice A t.length c] 34) (hrp : Rd .i64 W B Ap picks) (hrt : RdT W B A t) (h0 : J [] W) :
    CallsIn F n Tryz.prog 244 #[.func (.yield l) #[] #[], .pointer (some ⟨Bp, 0, none⟩), .pointer (some ⟨Bc, 0, none⟩)] W fun e W' => (∃ v, e = .returned v) ∧
      ((∃ ys : List Num64, ys.map (·.1) = turnsT t picks ∧ J ys W') ∨ (∃ pre : List Num64, True ∧ Jx pre W')) := by
  refine callsIn_of_wp Tryz.func244 rfl h7 ?_ hro
  simp only [Tryz.ntmps244, List.size_toArray, List.length_cons, List.length_nil, Nat.reduceAdd, Nat.reduceSub, Array.replicate_succ, Array.replicate_zero, List.push_toArray, List.append_toArray, List.nil_append, List.cons_append]
  have c1 : W.cell? ⟨Bp, 0, none⟩ = some (.slice Ap picks.length cp) := by rw [hp.cell 0]; rfl
  obtain ⟨N, hN⟩ : ∃ N, N = (turnsT t picks).length := ⟨_, rfl⟩
  rw [← hN] at hY
  have HNl := hide (show N = picks.length + (repsT t t.length).length by rw [hN]; unfold turnsT; rw [List.length_append])
  have HRM := hide (fun k (h : k < t.length) => repsT_room (t := t) h)
  have HRL := hide (fun k => repsT_len h8 k)
  have HTT : Hid (turnsT t picks = picks ++ repsT t t.length) := hide rfl
  have HY := hide hY
  have HTP : Hid (picks.take picks.length = picks) := hide List.take_length
  clear hN hY
  have hmx : Tryz.prog.follows .mixedOrders = true := by kernel_rfl
  gi_wp2
  gi_loopw [10] (fun i wr => ∃ (k : Nat) (pre : List Num64), k ≤ picks.length ∧ i = .int .i64 k ∧ J pre wr ∧ Hid (pre.map (·.1) = picks.take k) ∧ KpT B Bp Bc W wr) (fun i _ => picks.length - (intOf i).toNat)
  case atStart => exact ⟨0, [], Nat.zero_le _, rfl, h0, hide rfl, KpT.refl _ _ _ _⟩
  case round =>
    obtain ⟨k, pre, hk, rfl, hJs, HP, hkp⟩ := hrel
    by_cases hlt : k < picks.length
    · obtain ⟨b, off, rfl, hbb, hc0⟩ := (hrp.below hkp.1).get hlt
      have hI := hpI _ (List.getElem_mem hlt)
      have HP2 := hide (show (pre ++ [(⟨picks[k], hI⟩ : Num64)]).map (·.1) = picks.take (k + 1) by rw [List.map_append, HP.out, List.take_succ_eq_append_getElem hlt]; rfl)
      have hpl : pre.length < N := by
        have e := congrArg List.length HP.out
        rw [List.length_map, List.length_take] at e
        rw [HNl.out]
        omega
      obtain ⟨fn, tmps, assign, body, hy, hR⟩ := HY.out pre ⟨picks[k], hI⟩ wr hJs hpl
      simp only [encN] at hy
      gi_wp2
      refine hR.mono ?_
      rintro e W3 (⟨rfl, hJ3, hk3⟩ | ⟨rfl, hJx3⟩)
      · gi_wp2
        go_roundw
        case rel => exact ⟨k + 1, _, by omega, by go_num, hJ3, HP2, kpT_t hkp hk3⟩
        case measure => simp [intOf]; omega
      · gi_wp2
        refine bodyPost_ret (results_none rfl _ _ _) rfl ?_
        exact ⟨⟨_, rfl⟩, .inr ⟨_, trivial, hJx3⟩⟩
    · obtain rfl : k = picks.length := by omega
      rw [HTP.out] at HP
      have hcr := hkp.2.2 _ hc
      have c2 : wr.cell? ⟨Bc, 0, none⟩ = some (.slice A t.length c) := by rw [hcr.cell 0]; rfl
      have hrt1 := hrt.below hkp.1
      gi_wp2
      gi_loopw [21] (fun i wr => ∃ (k : Nat) (pre : List Num64), k ≤ t.length ∧ i = .int .i64 k ∧ J pre wr ∧ Hid (pre.map (·.1) = picks ++ repsT t k) ∧ KpT B Bp Bc W wr) (fun i _ => t.length - (intOf i).toNat)
      case atStart => exact ⟨0, pre, Nat.zero_le _, rfl, hJs, hide (by rw [HP.out]; simp [repsT]), hkp⟩
      case round =>
        clear hJs HP hkp hcr c2 hrt1
        obtain ⟨k, pre, hk, rfl, hJs, HP, hkp⟩ := hrel
        by_cases hlt : k < t.length
        · obtain ⟨b, off, a, d, rfl, hbb, hc0, hle, hcm, hr⟩ := (hrt.below hkp.1).get hlt
          have HLk : Hid (lenT t (k : Int) = t[k].length) := hide (lenT_at t k hlt)
          have hk8 := h8 _ (List.getElem_mem hlt)
          obtain ⟨L, hL⟩ : ∃ L, L = t[k].length := ⟨_, rfl⟩
          rw [← hL] at hc0 HLk hk8
          clear hL hle hr
          gi_wp2
          gi_loopw [28] (fun i wr => ∃ (j : Nat) (pre : List Num64), j ≤ L ∧ i = .int .i64 j ∧ J pre wr ∧ Hid (pre.map (·.1) = picks ++ repsT t k ++ List.replicate j (k : Int)) ∧ KpT B Bp Bc W wr) (fun i _ => L - (intOf i).toNat)
          case atStart => exact ⟨0, pre, Nat.zero_le _, rfl, hJs, hide (by rw [HP.out]; simp), hkp⟩
          case round =>
            clear hJs HP hkp hc0
            obtain ⟨j, pre, hj, rfl, hJs, HP, hkp⟩ := hrel
            by_cases hjl : j < L
            · have hI : I64 (k : Int) := by unfold I64; omega
              have HP2 := hide (show (pre ++ [(⟨(k : Int), hI⟩ : Num64)]).map (·.1) = picks ++ repsT t k ++ List.replicate (j + 1) (k : Int) by rw [List.map_append, HP.out, List.replicate_succ', List.append_assoc (bs := List.replicate j (k : Int))]; rfl)
              have hpl : pre.length < N := by
                have e := congrArg List.length HP.out
                rw [List.length_map, List.length_append, List.length_append, List.length_replicate] at e
                have := HRM.out k hlt
                rw [HLk.out] at this
                rw [HNl.out]
                omega
              obtain ⟨fn, tmps, assign, body, hy, hR⟩ := HY.out pre ⟨(k : Int), hI⟩ wr hJs hpl
              simp only [encN] at hy
              gi_wp2
              refine hR.mono ?_
              rintro e W3 (⟨rfl, hJ3, hk3⟩ | ⟨rfl, hJx3⟩)
              · gi_wp2
                go_roundw
                case rel => exact ⟨j + 1, _, by omega, by go_num, hJ3, HP2, kpT_t hkp hk3⟩
                case measure => simp [intOf]; omega
              · gi_wp2
                refine bodyPost_ret (results_none rfl _ _ _) rfl ?_
                exact ⟨⟨_, rfl⟩, .inr ⟨_, trivial, hJx3⟩⟩
            · obtain rfl : j = L := by omega
              have HP2 := hide (show pre.map (·.1) = picks ++ repsT t (k + 1) by rw [HP.out, repsT, HLk.out, List.append_assoc])
              gi_wp2
              go_roundw
              case rel => exact ⟨k + 1, pre, by omega, by go_num, hJs, HP2, hkp⟩
              case measure => simp [intOf]; omega
        · obtain rfl : k = t.length := by omega
          gi_wp2
          go_end0
          exact ⟨⟨_, rfl⟩, .inl ⟨_, by rw [HP.out, HTT.out], hJs⟩⟩
set_option maxHeartbeats 1000000 in
theorem turns_any (A Ap : Option Addr) (n c np cp : Nat) (w : World) :
    Calls Tryz.prog 204 #[.slice A n c, .slice Ap np cp] w fun e w' => e = .returned (.func (.func 244) #[] #[.pointer (some ⟨w.heap.size + 1, 0, none⟩), .pointer (some ⟨w.heap.size, 0, none⟩)]) ∧ w' = (w.alloc (.cells #[.slice A n c] 34)).alloc (.cells #[.slice Ap np cp] 25) := by
  go_enter Tryz.func204, Tryz.ntmps204
  go_wp2
  go_ret
  exact ⟨rfl, rfl⟩
theorem turns_stops (F : Fence) (n : Nat) (h7 : F.fn 244) (hro : F.round = none) (hn : 1 ≤ n) (Bp Bc B : Nat) (t : List (List Ev)) (A : Option Addr) (c : Nat) (picks : List Int) (Ap : Option Addr) (cp : Nat)
    (ht : t.length ≤ 4) (h8 : ∀ l ∈ t, l.length ≤ 8) (hpk : picks.length ≤ 100) (hpI : ∀ p ∈ picks, I64 p) (w : World) (hB : B ≤ w.heap.size) (hp : Bk w Bp #[.slice Ap picks.length cp] 25) (hc : Bk w Bc #[.slice A t.length c] 34) (hrp : Rd .i64 w B Ap picks) (hrt : RdT w B A t) :
    SeqStopsK F n Tryz.prog 244 #[.pointer (some ⟨Bp, 0, none⟩), .pointer (some ⟨Bc, 0, none⟩)] encN (KpT B Bp Bc) (fun ys => ys.map (·.1) = turnsT t picks) (fun _ => True) (turnsT t picks).length w := fun l J Jx W hW _ _ hY h0 =>
  turns1_in F n h7 hro hn l Bp Bc B t A c picks Ap cp ht h8 hpk hpI J Jx hY W (hp.kept hW) (hc.kept hW) (hrp.below (hW.mono hB)) (hrt.below (hW.mono hB)) h0
end Go.Proofs.YtnnfkmjhaljplaaGreatDoor
