/- What the laws' walks rest upon, part 2. -/
import Derived.Test.YtnnfkmjhaljplaaGreatChecked
import Derived.Test.YtnnfkmjhaljplaaGreatM01
import Derived.ProofKit
import Derived.OpenShut
import Derived.Handy
import Derived.Outline
import Derived.BigQuiet
import Derived.Deep.QuietTactic
import Derived.WalkLawsBesides
import Derived.Lib.Hide
import Derived.WalkSmall
import Derived.OwnWalk
import Derived.StillTailTactics
import Derived.Maps.AppendAt
import Derived.Maps.Range
import Derived.RegionTactic
import Derived.Lib.Bytes
import Derived.Deep.RegionWith
import Derived.IntWalk
import Derived.OneCell
import Derived.Deep.RegionHeld3
import Derived.Deep.DeepCutAuto
import Derived.Laws.BitsAllLaws
namespace Go.Proofs.YtnnfkmjhaljplaaGreat
open Go.RowKit
/-- One number within its bounds, as the program asks it. -/
theorem allWithin_one (b : Nat) (c : Nat) (lo hi n : Int) (w : World) (hc : w.cell? ⟨b, 0, none⟩ = some (.int .i64 n)) (hin : lo ≤ n ∧ n ≤ hi) :
    Calls Tryz.prog 38 #[.int .i64 lo, .int .i64 hi, .slice (some ⟨b, 0, none⟩) 1 c] w fun e w' => e = .returned (.bool true) ∧ w = w' := by
  obtain ⟨h1, h2⟩ := hin
  go_enter Tryz.func38, Tryz.ntmps38
  go_wp2
  go_loop [11] (fun i => ∃ j : Nat, j ≤ 1 ∧ i = .int .i64 j) (fun i => 1 - (intOf i).toNat)
  case atStart => exact ⟨0, by omega, rfl⟩
  case round =>
    obtain ⟨j, hj, rfl⟩ := hrel
    by_cases h0 : j = 0
    · subst h0
      go_wp2
      go_round
      case rel => exact ⟨1, by omega, rfl⟩
      case measure => simp [intOf]
    · obtain rfl : j = 1 := by omega
      go_wp2
      go_ret
      exact ⟨rfl, rfl⟩
theorem allWithin_not (b : Nat) (c : Nat) (lo hi n : Int) (w : World) (hc : w.cell? ⟨b, 0, none⟩ = some (.int .i64 n)) (hin : n < lo ∨ hi < n) :
    Calls Tryz.prog 38 #[.int .i64 lo, .int .i64 hi, .slice (some ⟨b, 0, none⟩) 1 c] w fun e w' => e = .returned (.bool false) ∧ w = w' := by
  rcases hin with hin | hin
  · go_enter Tryz.func38, Tryz.ntmps38
    go_wp2
    refine wp_loop_rounds 1 ?_
    rw [rounds_succ]
    go_wp2
    go_ret
    exact ⟨rfl, rfl⟩
  · by_cases h : n < lo
    · go_enter Tryz.func38, Tryz.ntmps38
      go_wp2
      refine wp_loop_rounds 1 ?_
      rw [rounds_succ]
      go_wp2
      go_ret
      exact ⟨rfl, rfl⟩
    · go_enter Tryz.func38, Tryz.ntmps38
      go_wp2
      refine wp_loop_rounds 1 ?_
      rw [rounds_succ]
      go_wp2
      go_ret
      exact ⟨rfl, rfl⟩
end Go.Proofs.YtnnfkmjhaljplaaGreat
namespace Go.Proofs.YtnnfkmjhaljplaaGreat
open Go.RowKit
/-- An event as a value. -/
abbrev evV (k a v : Int) : Value := .agg #[.int .i64 k, .int .i64 a, .int .i64 v]
theorem implEvF_any (k a v : Int) (w : World) :
    Calls Tryz.prog 50 #[evV k a v] w fun e w' => e = .returned (.int .i64 (evF ⟨k, a, v⟩)) ∧ Below w.heap.size w w' := by
  by_cases hk : k = 0 ∨ k = 1
  · by_cases ha : 0 ≤ a ∧ a ≤ 999999
    · by_cases hv : 0 ≤ v ∧ v ≤ 999999
      · rw [evF_ok (e := ⟨k, a, v⟩) hk (by simp only; omega)]
        rcases hk with rfl | rfl
        all_goals
          go_enter Tryz.func50, Tryz.ntmps50
          go_wp2_with fail
          refine (allWithin_one _ _ _ _ _ _ (by simp [go_sem]) ha).mono ?_
          rintro e w' ⟨rfl, rfl⟩
          go_wp2_with fail
          refine (allWithin_one _ _ _ _ _ _ (by simp [go_sem]) hv).mono ?_
          rintro e w' ⟨rfl, rfl⟩
          go_wp2
          go_ret
          exact ⟨rfl, by go_grown⟩
      · rw [evF_range (e := ⟨k, a, v⟩) hk (by simp only; omega)]
        have hv' : v < 0 ∨ 999999 < v := by omega
        clear hv
        rcases hk with rfl | rfl
        all_goals
          go_enter Tryz.func50, Tryz.ntmps50
          go_wp2_with fail
          refine (allWithin_one _ _ _ _ _ _ (by simp [go_sem]) ha).mono ?_
          rintro e w' ⟨rfl, rfl⟩
          go_wp2_with fail
          refine (allWithin_not _ _ _ _ _ _ (by simp [go_sem]) hv').mono ?_
          rintro e w' ⟨rfl, rfl⟩
          go_wp2
          go_ret
          exact ⟨rfl, by go_grown⟩
    · rw [evF_range (e := ⟨k, a, v⟩) hk (by simp only; omega)]
      have ha' : a < 0 ∨ 999999 < a := by omega
      clear ha
      rcases hk with rfl | rfl
      all_goals
        go_enter Tryz.func50, Tryz.ntmps50
        go_wp2_with fail
        refine (allWithin_not _ _ _ _ _ _ (by simp [go_sem]) ha').mono ?_
        rintro e w' ⟨rfl, rfl⟩
        go_wp2
        go_ret
        exact ⟨rfl, by go_grown⟩
  · rw [evF_form (e := ⟨k, a, v⟩) hk]
    have k0 : (k == 0) = false := beq_eq_false_iff_ne.2 (by omega)
    have k1 : (k == 1) = false := beq_eq_false_iff_ne.2 (by omega)
    have k2 : (k != 0) = true := bne_iff_ne.2 (by omega)
    have k3 : (k != 1) = true := bne_iff_ne.2 (by omega)
    clear hk
    go_enter Tryz.func50, Tryz.ntmps50
    go_wp2
    go_ret
    exact ⟨rfl, by go_grown⟩
theorem l1In_yes (n lo hi : Int) (w : World) (h : lo ≤ n ∧ n ≤ hi) :
    Calls Tryz.prog 62 #[.int .i64 n, .int .i64 lo, .int .i64 hi] w fun e w' => e = .returned (.bool true) ∧ w = w' := by
  obtain ⟨h1, h2⟩ := h
  go_enter Tryz.func62, Tryz.ntmps62
  go_wp2
  go_ret
  exact ⟨ret_bool (by simp), rfl⟩
theorem l1In_no (n lo hi : Int) (w : World) (h : n < lo ∨ hi < n) :
    Calls Tryz.prog 62 #[.int .i64 n, .int .i64 lo, .int .i64 hi] w fun e w' => e = .returned (.bool false) ∧ w = w' := by
  by_cases h1 : lo ≤ n
  · have h2 : hi < n := by omega
    clear h
    go_enter Tryz.func62, Tryz.ntmps62
    go_wp2
    go_ret
    exact ⟨ret_bool (by simp; omega), rfl⟩
  · clear h
    go_enter Tryz.func62, Tryz.ntmps62
    go_wp2
    go_ret
    exact ⟨rfl, rfl⟩
theorem specEvF_any (k a v : Int) (w : World) :
    Calls Tryz.prog 63 #[evV k a v] w fun e w' => e = .returned (.int .i64 (evF ⟨k, a, v⟩)) ∧ Below w.heap.size w w' := by
  by_cases hk : k = 0 ∨ k = 1
  · by_cases ha : 0 ≤ a ∧ a ≤ 999999
    · by_cases hv : 0 ≤ v ∧ v ≤ 999999
      · rw [evF_ok (e := ⟨k, a, v⟩) hk (by simp only; omega)]
        rcases hk with rfl | rfl
        all_goals
          go_enter Tryz.func63, Tryz.ntmps63
          go_wp2_with fail
          refine (l1In_yes _ _ _ _ ha).mono ?_
          rintro e w' ⟨rfl, rfl⟩
          go_wp2_with fail
          refine (l1In_yes _ _ _ _ hv).mono ?_
          rintro e w' ⟨rfl, rfl⟩
          go_wp2
          go_ret
          exact ⟨rfl, by go_grown⟩
      · rw [evF_range (e := ⟨k, a, v⟩) hk (by simp only; omega)]
        have hv' : v < 0 ∨ 999999 < v := by omega
        clear hv
        rcases hk with rfl | rfl
        all_goals
          go_enter Tryz.func63, Tryz.ntmps63
          go_wp2_with fail
          refine (l1In_yes _ _ _ _ ha).mono ?_
          rintro e w' ⟨rfl, rfl⟩
          go_wp2_with fail
          refine (l1In_no _ _ _ _ hv').mono ?_
          rintro e w' ⟨rfl, rfl⟩
          go_wp2
          go_ret
          exact ⟨rfl, by go_grown⟩
    · rw [evF_range (e := ⟨k, a, v⟩) hk (by simp only; omega)]
      have ha' : a < 0 ∨ 999999 < a := by omega
      clear ha
      rcases hk with rfl | rfl
      all_goals
        go_enter Tryz.func63, Tryz.ntmps63
        go_wp2_with fail
        refine (l1In_no _ _ _ _ ha').mono ?_
        rintro e w' ⟨rfl, rfl⟩
        go_wp2
        go_ret
        exact ⟨rfl, by go_grown⟩
  · rw [evF_form (e := ⟨k, a, v⟩) hk]
    have k0 : (k == 0) = false := beq_eq_false_iff_ne.2 (by omega)
    have k1 : (k == 1) = false := beq_eq_false_iff_ne.2 (by omega)
    have k2 : (k != 0) = true := bne_iff_ne.2 (by omega)
    have k3 : (k != 1) = true := bne_iff_ne.2 (by omega)
    clear hk
    go_enter Tryz.func63, Tryz.ntmps63
    go_wp2
    go_ret
    exact ⟨rfl, by go_grown⟩
end Go.Proofs.YtnnfkmjhaljplaaGreat
namespace Go.Proofs.YtnnfkmjhaljplaaGreat
open Go.RowKit
end Go.Proofs.YtnnfkmjhaljplaaGreat
namespace Go.Proofs.YtnnfkmjhaljplaaGreat
open Go.RowKit
theorem info_event : (Tryz.prog.info? 64).map (fun i => (i.zero, i.size, i.bytes)) = some (some (.agg #[.int .i64 0, .int .i64 0, .int .i64 0]), 3, 24) := by kernel_rfl
def zeroE : Ev := ⟨0, 0, 0⟩
theorem evs_zero : ∀ n : Nat, evs (List.replicate n zeroE) = List.replicate (n * 3) (.int .i64 0)
  | 0 => rfl
  | n + 1 => by
    rw [List.replicate_succ, evs, evs_zero n, show (n + 1) * 3 = n * 3 + 1 + 1 + 1 by omega, List.replicate_succ, List.replicate_succ, List.replicate_succ]
    rfl
theorem made_event (n : Nat) : (madeCells (Value.agg #[.int .i64 0, .int .i64 0, .int .i64 0]).cells (n * 3)).toList = List.replicate (n * 3) (Value.int .i64 0) := by
  apply List.ext_getElem
  · simp [madeCells]
  · intro i h1 h2
    simp only [madeCells, Value.cells, Array.getElem_toList, List.getElem_replicate]
    rcases (show i % 3 = 0 ∨ i % 3 = 1 ∨ i % 3 = 2 by omega) with h | h | h <;> simp [h]
end Go.Proofs.YtnnfkmjhaljplaaGreat
namespace Go.Proofs.YtnnfkmjhaljplaaGreat
open Go.RowKit
set_option maxRecDepth 100000 in
set_option maxHeartbeats 400000 in
theorem implStF_any (es : List Ev) (A : Option Addr) (c : Nat) (w : World) (hm : es.length ≤ maxLen) (h : RdE w w.heap.size A es) :
    Calls Tryz.prog 78 #[.slice A es.length c] w fun e w' => e = .returned (.int .i64 (stF es)) ∧ Below w.heap.size w w' := by
  unfold maxLen at hm
  by_cases h8 : es.length ≤ 8
  · have HF := hide (stF_few h8)
    go_enter Tryz.func78, Tryz.ntmps78
    go_wp2
    go_loopw [11] (fun i wr => ∃ k : Nat, k ≤ es.length ∧ i = .int .i64 k ∧ Below w.heap.size w wr ∧ Hid (evsF es = evsF (es.drop k))) (fun i _ => es.length - (intOf i).toNat)
    case atStart => exact ⟨0, Nat.zero_le _, rfl, Below.refl _ _, hide rfl⟩
    case round =>
      obtain ⟨k, hk, rfl, hb, HR⟩ := hrel
      by_cases hlt : k < es.length
      · obtain ⟨b, off, rfl, hbb, hc0, hc1, hc2⟩ := (h.below hb).get hlt
        by_cases h0 : evF es[k] = 0
        · have IM := hide (fun W => (show Calls Tryz.prog 50 #[evV es[k].k es[k].a es[k].v] W _ from implEvF_any es[k].k es[k].a es[k].v W))
          have HN := hide (evsF_next hlt h0)
          rw [show evF ⟨es[k].k, es[k].a, es[k].v⟩ = 0 from h0] at IM
          clear h0
          go_wp2_with fail
          refine (IM.out _).mono ?_
          rintro e w2 ⟨rfl, hb2⟩
          have hb3 := hb.trans ((below_alloc hb2).mono hb.size)
          go_wp2
          go_roundw
          case rel => exact ⟨k + 1, by omega, by go_num, hb3, hide (HR.out.trans HN.out)⟩
          case measure => simp [intOf]; omega
        · have IM := hide (fun W => (show Calls Tryz.prog 50 #[evV es[k].k es[k].a es[k].v] W _ from implEvF_any es[k].k es[k].a es[k].v W))
          have HN := hide (evsF_stop hlt h0)
          obtain ⟨F, hF⟩ : ∃ F, F = evF es[k] := ⟨_, rfl⟩
          rw [← hF] at h0 HN
          rw [show evF ⟨es[k].k, es[k].a, es[k].v⟩ = F from hF.symm] at IM
          have f0 : (F != 0) = true := bne_iff_ne.2 h0
          have f1 : (F == 0) = false := beq_eq_false_iff_ne.2 h0
          clear h0 hF
          go_wp2_with fail
          refine (IM.out _).mono ?_
          rintro e w2 ⟨rfl, hb2⟩
          have hb3 := hb.trans ((below_alloc hb2).mono hb.size)
          go_wp2
          go_ret
          exact ⟨ret_int (by rw [HF.out, HR.out, HN.out]), hb3⟩
      · have HN := hide (evsF_end hlt)
        go_wp2
        go_ret
        exact ⟨ret_int (by rw [HF.out, HR.out, HN.out]), hb⟩
  · rw [stF_many h8]
    go_enter Tryz.func78, Tryz.ntmps78
    go_wp2
    go_ret
    exact ⟨rfl, Below.refl _ _⟩
set_option maxRecDepth 100000 in
set_option maxHeartbeats 400000 in
theorem specStF_any (es : List Ev) (A : Option Addr) (c : Nat) (w : World) (hm : es.length ≤ maxLen) (h : RdE w w.heap.size A es) :
    Calls Tryz.prog 90 #[.slice A es.length c] w fun e w' => e = .returned (.int .i64 (stF es)) ∧ Below w.heap.size w w' := by
  unfold maxLen at hm
  by_cases h8 : es.length ≤ 8
  · have HF := hide (stF_few h8)
    go_enter Tryz.func90, Tryz.ntmps90
    go_wp2
    go_loopw [10] (fun i wr => ∃ k : Nat, k ≤ es.length ∧ i = .int .i64 k ∧ Below w.heap.size w wr ∧ Hid (evsF es = evsF (es.drop k))) (fun i _ => es.length - (intOf i).toNat)
    case atStart => exact ⟨0, Nat.zero_le _, rfl, Below.refl _ _, hide rfl⟩
    case round =>
      obtain ⟨k, hk, rfl, hb, HR⟩ := hrel
      by_cases hlt : k < es.length
      · obtain ⟨b, off, rfl, hbb, hc0, hc1, hc2⟩ := (h.below hb).get hlt
        by_cases h0 : evF es[k] = 0
        · have IM := hide (fun W => (show Calls Tryz.prog 63 #[evV es[k].k es[k].a es[k].v] W _ from specEvF_any es[k].k es[k].a es[k].v W))
          have HN := hide (evsF_next hlt h0)
          rw [show evF ⟨es[k].k, es[k].a, es[k].v⟩ = 0 from h0] at IM
          clear h0
          go_wp2_with fail
          refine (IM.out _).mono ?_
          rintro e w2 ⟨rfl, hb2⟩
          have hb3 := hb.trans (hb2.mono hb.size)
          go_wp2
          go_roundw
          case rel => exact ⟨k + 1, by omega, by go_num, hb3, hide (HR.out.trans HN.out)⟩
          case measure => simp [intOf]; omega
        · have IM := hide (fun W => (show Calls Tryz.prog 63 #[evV es[k].k es[k].a es[k].v] W _ from specEvF_any es[k].k es[k].a es[k].v W))
          have HN := hide (evsF_stop hlt h0)
          obtain ⟨F, hF⟩ : ∃ F, F = evF es[k] := ⟨_, rfl⟩
          rw [← hF] at h0 HN
          rw [show evF ⟨es[k].k, es[k].a, es[k].v⟩ = F from hF.symm] at IM
          have f0 : (F != 0) = true := bne_iff_ne.2 h0
          have f1 : (F == 0) = false := beq_eq_false_iff_ne.2 h0
          clear h0 hF
          go_wp2_with fail
          refine (IM.out _).mono ?_
          rintro e w2 ⟨rfl, hb2⟩
          have hb3 := hb.trans (hb2.mono hb.size)
          go_wp2
          go_ret
          exact ⟨ret_int (by rw [HF.out, HR.out, HN.out]), hb3⟩
      · have HN := hide (evsF_end hlt)
        go_wp2
        go_ret
        exact ⟨ret_int (by rw [HF.out, HR.out, HN.out]), hb⟩
  · rw [stF_many h8]
    go_enter Tryz.func90, Tryz.ntmps90
    go_wp2
    go_ret
    exact ⟨rfl, Below.refl _ _⟩
end Go.Proofs.YtnnfkmjhaljplaaGreat
namespace Go.Proofs.YtnnfkmjhaljplaaGreat
open Go.RowKit
theorem ints_one (k : IntKind) (l : List Int) : ∀ u ∈ l.map (Value.int k), u.oneCell' = true := by
  intro u hu
  obtain ⟨x, _, rfl⟩ := List.mem_map.1 hu
  rfl
theorem cells_of_rd {k : IntKind} {w : World} {B : Nat} {ad : Addr} {l : List Int} (h : Rd k w B (some ad) l) : ∀ j u, (l.map (Value.int k))[j]? = some u → w.cell? (ad.add j) = some u := by
  intro j u hj
  have hjl : j < l.length := by
    rcases Nat.lt_or_ge j l.length with a | a
    · exact a
    · rw [List.getElem?_eq_none (by simpa using a)] at hj
      exact absurd hj (by simp)
  obtain ⟨b, off, e, _, hc⟩ := h.get hjl
  cases e
  rw [Go.WideShapes.add_plain, hc]
  simp only [List.getElem?_map, List.getElem?_eq_getElem hjl, Option.map_some, Option.some.injEq] at hj
  rw [hj]
section
variable {P : Program} (w : World)
theorem run_append_rd (base : Nat) (t ty e : TypeId) (i : TypeInfo) (z : Value) (bytes : Nat) (ht : P.underlying t = some (.slice e)) (hi : P.info? e = some i) (hz : i.zero = some z)
    (hsize : i.size = 1) (hby : i.bytes = bytes) (hzs : z.cells.size = 1) (k : IntKind)
    (v : Value) (n : Nat) (xs : List Value) (hown : w.ownsRow base e 1 v n xs) (A : Option Addr) (l : List Int) (c B : Nat) (hR : Rd k w B A l)
    (h63 : n + l.length ≤ maxLen) (hbytes : (n + l.length) * bytes ≤ 140737488355328) (hbase : base ≤ w.heap.size) :
    ∃ v' w', (Builtin.append_ #[t, t] ty #[v, .slice A l.length c]).run P w = .ok v' w' ∧ w'.ownsRow base e 1 v' (n + l.length) (xs ++ l.map (Value.int k)) ∧ w.grownBy w' v.ownBlock ∧ (v'.ownBlock = v.ownBlock ∨ v'.ownBlock = some w.heap.size) := by
  rcases A with _ | ad
  · have hl : l = [] := by
      rcases l with _ | ⟨x, l⟩
      · rfl
      · obtain ⟨b, off, e, _⟩ := hR.all (by simp)
        cases e
    subst hl
    refine ⟨v, w, ?_, by simpa using hown, World.grownBy.refl w _, .inl rfl⟩
    rcases hown.2 with ⟨rfl, rfl⟩ | ⟨g, cap, cur, rfl, _, _, hnc, _⟩
    · simp [Builtin.append_, run_underlying ht, sizeOf, typeInfo, hi, Builtin.lenOf, Builtin.firstCells]
    · simp [Builtin.append_, run_underlying ht, sizeOf, typeInfo, hi, Builtin.lenOf, Builtin.firstCells, hnc, storeCells]
  · obtain ⟨v', w', hr, h2, h3, _, h5⟩ := run_append_own_at (P := P) w base t ty e i z 1 bytes ht hi hz hsize hby hzs (by omega) v n xs hown ad l.length c (l.map (Value.int k)) (by simp) (cells_of_rd hR) (ints_one k l) h63 hbytes hbase
    exact ⟨v', w', hr, h2, h3, h5⟩
theorem wpList_append_rd {ops : Array Oper} {rest : List Oper} {o : Oper} {a : Act} {Q : Exit → Act → World → Prop} (hgd : o.guard = none) (s x : Operand) (t : TypeId)
    (ho : o.op = .call { callee := .builtin .append, args := #[s, x], argTypes := #[t, t] })
    (base : Nat) (e : TypeId) (i : TypeInfo) (z : Value) (bytes : Nat) (ht : P.underlying t = some (.slice e)) (hi : P.info? e = some i) (hz : i.zero = some z)
    (hsize : i.size = 1) (hby : i.bytes = bytes) (hzs : z.cells.size = 1) (k : IntKind)
    (v : Value) (n : Nat) (xs : List Value) (hs : a.eval s = v) (hown : w.ownsRow base e 1 v n xs) (A : Option Addr) (l : List Int) (c B : Nat) (hx : a.eval x = .slice A l.length c) (hR : Rd k w B A l)
    (h63 : n + l.length ≤ maxLen) (hbytes : (n + l.length) * bytes ≤ 140737488355328) (hbase : base ≤ w.heap.size)
    (h : ∀ v' w', w'.ownsRow base e 1 v' (n + l.length) (xs ++ l.map (Value.int k)) → w.grownBy w' v.ownBlock → (v'.ownBlock = v.ownBlock ∨ v'.ownBlock = some w.heap.size) → wpList P ops Q rest (a.put o.dst v') w') : wpList P ops Q (o :: rest) a w := by
  refine wpList_plain hgd fun K hK => ?_
  obtain ⟨v', w', hr, h2, h3, h5⟩ := run_append_rd (P := P) w base t o.type e i z bytes ht hi hz hsize hby hzs k v n xs hown A l c B hR h63 hbytes hbase
  unfold Oper.wp execOp
  simp only [ho, resolve, invoke, builtin, Sem.run_bind, Sem.run_pure, Result.andThen_ok, List.map_toArray, List.map_cons, List.map_nil, hs, hx, hr]
  exact hK _ _ (h v' w' h2 h3 h5)
end
end Go.Proofs.YtnnfkmjhaljplaaGreat
namespace Go.Proofs.YtnnfkmjhaljplaaGreat
open Go.RowKit
/-- Block g is a source over the bytes l, read as far as k. -/
structure Src (w : World) (g : Nat) (A : Option Addr) (c : Nat) (l : List Int) (k : Nat) : Prop where
  blk : Bk w g #[.slice A l.length c, .int .i64 (k : Int)] 102
  rd : Rd .u8 w g A l
  b8 : B8 l
  len : l.length ≤ 1048576
theorem l1Source_any (l : List Int) (A : Option Addr) (c : Nat) (w : World) (h : Rd .u8 w w.heap.size A l) (b8 : B8 l) (hl : l.length ≤ 1048576) :
    Calls Tryz.prog 16 #[.slice A l.length c] w fun e w' => e = .returned (.pointer (some ⟨w.heap.size, 0, none⟩)) ∧ Src w' w.heap.size A c l 0 ∧ Below w.heap.size w w' := by
  go_enter Tryz.func16, Tryz.ntmps16
  go_wp2
  go_ret
  exact ⟨rfl, ⟨Bk.new _ _ _, h.alloc (Nat.le_refl _) _, b8, hl⟩, by go_grown⟩
theorem Src.step {w : World} {g : Nat} {A : Option Addr} {c : Nat} {l : List Int} {k : Nat} (h : Src w g A c l k) :
    Src (w.setCell ⟨g, 1, none⟩ (.int .i64 ((k : Int) + 1))) g A c l (k + 1) ∧ w.grownBy (w.setCell ⟨g, 1, none⟩ (.int .i64 ((k : Int) + 1))) (some g) := by
  have hg := grown_set w g 1 (.int .i64 ((k : Int) + 1))
  refine ⟨⟨?_, h.rd.grown hg, h.b8, h.len⟩, hg⟩
  have := h.blk.set_ 1 (.int .i64 ((k : Int) + 1))
  simpa using this
theorem Src.below {w w' : World} {B g : Nat} {A : Option Addr} {c : Nat} {l : List Int} {k : Nat} (h : Src w g A c l k) (hb : Below B w w') (hg : g < B) : Src w' g A c l k :=
  ⟨h.blk.below hb hg, h.rd.below (hb.mono (by omega)), h.b8, h.len⟩
theorem Src.alloc {w : World} {g : Nat} {A : Option Addr} {c : Nat} {l : List Int} {k : Nat} (h : Src w g A c l k) (o : Obj) : Src (w.alloc o) g A c l k := h.below ((Below.refl _ _).alloc (Nat.le_refl _) o) h.blk.lt
theorem Src.lt {w : World} {g : Nat} {A : Option Addr} {c : Nat} {l : List Int} {k : Nat} (h : Src w g A c l k) : g < w.heap.size := h.blk.lt
theorem Src.drewN {w : World} {g : Nat} {A : Option Addr} {c : Nat} {l : List Int} {k : Nat} (h : Src w g A c l k) (n : Nat) : Src (w.drewN n) g A c l k := ⟨h.blk, h.rd, h.b8, h.len⟩
theorem mod_nat (k i n : Nat) : (((k : Int) + (i : Int)) % (n : Int)).toNat = (k + i) % n := by
  rw [← Int.natCast_add, ← Int.natCast_emod, Int.toNat_natCast]
set_option maxHeartbeats 800000 in
theorem l1Next_any (g k : Nat) (n : Int) (A : Option Addr) (c : Nat) (l : List Int) (w : World) (hS : Src w g A c l k) (hk : k ≤ 4000) (h0 : 0 ≤ n) (hn : n ≤ 1000000) :
    Calls Tryz.prog 23 #[.pointer (some ⟨g, 0, none⟩), .int .i64 n] w fun e w' => ∃ r : Int, e = .returned (.int .i64 r) ∧ 0 ≤ r ∧ (r < n ∨ n < 1 ∧ r = 0) ∧ Src w' g A c l (k + 1) ∧ w.grownBy w' (some g) := by
  have HS := hide hS.step
  have q0 : w.cell? ⟨g, 0, none⟩ = some (.slice A l.length c) := hS.blk.cell 0
  have q1 : w.cell? ⟨g, 1, none⟩ = some (.int .i64 (k : Int)) := hS.blk.cell 1
  have f0 := hS.blk.frozen 0
  have f1 := hS.blk.frozen 1
  have hl := hS.len
  have hr := hS.rd
  have b8 := hS.b8
  clear hS
  by_cases h1 : n < 1
  · go_enter Tryz.func23, Tryz.ntmps23
    go_wp2
    go_ret
    exact ⟨0, rfl, by omega, .inr ⟨by omega, rfl⟩, HS.out⟩
  · by_cases hl0 : l.length = 0
    · have e0 : ((l.length : Int) == 0) = true := by rw [hl0]; rfl
      have HL := hide hl0
      clear hl0
      go_enter Tryz.func23, Tryz.ntmps23
      go_wp2
      go_ret
      exact ⟨_, rfl, Int.emod_nonneg _ (by omega), .inl (Int.emod_lt_of_pos _ (by omega)), HS.out⟩
    · have e0 : ((l.length : Int) == 0) = false := beq_eq_false_iff_ne.2 (by omega)
      have i0 : k % l.length < l.length := Nat.mod_lt _ (by omega)
      have i1 : (k + 1) % l.length < l.length := Nat.mod_lt _ (by omega)
      have i2 : (k + 2) % l.length < l.length := Nat.mod_lt _ (by omega)
      obtain ⟨b, off, rfl, hbg, hc⟩ := hr.all (by omega)
      have hne : ¬ g = b := by omega
      have c0 := hc _ i0
      have c1 := hc _ i1
      have c2 := hc _ i2
      have r0 := b8.get _ i0
      have r1 := b8.get _ i1
      have r2 := b8.get _ i2
      obtain ⟨x0, hx0⟩ : ∃ x, x = l[k % l.length] := ⟨_, rfl⟩
      obtain ⟨x1, hx1⟩ : ∃ x, x = l[(k + 1) % l.length] := ⟨_, rfl⟩
      obtain ⟨x2, hx2⟩ : ∃ x, x = l[(k + 2) % l.length] := ⟨_, rfl⟩
      rw [← hx0] at c0 r0
      rw [← hx1] at c1 r1
      rw [← hx2] at c2 r2
      clear hx0 hx1 hx2 hc
      have n1 : (((k : Int) + 1) % (l.length : Int)).toNat = (k + 1) % l.length := mod_nat k 1 l.length
      have n2 : (((k : Int) + 2) % (l.length : Int)).toNat = (k + 2) % l.length := mod_nat k 2 l.length
      have m1 := Int.emod_nonneg ((k : Int) + 1) (show (l.length : Int) ≠ 0 by omega)
      have m2 := Int.emod_nonneg ((k : Int) + 2) (show (l.length : Int) ≠ 0 by omega)
      have l1 := Int.emod_lt_of_pos ((k : Int) + 1) (show (0 : Int) < (l.length : Int) by omega)
      have l2 := Int.emod_lt_of_pos ((k : Int) + 2) (show (0 : Int) < (l.length : Int) by omega)
      have d0 : 0 ≤ (k : Int) / (l.length : Int) := Int.ediv_nonneg (by omega) (by omega)
      have d1 : (k : Int) / (l.length : Int) ≤ 4000 := Int.le_trans (Int.ediv_le_self _ (by omega)) (by omega)
      obtain ⟨D, hD⟩ : ∃ D, (k : Int) / (l.length : Int) = D := ⟨_, rfl⟩
      rw [hD] at d0 d1
      by_cases h200 : n ≤ 200
      · go_enter Tryz.func23, Tryz.ntmps23
        go_wp2
        go_quiet (fail)
        go_wp2
        go_ret
        exact ⟨(x0 + D * 37) % n, rfl, Int.emod_nonneg _ (by omega), .inl (Int.emod_lt_of_pos _ (by omega)), HS.out.1.drewN _, grown_drewN HS.out.2 _⟩
      · go_enter Tryz.func23, Tryz.ntmps23
        go_wp2
        go_quiet (fail)
        go_wp2
        obtain ⟨W2, hW2⟩ : ∃ W2 : World, W2 = (w.setCell ⟨g, 1, none⟩ (.int .i64 ((k : Int) + 1))).drewN nq := ⟨_, rfl⟩
        have S2 : Src W2 g (some ⟨b, off, none⟩) c l (k + 1) ∧ w.grownBy W2 (some g) := by rw [hW2]; exact ⟨HS.out.1.drewN _, grown_drewN HS.out.2 _⟩
        have c1 : W2.cell? ⟨b, off + (k + 1) % l.length, none⟩ = some (.int .u8 x1) := S2.2.cell c1 (by simp; omega)
        have c2 : W2.cell? ⟨b, off + (k + 2) % l.length, none⟩ = some (.int .u8 x2) := S2.2.cell c2 (by simp; omega)
        rw [← hW2]
        clear hW2 c0 HS q0 q1 f0 f1 hr
        have q0 : W2.cell? ⟨g, 0, none⟩ = some (.slice (some ⟨b, off, none⟩) l.length c) := S2.1.blk.cell 0
        by_cases h60 : n ≤ 60000
        · go_quiet (fail)
          go_wp2
          go_ret
          exact ⟨((x0 + D * 37) * 251 + x1 * 13 + k) % n, rfl, Int.emod_nonneg _ (by omega), .inl (Int.emod_lt_of_pos _ (by omega)), S2.1.drewN _, grown_drewN S2.2 _⟩
        · go_quiet (fail)
          go_wp2
          obtain ⟨W3, hW3⟩ : ∃ W3 : World, W3 = W2.drewN nq := ⟨_, rfl⟩
          have S3 : Src W3 g (some ⟨b, off, none⟩) c l (k + 1) ∧ w.grownBy W3 (some g) := by rw [hW3]; exact ⟨S2.1.drewN _, grown_drewN S2.2 _⟩
          have c2 : W3.cell? ⟨b, off + (k + 2) % l.length, none⟩ = some (.int .u8 x2) := by rw [hW3]; exact c2
          rw [← hW3]
          clear hW3 c1 q0
          have q0 : W3.cell? ⟨g, 0, none⟩ = some (.slice (some ⟨b, off, none⟩) l.length c) := S3.1.blk.cell 0
          go_quiet (fail)
          go_wp2
          go_ret
          exact ⟨(((x0 + D * 37) * 251 + x1 * 13 + k) * 257 + x2) % n, rfl, Int.emod_nonneg _ (by omega), .inl (Int.emod_lt_of_pos _ (by omega)), S3.1.drewN _, grown_drewN S3.2 _⟩
end Go.Proofs.YtnnfkmjhaljplaaGreat
namespace Go.Proofs.YtnnfkmjhaljplaaGreat
open Go.RowKit
theorem grown_alloc {w : World} {o : Obj} {w' : World} {row : Option Nat} (h : (w.alloc o).grownBy w' row) : w.grownBy w' row := (World.grownBy_alloc w o row).trans h
theorem l1Chance_any (g k : Nat) (n : Int) (A : Option Addr) (c : Nat) (l : List Int) (w : World) (hS : Src w g A c l k) (hk : k ≤ 4000) (h0 : 0 ≤ n) (hn : n ≤ 1000000) :
    Calls Tryz.prog 17 #[.pointer (some ⟨g, 0, none⟩), .int .i64 n] w fun e w' => ∃ b : Bool, e = .returned (.bool b) ∧ Src w' g A c l (k + 1) ∧ w.grownBy w' (some g) := by
  go_enter Tryz.func17, Tryz.ntmps17
  go_wp2_with fail
  refine (l1Next_any g k n A c l w hS hk h0 hn).mono ?_
  rintro e w1 ⟨r, rfl, _, _, hS1, hg1⟩
  go_wp2
  go_ret
  exact ⟨_, rfl, hS1, hg1⟩
theorem l1Pick_any (g k h : Nat) (zs : List Int) (A : Option Addr) (c : Nat) (l : List Int) (t : TypeId) (w : World) (hS : Src w g A c l k) (hk : k ≤ 4000) (hz : 0 < zs.length) (hz2 : zs.length ≤ 1000) (hh : Bk w h (zs.map (Value.int .i64)).toArray t) (hgh : h ≠ g) :
    Calls Tryz.prog 21 #[.pointer (some ⟨g, 0, none⟩), .slice (some ⟨h, 0, none⟩) zs.length zs.length] w fun e w' => ∃ r : Int, e = .returned (.int .i64 r) ∧ r ∈ zs ∧ Src w' g A c l (k + 1) ∧ w.grownBy w' (some g) := by
  go_enter Tryz.func21, Tryz.ntmps21
  go_wp2_with fail
  refine (l1Next_any g k _ A c l w hS hk (by omega) (by omega)).mono ?_
  rintro e w1 ⟨r, rfl, h0, h1, hS1, hg1⟩
  have hr : r < zs.length := by omega
  obtain ⟨q, rfl⟩ := Int.eq_ofNat_of_zero_le h0
  have hq : q < zs.length := by omega
  have hc : w1.cell? ⟨h, q, none⟩ = some (.int .i64 zs[q]) := by
    rw [(hh.grown hg1 (by simp; exact hgh)).cell q]
    simp [hq]
  clear h1
  go_wp2
  go_ret
  exact ⟨_, rfl, List.getElem_mem hq, hS1, hg1⟩
end Go.Proofs.YtnnfkmjhaljplaaGreat
namespace Go.Proofs.YtnnfkmjhaljplaaGreat
open Go.RowKit
theorem cell_three_new (w : World) (x y z : Value) (T : TypeId) : ∀ j u, [x, y, z][j]? = some u → (w.alloc (.cells #[x, y, z] T)).cell? ((⟨w.heap.size, 0, none⟩ : Addr).add j) = some u := by
  intro j u hj
  rw [Go.WideShapes.add_plain, Nat.zero_add, (Bk.new w #[x, y, z] T).cell j]
  simpa using hj
theorem one_cells3 (k : IntKind) (x y z : Int) : ∀ u ∈ [Value.int k x, .int k y, .int k z], u.oneCell' = true := by
  intro u hu
  simp at hu
  rcases hu with rfl | rfl | rfl <;> rfl
end Go.Proofs.YtnnfkmjhaljplaaGreat
namespace Go.Proofs.YtnnfkmjhaljplaaGreat
open Go.RowKit
end Go.Proofs.YtnnfkmjhaljplaaGreat
namespace Go.Proofs.YtnnfkmjhaljplaaGreat
open Go.RowKit
theorem grown_of_below {w w' : World} (row : Option Nat) (hb : Below w.heap.size w w') : w.grownBy w' row := ⟨hb.os, hb.tape, hb.output, hb.size, fun k hk _ => hb.block k hk⟩
theorem grown_new {w w1 : World} {row : Option Nat} {p : Addr} (hp : w.heap.size ≤ p.block) (v : Value) (h : w.grownBy w1 row) : w.grownBy (w1.setCell p v) row :=
  ⟨h.os, h.tape, h.output, by simpa using h.size, fun k hk hne => (Below.heap_setCell w1 p v k (by omega)).trans (h.block k hk hne)⟩
end Go.Proofs.YtnnfkmjhaljplaaGreat
namespace Go.Proofs.YtnnfkmjhaljplaaGreat
open Go.RowKit
/-- The source in block g went on by m readings at most; nothing else below is turned. -/
def Went (w : World) (g : Nat) (A : Option Addr) (c : Nat) (l : List Int) (k m : Nat) (w' : World) : Prop := ∃ k', k' ≤ k + m ∧ Src w' g A c l k' ∧ w.grownBy w' (some g)
set_option maxHeartbeats 400000 in
theorem l2Event_any (g k : Nat) (A : Option Addr) (c : Nat) (l : List Int) (w : World) (hS : Src w g A c l k) (hk : k ≤ 900) :
    Calls Tryz.prog 89 #[.pointer (some ⟨g, 0, none⟩)] w fun e w' => ∃ x : Ev, e = .returned (evV x.k x.a x.v) ∧ evF x = 0 ∧ Went w g A c l k 3 w' := by
  obtain ⟨W, hW⟩ : ∃ W, W = w.alloc (Obj.cells #[Value.int .i64 0, .int .i64 0, .int .i64 0] 64) := ⟨_, rfl⟩
  have HW := hide hW
  have kr : Bk W w.heap.size #[.int .i64 0, .int .i64 0, .int .i64 0] 64 := by rw [hW]; exact Bk.new _ _ _
  have S0 : Src W g A c l k := by rw [hW]; exact hS.alloc _
  have G0 : w.grownBy W (some g) := by rw [hW]; exact World.grownBy_alloc _ _ _
  have hgl := hS.lt
  clear hW
  go_enter Tryz.func89, Tryz.ntmps89
  go_wp2_with fail
  rw [← HW.out]
  refine (l1Next_any g k 2 A c l W S0 (by omega) (by omega) (by omega)).mono ?_
  rintro e w1 ⟨r, rfl, h0, h1, S1, g1⟩
  have kr := kr.grown g1 (by simp; omega)
  have G1 := G0.trans g1
  clear g1
  go_wp2_with fail
  refine (l1Pick_any g (k + 1) _ [0, 1, 2, 1, 2, 1000, 999999] A c l _ _ (S1.alloc _) (by omega) (by simp) (by simp) (Bk.new _ _ _) (by have := S1.lt; omega)).mono ?_
  rintro e w2 ⟨a, rfl, ha, S2, g2⟩
  have kr := (kr.alloc _).grown g2 (by simp; omega)
  have G2 := G1.trans (grown_alloc g2)
  clear g2
  go_wp2_with fail
  refine (l1Pick_any g (k + 2) _ [0, 1, 2, 1, 2, 999999, 127, 128] A c l _ _ (S2.alloc _) (by omega) (by simp) (by simp) (Bk.new _ _ _) (by have := S2.lt; omega)).mono ?_
  rintro e w3 ⟨v, rfl, hv, S3, g3⟩
  have kr := (kr.alloc _).grown g3 (by simp; omega)
  have G3 := G2.trans (grown_alloc g3)
  clear g3
  have q0 : w3.cell? ⟨w.heap.size, 0, none⟩ = some (.int .i64 0) := (kr.cell 0).trans rfl
  have q1 : w3.cell? ⟨w.heap.size, 1, none⟩ = some (.int .i64 0) := (kr.cell 1).trans rfl
  have q2 : w3.cell? ⟨w.heap.size, 2, none⟩ = some (.int .i64 0) := (kr.cell 2).trans rfl
  have f0 := kr.frozen 0
  have f1 := kr.frozen 1
  have f2 := kr.frozen 2
  go_wp2
  refine bodyPost_ret (v := evV r a v) (by simp [results, Tryz.results89, go_sem, q0, q1, q2]) rfl ?_
  refine ⟨⟨r, a, v⟩, rfl, evF_ok (by simp only; omega) ?_, k + 3, by omega, ?_, ?_⟩
  · simp at ha hv
    simp only
    omega
  · exact S3.below (B := g + 1) ((((Below.refl _ _).setCell (by simp only; omega) _).setCell (by simp only; omega) _).setCell (by simp only; omega) _) (Nat.lt_succ_self _)
  · exact grown_new (Nat.le_refl _) _ (grown_new (Nat.le_refl _) _ (grown_new (Nat.le_refl _) _ G3))
set_option maxRecDepth 100000 in
set_option maxHeartbeats 800000 in
theorem l2Steps_any (g k n : Nat) (A : Option Addr) (c : Nat) (l : List Int) (w : World) (hS : Src w g A c l k) (hk : k ≤ 600) (hn : n ≤ 20) :
    Calls Tryz.prog 72 #[.pointer (some ⟨g, 0, none⟩), .int .i64 n] w fun e w' => ∃ es D d, e = .returned (.slice D es.length d) ∧ es.length ≤ n ∧ (∀ x ∈ es, evF x = 0) ∧ w'.ownsRow w.heap.size 64 3 (.slice D es.length d) es.length (evs es) ∧ Went w g A c l k 61 w' := by
  obtain ⟨i0, hi, hz0, hz1, hz2⟩ := info_parts info_event
  have hgl := hS.lt
  go_enter Tryz.func72, Tryz.ntmps72
  go_wp2_with fail
  refine (l1Next_any g k _ A c l _ (hS.alloc _) (by omega) (by omega) (by omega)).mono ?_
  rintro e w1 ⟨r, rfl, h0, h1, S1, g1⟩
  have hr : r ≤ n := by omega
  obtain ⟨N, rfl⟩ := Int.eq_ofNat_of_zero_le h0
  have hN : N ≤ n := by omega
  have o1 := (World.ownsRow_lit w #[] 0 (e := 64) (size := 3) (base := w.heap.size) (Nat.le_refl _) (by simp) rfl).kept g1 (.inr (by simp [Value.ownBlock]; omega))
  have G1 := grown_alloc g1
  clear g1 h1 hr
  go_wp2
  go_loopw [5, 6] (fun v q wr => ∃ (es : List Ev) (m k' : Nat), m + es.length = N ∧ q = .int .i64 m ∧ (∀ x ∈ es, evF x = 0) ∧ wr.ownsRow w.heap.size 64 3 v es.length (evs es) ∧ Src wr g A c l k' ∧ k' + 3 * m ≤ k + 1 + 3 * N ∧ w.grownBy wr (some g)) (fun _ q _ => (intOf q).toNat)
  case atStart => exact ⟨[], N, k + 1, rfl, rfl, by simp, o1, S1, by omega, G1⟩
  case round =>
    obtain ⟨es, m, k', hm, rfl, hall, ho, hSr, hkk, hgr⟩ := hrel
    have HM := hide hm
    have hx1 : es.length ≤ 20 := by omega
    have hm1 : m ≤ 20 := by omega
    clear hm
    have hsz := hgr.size
    by_cases hlt : 0 < m
    · go_wp2_with fail
      refine (l2Event_any g k' A c l wr hSr (by omega)).mono ?_
      rintro e w1 ⟨x, rfl, hx, k2, hk2, hS1, hg1⟩
      have ho1 := ho.kept hg1 (.inr (fun e => own_apart ho g (.inl hgl) e.symm))
      have hgr1 := hgr.trans hg1
      have hsz1 := hgr1.size
      clear hg1
      go_wp2_with (at_builtin; refine wpList_append_own_at _ rfl _ _ 88 rfl w.heap.size 64 i0 (.agg #[.int .i64 0, .int .i64 0, .int .i64 0]) 3 24 Tryz.underlying88 hi hz0 hz1 hz2 rfl (by decide) _ _ _ rfl (ho1.alloc _) ⟨w1.heap.size, 0, none⟩ 1 1 [.int .i64 x.k, .int .i64 x.a, .int .i64 x.v] rfl rfl (cell_three_new _ _ _ _ _) (one_cells3 _ _ _ _) (by unfold maxLen; omega) (by omega) (by simp; omega) ?_; intro v' w2 hown' hgrow _ hat)
      have hbl : Below w.heap.size w1 w2 := ((Below.refl _ _).alloc hsz1 _).trans (grown_below (ho1.alloc (.cells #[.int .i64 x.k, .int .i64 x.a, .int .i64 x.v] 64)) hgrow (by simp; omega) (Nat.le_refl _))
      have hgr2 : w.grownBy w2 (some g) := hgr1.andThen (grown_alloc hgrow) (fun j hj => .inl (ho1.lt j hj).1)
      clear hgrow hat
      go_roundw
      case rel => exact ⟨es ++ [x], m - 1, k2, by have := HM.out; simp; omega, by go_num, by intro y hy; rcases List.mem_append.1 hy with h | h; exact hall y h; simp at h; rw [h]; exact hx, by rw [List.length_append, evs_append]; exact hown', hS1.below hbl hgl, by omega, hgr2⟩
      case measure => simp [intOf]; omega
    · obtain ⟨D, d, hv⟩ := own_shape ho
      have HV := hide hv
      clear hv
      go_wp2
      go_ret
      have hn : es.length = N := by have := HM.out; omega
      have ho2 := ho
      rw [HV.out] at ho2
      exact ⟨es, D, d, congrArg Ending.returned HV.out, by omega, hall, ho2, k', by omega, hSr, hgr⟩
end Go.Proofs.YtnnfkmjhaljplaaGreat
namespace Go.Proofs.YtnnfkmjhaljplaaGreat
open Go.RowKit
theorem B8.set_ {xs : List Int} (h : B8 xs) (q : Nat) {r : Int} (h0 : 0 ≤ r) (h1 : r < 256) : B8 (xs.set q r) := fun x hx => by
  rcases List.mem_or_eq_of_mem_set hx with a | a
  · exact h x a
  · rw [a]; exact ⟨h0, h1⟩
theorem own_head {w : World} {base : Nat} {e : TypeId} {n q c : Nat} {A : Option Addr} {xs : List Value} (h : w.ownsRow base e 1 (.slice A n c) n xs) (hq : q ≤ n) : w.ownsRow base e 1 (.slice A q c) q (xs.take q) := by
  have h1 := h.1
  refine ⟨by rw [List.length_take]; omega, ?_⟩
  rcases h.2 with ⟨h0, hv⟩ | ⟨g, cap, cur, hv, hb, hg, hle, hm, hs, ht⟩
  · have hq0 : q = 0 := by omega
    subst hv
    subst hq0
    exact .inl ⟨h0, rfl⟩
  · refine .inr ⟨g, cap, cur, ?_, hb, hg, by omega, hm, hs, ?_⟩
    · simp only [Value.slice.injEq, true_and] at hv ⊢
      exact hv
    · rw [← ht, List.take_take]
      congr 1
      omega
end Go.Proofs.YtnnfkmjhaljplaaGreat
