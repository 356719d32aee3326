/- What the laws' walks rest upon, part 2. -/
import Derived.Test.YtnnfkmjhaljplaaGreatDoorM01
import Derived.OwnWalkIn
import Derived.TacticsInMore
import Derived.Maps.AppendAt
import Derived.Maps.Range
import Derived.OwnWalk
import Derived.RegionTactic
import Derived.Test.YtnnfkmjhaljplaaGreatDoorChecked
import Derived.ProofKit
import Derived.OpenShut
import Derived.Handy
import Derived.Outline
import Derived.BigQuiet
import Derived.Deep.QuietTactic
import Derived.WalkLawsBesides
import Derived.Lib.Hide
import Derived.WalkSmall
import Derived.StillTailTactics
import Derived.Lib.Bytes
namespace Go.Proofs.YtnnfkmjhaljplaaGreatDoor
open Go.RowKit
theorem cells_of_rv {w : World} {B : Nat} {ad : Addr} {vs : List Value} (h : RdV w B (some ad) vs) : ∀ j u, vs[j]? = some u → w.cell? (ad.add j) = some u := by
  intro j u hj
  have hjl : j < vs.length := by
    rcases Nat.lt_or_ge j vs.length with a | a
    · exact a
    · rw [List.getElem?_eq_none a] at hj; exact absurd hj (by simp)
  obtain ⟨b, off, e, _, hc⟩ := h (by omega)
  cases e
  rw [Go.WideShapes.add_plain, hc j hjl]
  rw [List.getElem?_eq_getElem hjl] at hj
  exact hj
section
variable {P : Program} (w : World)
theorem run_append_rv (base sz : Nat) (hs0 : 0 < sz) (t ty e : TypeId) (i : TypeInfo) (z : Value) (bytes : Nat) (ht : P.underlying t = some (.slice e)) (hi : P.info? e = some i) (hz : i.zero = some z)
    (hsize : i.size = sz) (hby : i.bytes = bytes) (hzs : z.cells.size = sz)
    (v : Value) (n : Nat) (xs : List Value) (hown : w.ownsRow base e sz v n xs) (A : Option Addr) (vs : List Value) (m c B : Nat) (hm : vs.length = m * sz) (h1c : ∀ u ∈ vs, u.oneCell' = true) (hR : RdV w B A vs)
    (h63 : n + m ≤ maxLen) (hbytes : (n + m) * bytes ≤ 140737488355328) (hbase : base ≤ w.heap.size) :
    ∃ v' w', (Builtin.append_ #[t, t] ty #[v, .slice A m c]).run P w = .ok v' w' ∧ w'.ownsRow base e sz v' (n + m) (xs ++ vs) ∧ w.grownBy w' v.ownBlock ∧ (v'.ownBlock = v.ownBlock ∨ v'.ownBlock = some w.heap.size) := by
  rcases A with _ | ad
  · have hl : vs = [] := by
      rcases vs with _ | ⟨x, vs⟩
      · rfl
      · obtain ⟨b, off, e, _⟩ := hR (by simp)
        cases e
    subst hl
    obtain rfl : m = 0 := by
      simp only [List.length_nil] at hm
      rcases Nat.eq_zero_or_pos m with h | h
      · exact h
      · have := Nat.mul_pos h hs0; omega
    refine ⟨v, w, ?_, by simpa using hown, World.grownBy.refl w _, .inl rfl⟩
    rcases hown.2 with ⟨rfl, rfl⟩ | ⟨g, cap, cur, rfl, _, _, hnc, _⟩
    · simp [Builtin.append_, run_underlying ht, sizeOf, typeInfo, hi, Builtin.lenOf, Builtin.firstCells]
    · simp [Builtin.append_, run_underlying ht, sizeOf, typeInfo, hi, Builtin.lenOf, Builtin.firstCells, hnc, storeCells]
  · obtain ⟨v', w', hr, h2, h3, _, h5⟩ := run_append_own_at (P := P) w base t ty e i z sz bytes ht hi hz hsize hby hzs hs0 v n xs hown ad m c vs hm (cells_of_rv hR) h1c h63 hbytes hbase
    exact ⟨v', w', hr, h2, h3, h5⟩
theorem wpList_append_rv {ops : Array Oper} {rest : List Oper} {o : Oper} {a : Act} {Q : Exit → Act → World → Prop} (hgd : o.guard = none) (s x : Operand) (t : TypeId)
    (ho : o.op = .call { callee := .builtin .append, args := #[s, x], argTypes := #[t, t] })
    (base sz : Nat) (hs0 : 0 < sz) (e : TypeId) (i : TypeInfo) (z : Value) (bytes : Nat) (ht : P.underlying t = some (.slice e)) (hi : P.info? e = some i) (hz : i.zero = some z)
    (hsize : i.size = sz) (hby : i.bytes = bytes) (hzs : z.cells.size = sz)
    (v : Value) (n : Nat) (xs : List Value) (hs : a.eval s = v) (hown : w.ownsRow base e sz v n xs) (A : Option Addr) (vs : List Value) (m c B : Nat) (hx : a.eval x = .slice A m c) (hm : vs.length = m * sz) (h1c : ∀ u ∈ vs, u.oneCell' = true) (hR : RdV w B A vs)
    (h63 : n + m ≤ maxLen) (hbytes : (n + m) * bytes ≤ 140737488355328) (hbase : base ≤ w.heap.size)
    (h : ∀ v' w', w'.ownsRow base e sz v' (n + m) (xs ++ vs) → w.grownBy w' v.ownBlock → (v'.ownBlock = v.ownBlock ∨ v'.ownBlock = some w.heap.size) → wpList P ops Q rest (a.put o.dst v') w') : wpList P ops Q (o :: rest) a w := by
  refine wpList_plain hgd fun K hK => ?_
  obtain ⟨v', w', hr, h2, h3, h5⟩ := run_append_rv (P := P) w base sz hs0 t o.type e i z bytes ht hi hz hsize hby hzs v n xs hown A vs m c B hm h1c hR h63 hbytes hbase
  unfold Oper.wp execOp
  simp only [ho, resolve, invoke, builtin, Sem.run_bind, Sem.run_pure, Result.andThen_ok, List.map_toArray, List.map_cons, List.map_nil, hs, hx, hr]
  exact hK _ _ (h v' w' h2 h3 h5)
end
end Go.Proofs.YtnnfkmjhaljplaaGreatDoor
namespace Go.Proofs.YtnnfkmjhaljplaaGreatDoor
open Go.RowKit
/-- One number within its bounds, as the program asks it. -/
theorem allWithin_one (b : Nat) (c : Nat) (lo hi n : Int) (w : World) (hc : w.cell? ⟨b, 0, none⟩ = some (.int .i64 n)) (hin : lo ≤ n ∧ n ≤ hi) :
    Calls Tryz.prog 81 #[.int .i64 lo, .int .i64 hi, .slice (some ⟨b, 0, none⟩) 1 c] w fun e w' => e = .returned (.bool true) ∧ w = w' := by
  obtain ⟨h1, h2⟩ := hin
  go_enter Tryz.func81, Tryz.ntmps81
  go_wp2
  go_loop [11] (fun i => ∃ j : Nat, j ≤ 1 ∧ i = .int .i64 j) (fun i => 1 - (intOf i).toNat)
  case atStart => exact ⟨0, by omega, rfl⟩
  case round =>
    obtain ⟨j, hj, rfl⟩ := hrel
    by_cases h0 : j = 0
    · subst h0
      go_wp2
      go_round
      case rel => exact ⟨1, by omega, rfl⟩
      case measure => simp [intOf]
    · obtain rfl : j = 1 := by omega
      go_wp2
      go_ret
      exact ⟨rfl, rfl⟩
theorem allWithin_not (b : Nat) (c : Nat) (lo hi n : Int) (w : World) (hc : w.cell? ⟨b, 0, none⟩ = some (.int .i64 n)) (hin : n < lo ∨ hi < n) :
    Calls Tryz.prog 81 #[.int .i64 lo, .int .i64 hi, .slice (some ⟨b, 0, none⟩) 1 c] w fun e w' => e = .returned (.bool false) ∧ w = w' := by
  rcases hin with hin | hin
  · go_enter Tryz.func81, Tryz.ntmps81
    go_wp2
    refine wp_loop_rounds 1 ?_
    rw [rounds_succ]
    go_wp2
    go_ret
    exact ⟨rfl, rfl⟩
  · by_cases h : n < lo
    · go_enter Tryz.func81, Tryz.ntmps81
      go_wp2
      refine wp_loop_rounds 1 ?_
      rw [rounds_succ]
      go_wp2
      go_ret
      exact ⟨rfl, rfl⟩
    · go_enter Tryz.func81, Tryz.ntmps81
      go_wp2
      refine wp_loop_rounds 1 ?_
      rw [rounds_succ]
      go_wp2
      go_ret
      exact ⟨rfl, rfl⟩
theorem implZag_any (n : Int) (w : World) (hn : -9223372036854775808 ≤ n ∧ n ≤ 9223372036854775807) :
    Calls Tryz.prog 303 #[.int .i64 n] w fun e w' => e = .returned (.agg #[.int .i64 (zagC n), .int .i64 (zagV n)]) ∧ Below w.heap.size w w' := by
  by_cases h : 0 ≤ n ∧ n ≤ 2000000000000
  · rw [(zag_in h).1, (zag_in h).2]
    by_cases h0 : n % 2 = 0
    · rw [zagI_even h0]
      have h0' : (n % 2 == 1) = false := by simp; omega
      clear h0
      go_enter Tryz.func303, Tryz.ntmps303
      go_wp2_with (go_at_call 81; refine (allWithin_one _ _ _ _ _ _ (by simp [go_sem]) h).mono ?_; rintro e w' ⟨rfl, rfl⟩)
      go_returns
      exact ⟨rfl, by go_grown⟩
    · rw [zagI_odd h0]
      have h0' : (n % 2 == 1) = true := by simp; omega
      clear h0
      go_enter Tryz.func303, Tryz.ntmps303
      go_wp2_with (go_at_call 81; refine (allWithin_one _ _ _ _ _ _ (by simp [go_sem]) h).mono ?_; rintro e w' ⟨rfl, rfl⟩)
      go_returns
      rw [zag_wrap (by omega) (by omega)]
      exact ⟨rfl, by go_grown⟩
  · rw [(zag_out h).1, (zag_out h).2]
    have h' : n < 0 ∨ 2000000000000 < n := by omega
    clear h
    go_enter Tryz.func303, Tryz.ntmps303
    go_wp2_with (go_at_call 81; refine (allWithin_not _ _ _ _ _ _ (by simp [go_sem]) h').mono ?_; rintro e w' ⟨rfl, rfl⟩)
    go_returns
    exact ⟨rfl, by go_grown⟩
end Go.Proofs.YtnnfkmjhaljplaaGreatDoor
namespace Go.Proofs.YtnnfkmjhaljplaaGreatDoor
open Go.RowKit
/-- An event as a value. -/
abbrev evV (k a v : Int) : Value := .agg #[.int .i64 k, .int .i64 a, .int .i64 v]
theorem implEvF_any (k a v : Int) (w : World) :
    Calls Tryz.prog 150 #[evV k a v] w fun e w' => e = .returned (.int .i64 (evF ⟨k, a, v⟩)) ∧ Below w.heap.size w w' := by
  by_cases hk : k = 0 ∨ k = 1
  · by_cases ha : 0 ≤ a ∧ a ≤ 999999
    · by_cases hv : 0 ≤ v ∧ v ≤ 999999
      · rw [evF_ok (e := ⟨k, a, v⟩) hk (by simp only; omega)]
        rcases hk with rfl | rfl
        all_goals
          go_enter Tryz.func150, Tryz.ntmps150
          go_wp2_with fail
          refine (allWithin_one _ _ _ _ _ _ (by simp [go_sem]) ha).mono ?_
          rintro e w' ⟨rfl, rfl⟩
          go_wp2_with fail
          refine (allWithin_one _ _ _ _ _ _ (by simp [go_sem]) hv).mono ?_
          rintro e w' ⟨rfl, rfl⟩
          go_wp2
          go_ret
          exact ⟨rfl, by go_grown⟩
      · rw [evF_range (e := ⟨k, a, v⟩) hk (by simp only; omega)]
        have hv' : v < 0 ∨ 999999 < v := by omega
        clear hv
        rcases hk with rfl | rfl
        all_goals
          go_enter Tryz.func150, Tryz.ntmps150
          go_wp2_with fail
          refine (allWithin_one _ _ _ _ _ _ (by simp [go_sem]) ha).mono ?_
          rintro e w' ⟨rfl, rfl⟩
          go_wp2_with fail
          refine (allWithin_not _ _ _ _ _ _ (by simp [go_sem]) hv').mono ?_
          rintro e w' ⟨rfl, rfl⟩
          go_wp2
          go_ret
          exact ⟨rfl, by go_grown⟩
    · rw [evF_range (e := ⟨k, a, v⟩) hk (by simp only; omega)]
      have ha' : a < 0 ∨ 999999 < a := by omega
      clear ha
      rcases hk with rfl | rfl
      all_goals
        go_enter Tryz.func150, Tryz.ntmps150
        go_wp2_with fail
        refine (allWithin_not _ _ _ _ _ _ (by simp [go_sem]) ha').mono ?_
        rintro e w' ⟨rfl, rfl⟩
        go_wp2
        go_ret
        exact ⟨rfl, by go_grown⟩
  · rw [evF_form (e := ⟨k, a, v⟩) hk]
    have k0 : (k == 0) = false := beq_eq_false_iff_ne.2 (by omega)
    have k1 : (k == 1) = false := beq_eq_false_iff_ne.2 (by omega)
    have k2 : (k != 0) = true := bne_iff_ne.2 (by omega)
    have k3 : (k != 1) = true := bne_iff_ne.2 (by omega)
    clear hk
    go_enter Tryz.func150, Tryz.ntmps150
    go_wp2
    go_ret
    exact ⟨rfl, by go_grown⟩
theorem l1In_yes (n lo hi : Int) (w : World) (h : lo ≤ n ∧ n ≤ hi) :
    Calls Tryz.prog 63 #[.int .i64 n, .int .i64 lo, .int .i64 hi] w fun e w' => e = .returned (.bool true) ∧ w = w' := by
  obtain ⟨h1, h2⟩ := h
  go_enter Tryz.func63, Tryz.ntmps63
  go_wp2
  go_ret
  exact ⟨ret_bool (by simp), rfl⟩
theorem l1In_no (n lo hi : Int) (w : World) (h : n < lo ∨ hi < n) :
    Calls Tryz.prog 63 #[.int .i64 n, .int .i64 lo, .int .i64 hi] w fun e w' => e = .returned (.bool false) ∧ w = w' := by
  by_cases h1 : lo ≤ n
  · have h2 : hi < n := by omega
    clear h
    go_enter Tryz.func63, Tryz.ntmps63
    go_wp2
    go_ret
    exact ⟨ret_bool (by simp; omega), rfl⟩
  · clear h
    go_enter Tryz.func63, Tryz.ntmps63
    go_wp2
    go_ret
    exact ⟨rfl, rfl⟩
theorem specEvF_any (k a v : Int) (w : World) :
    Calls Tryz.prog 217 #[evV k a v] w fun e w' => e = .returned (.int .i64 (evF ⟨k, a, v⟩)) ∧ Below w.heap.size w w' := by
  by_cases hk : k = 0 ∨ k = 1
  · by_cases ha : 0 ≤ a ∧ a ≤ 999999
    · by_cases hv : 0 ≤ v ∧ v ≤ 999999
      · rw [evF_ok (e := ⟨k, a, v⟩) hk (by simp only; omega)]
        rcases hk with rfl | rfl
        all_goals
          go_enter Tryz.func217, Tryz.ntmps217
          go_wp2_with fail
          refine (l1In_yes _ _ _ _ ha).mono ?_
          rintro e w' ⟨rfl, rfl⟩
          go_wp2_with fail
          refine (l1In_yes _ _ _ _ hv).mono ?_
          rintro e w' ⟨rfl, rfl⟩
          go_wp2
          go_ret
          exact ⟨rfl, by go_grown⟩
      · rw [evF_range (e := ⟨k, a, v⟩) hk (by simp only; omega)]
        have hv' : v < 0 ∨ 999999 < v := by omega
        clear hv
        rcases hk with rfl | rfl
        all_goals
          go_enter Tryz.func217, Tryz.ntmps217
          go_wp2_with fail
          refine (l1In_yes _ _ _ _ ha).mono ?_
          rintro e w' ⟨rfl, rfl⟩
          go_wp2_with fail
          refine (l1In_no _ _ _ _ hv').mono ?_
          rintro e w' ⟨rfl, rfl⟩
          go_wp2
          go_ret
          exact ⟨rfl, by go_grown⟩
    · rw [evF_range (e := ⟨k, a, v⟩) hk (by simp only; omega)]
      have ha' : a < 0 ∨ 999999 < a := by omega
      clear ha
      rcases hk with rfl | rfl
      all_goals
        go_enter Tryz.func217, Tryz.ntmps217
        go_wp2_with fail
        refine (l1In_no _ _ _ _ ha').mono ?_
        rintro e w' ⟨rfl, rfl⟩
        go_wp2
        go_ret
        exact ⟨rfl, by go_grown⟩
  · rw [evF_form (e := ⟨k, a, v⟩) hk]
    have k0 : (k == 0) = false := beq_eq_false_iff_ne.2 (by omega)
    have k1 : (k == 1) = false := beq_eq_false_iff_ne.2 (by omega)
    have k2 : (k != 0) = true := bne_iff_ne.2 (by omega)
    have k3 : (k != 1) = true := bne_iff_ne.2 (by omega)
    clear hk
    go_enter Tryz.func217, Tryz.ntmps217
    go_wp2
    go_ret
    exact ⟨rfl, by go_grown⟩
end Go.Proofs.YtnnfkmjhaljplaaGreatDoor
namespace Go.Proofs.YtnnfkmjhaljplaaGreatDoor
open Go.RowKit
theorem info_u8 : (Tryz.prog.info? 5).map (fun i => (i.zero, i.size, i.bytes)) = some (some (.int .u8 0), 1, 1) := by kernel_rfl
set_option maxHeartbeats 400000 in
theorem eqByteS_same (l : List Int) (A A' : Option Addr) (c c' : Nat) (w : World) (hm : l.length ≤ maxLen) (h : Rd .u8 w w.heap.size A l) (h' : Rd .u8 w w.heap.size A' l) :
    Calls Tryz.prog 37 #[.slice A l.length c, .slice A' l.length c'] w fun e w' => e = .returned (.bool true) ∧ Below w.heap.size w w' := by
  unfold maxLen at hm
  go_enter Tryz.func37, Tryz.ntmps37
  go_wp2
  go_loopw [5] (fun i wr => ∃ k : Nat, k ≤ l.length ∧ i = .int .i64 k ∧ Below w.heap.size w wr) (fun i _ => l.length - (intOf i).toNat)
  case atStart => exact ⟨0, Nat.zero_le _, rfl, Below.refl _ _⟩
  case round =>
    obtain ⟨k, hk, rfl, hb⟩ := hrel
    by_cases hlt : k < l.length
    · obtain ⟨b, off, rfl, hbb, hc⟩ := (h.below hb).get hlt
      obtain ⟨b', off', rfl, hbb', hc'⟩ := (h'.below hb).get hlt
      go_wp2
      go_quiet (fail)
      go_wp2
      go_roundw
      case rel => exact ⟨k + 1, by omega, by go_num, below_drewN hb _⟩
      case measure => simp [intOf]; omega
    · go_wp2
      go_ret
      exact ⟨rfl, hb⟩
theorem set_append {α : Type} (p s : List α) (x y : α) : (p ++ y :: s).set p.length x = p ++ x :: s := by simp
/-- After k rounds of a copy: the first k are there, the rest as it was made. -/
def half (l : List Int) (k : Nat) : List Value := (l.take k).map (Value.int .u8) ++ List.replicate (l.length - k) (Value.int .u8 0)
theorem half_zero (l : List Int) : half l 0 = List.replicate l.length (Value.int .u8 0) := by simp [half]
theorem half_all (l : List Int) : half l l.length = l.map (Value.int .u8) := by simp [half]
theorem half_set (l : List Int) (k : Nat) (hk : k < l.length) : (half l k).set k (.int .u8 l[k]) = half l (k + 1) := by
  unfold half
  rw [show l.length - k = (l.length - (k + 1)) + 1 by omega, List.replicate_succ, List.take_succ_eq_append_getElem hk, List.map_append]
  have e : k = ((l.take k).map (Value.int IntKind.u8)).length := by simp; omega
  conv => lhs; arg 2; rw [e]
  rw [set_append]
  simp
theorem made_u8 (n : Nat) : (madeCells (Value.int .u8 0).cells (n * 1)).toList = List.replicate n (Value.int .u8 0) := by
  apply List.ext_getElem
  · simp [madeCells]
  · intro i h1 h2
    simp [madeCells, Value.cells, Nat.mod_one]
set_option maxHeartbeats 400000 in
theorem toByteS_any (l : List Int) (A : Option Addr) (c : Nat) (w : World) (hm : l.length ≤ 1048576) (h : Rd .u8 w w.heap.size A l) :
    Calls Tryz.prog 34 #[.slice A l.length c] w fun e w' => ∃ g, e = .returned (.slice (some ⟨g, 0, none⟩) l.length l.length) ∧ w'.ownsRow w.heap.size 5 1 (.slice (some ⟨g, 0, none⟩) l.length l.length) l.length (l.map (Value.int .u8)) ∧ Below w.heap.size w w' := by
  obtain ⟨i0, hi, hz0, hz1, hz2⟩ := info_parts info_u8
  go_enter Tryz.func34, Tryz.ntmps34
  go_wp2_with (at_make; refine wpList_make_full _ rfl _ _ 22 rfl w.heap.size 5 i0 (.int .u8 0) 1 Tryz.underlying22 hi hz0 hz1 .i64 .i64 _ _ l.length rfl rfl rfl rfl (by rw [hz2]; omega) (by unfold maxLen; omega) (Nat.le_refl _) ?_; intro w1 hown hg)
  rw [made_u8, ← half_zero] at hown
  have hb1 : Below w.heap.size w w1 := (Below.refl _ _).grown hg (Nat.le_refl _) (by simp)
  clear hg
  go_loopw [4] (fun i wr => ∃ k : Nat, k ≤ l.length ∧ i = .int .i64 k ∧ wr.ownsRow w.heap.size 5 1 (.slice (some ⟨w.heap.size, 0, none⟩) l.length l.length) l.length (half l k) ∧ Below w.heap.size w wr) (fun i _ => l.length - (intOf i).toNat)
  case atStart => exact ⟨0, Nat.zero_le _, rfl, hown, hb1⟩
  case round =>
    obtain ⟨k, hk, rfl, ho, hb⟩ := hrel
    by_cases hlt : k < l.length
    · obtain ⟨b, off, rfl, hbb, hc⟩ := (h.below hb).get hlt
      have hf := ho.frozenAt k
      obtain ⟨v, hx⟩ : ∃ v, wr.cell? ⟨w.heap.size, k, none⟩ = some v := by
        rw [ho.cellAt k (by omega)]
        exact ⟨_, List.getElem?_eq_getElem (by rw [ho.1]; omega)⟩
      have hs := ho.stored k (.int .u8 l[k])
      have HS := hide hs
      clear hs
      go_wp2
      go_roundw
      case rel =>
        refine ⟨k + 1, by omega, by go_num, ?_, hb.setCell (Nat.le_refl _) _⟩
        rw [← half_set l k hlt]
        exact HS.out.1
      case measure => simp [intOf]; omega
    · go_wp2
      go_ret
      obtain rfl : k = l.length := by omega
      rw [half_all] at ho
      exact ⟨_, rfl, ho, hb⟩
end Go.Proofs.YtnnfkmjhaljplaaGreatDoor
namespace Go.Proofs.YtnnfkmjhaljplaaGreatDoor
open Go.RowKit
theorem info_event : (Tryz.prog.info? 48).map (fun i => (i.zero, i.size, i.bytes)) = some (some (.agg #[.int .i64 0, .int .i64 0, .int .i64 0]), 3, 24) := by kernel_rfl
end Go.Proofs.YtnnfkmjhaljplaaGreatDoor
namespace Go.Proofs.YtnnfkmjhaljplaaGreatDoor
open Go.RowKit
set_option maxRecDepth 100000 in
set_option maxHeartbeats 400000 in
theorem implStF_any (es : List Ev) (A : Option Addr) (c : Nat) (w : World) (hm : es.length ≤ maxLen) (h : RdE w w.heap.size A es) :
    Calls Tryz.prog 201 #[.slice A es.length c] w fun e w' => e = .returned (.int .i64 (stF es)) ∧ Below w.heap.size w w' := by
  unfold maxLen at hm
  by_cases h8 : es.length ≤ 8
  · have HF := hide (stF_few h8)
    go_enter Tryz.func201, Tryz.ntmps201
    go_wp2
    go_loopw [11] (fun i wr => ∃ k : Nat, k ≤ es.length ∧ i = .int .i64 k ∧ Below w.heap.size w wr ∧ Hid (evsF es = evsF (es.drop k))) (fun i _ => es.length - (intOf i).toNat)
    case atStart => exact ⟨0, Nat.zero_le _, rfl, Below.refl _ _, hide rfl⟩
    case round =>
      obtain ⟨k, hk, rfl, hb, HR⟩ := hrel
      by_cases hlt : k < es.length
      · obtain ⟨b, off, rfl, hbb, hc0, hc1, hc2⟩ := (h.below hb).get hlt
        by_cases h0 : evF es[k] = 0
        · have IM := hide (fun W => (show Calls Tryz.prog 150 #[evV es[k].k es[k].a es[k].v] W _ from implEvF_any es[k].k es[k].a es[k].v W))
          have HN := hide (evsF_next hlt h0)
          rw [show evF ⟨es[k].k, es[k].a, es[k].v⟩ = 0 from h0] at IM
          clear h0
          go_wp2_with fail
          refine (IM.out _).mono ?_
          rintro e w2 ⟨rfl, hb2⟩
          have hb3 := hb.trans ((below_alloc hb2).mono hb.size)
          go_wp2
          go_roundw
          case rel => exact ⟨k + 1, by omega, by go_num, hb3, hide (HR.out.trans HN.out)⟩
          case measure => simp [intOf]; omega
        · have IM := hide (fun W => (show Calls Tryz.prog 150 #[evV es[k].k es[k].a es[k].v] W _ from implEvF_any es[k].k es[k].a es[k].v W))
          have HN := hide (evsF_stop hlt h0)
          obtain ⟨F, hF⟩ : ∃ F, F = evF es[k] := ⟨_, rfl⟩
          rw [← hF] at h0 HN
          rw [show evF ⟨es[k].k, es[k].a, es[k].v⟩ = F from hF.symm] at IM
          have f0 : (F != 0) = true := bne_iff_ne.2 h0
          have f1 : (F == 0) = false := beq_eq_false_iff_ne.2 h0
          clear h0 hF
          go_wp2_with fail
          refine (IM.out _).mono ?_
          rintro e w2 ⟨rfl, hb2⟩
          have hb3 := hb.trans ((below_alloc hb2).mono hb.size)
          go_wp2
          go_ret
          exact ⟨ret_int (by rw [HF.out, HR.out, HN.out]), hb3⟩
      · have HN := hide (evsF_end hlt)
        go_wp2
        go_ret
        exact ⟨ret_int (by rw [HF.out, HR.out, HN.out]), hb⟩
  · rw [stF_many h8]
    go_enter Tryz.func201, Tryz.ntmps201
    go_wp2
    go_ret
    exact ⟨rfl, Below.refl _ _⟩
set_option maxRecDepth 100000 in
set_option maxHeartbeats 400000 in
theorem specStF_any (es : List Ev) (A : Option Addr) (c : Nat) (w : World) (hm : es.length ≤ maxLen) (h : RdE w w.heap.size A es) :
    Calls Tryz.prog 166 #[.slice A es.length c] w fun e w' => e = .returned (.int .i64 (stF es)) ∧ Below w.heap.size w w' := by
  unfold maxLen at hm
  by_cases h8 : es.length ≤ 8
  · have HF := hide (stF_few h8)
    go_enter Tryz.func166, Tryz.ntmps166
    go_wp2
    go_loopw [10] (fun i wr => ∃ k : Nat, k ≤ es.length ∧ i = .int .i64 k ∧ Below w.heap.size w wr ∧ Hid (evsF es = evsF (es.drop k))) (fun i _ => es.length - (intOf i).toNat)
    case atStart => exact ⟨0, Nat.zero_le _, rfl, Below.refl _ _, hide rfl⟩
    case round =>
      obtain ⟨k, hk, rfl, hb, HR⟩ := hrel
      by_cases hlt : k < es.length
      · obtain ⟨b, off, rfl, hbb, hc0, hc1, hc2⟩ := (h.below hb).get hlt
        by_cases h0 : evF es[k] = 0
        · have IM := hide (fun W => (show Calls Tryz.prog 217 #[evV es[k].k es[k].a es[k].v] W _ from specEvF_any es[k].k es[k].a es[k].v W))
          have HN := hide (evsF_next hlt h0)
          rw [show evF ⟨es[k].k, es[k].a, es[k].v⟩ = 0 from h0] at IM
          clear h0
          go_wp2_with fail
          refine (IM.out _).mono ?_
          rintro e w2 ⟨rfl, hb2⟩
          have hb3 := hb.trans (hb2.mono hb.size)
          go_wp2
          go_roundw
          case rel => exact ⟨k + 1, by omega, by go_num, hb3, hide (HR.out.trans HN.out)⟩
          case measure => simp [intOf]; omega
        · have IM := hide (fun W => (show Calls Tryz.prog 217 #[evV es[k].k es[k].a es[k].v] W _ from specEvF_any es[k].k es[k].a es[k].v W))
          have HN := hide (evsF_stop hlt h0)
          obtain ⟨F, hF⟩ : ∃ F, F = evF es[k] := ⟨_, rfl⟩
          rw [← hF] at h0 HN
          rw [show evF ⟨es[k].k, es[k].a, es[k].v⟩ = F from hF.symm] at IM
          have f0 : (F != 0) = true := bne_iff_ne.2 h0
          have f1 : (F == 0) = false := beq_eq_false_iff_ne.2 h0
          clear h0 hF
          go_wp2_with fail
          refine (IM.out _).mono ?_
          rintro e w2 ⟨rfl, hb2⟩
          have hb3 := hb.trans (hb2.mono hb.size)
          go_wp2
          go_ret
          exact ⟨ret_int (by rw [HF.out, HR.out, HN.out]), hb3⟩
      · have HN := hide (evsF_end hlt)
        go_wp2
        go_ret
        exact ⟨ret_int (by rw [HF.out, HR.out, HN.out]), hb⟩
  · rw [stF_many h8]
    go_enter Tryz.func166, Tryz.ntmps166
    go_wp2
    go_ret
    exact ⟨rfl, Below.refl _ _⟩
end Go.Proofs.YtnnfkmjhaljplaaGreatDoor
namespace Go.Proofs.YtnnfkmjhaljplaaGreatDoor
open Go.RowKit
def sameB (l m : List Int) : Bool := l == m
theorem sameB_str {l m : List Int} (h : B8 l) (h' : B8 m) : ((strOfNums l).toList == (strOfNums m).toList) = sameB l m := by
  unfold sameB
  by_cases e : l = m
  · subst e; simp
  · have h3 : ¬ (strOfNums l).toList = (strOfNums m).toList := by
      intro e2
      rw [Lib.strOfNums_toList, Lib.strOfNums_toList] at e2
      exact e (str_inj h h' (congrArg (fun x => (⟨x.toArray⟩ : ByteArray)) e2))
    rw [beq_eq_false_iff_ne.2 h3, beq_eq_false_iff_ne.2 e]
theorem implSame_any (l m : List Int) (A A' : Option Addr) (c c' : Nat) (w : World) (h : Rd .u8 w w.heap.size A l) (h' : Rd .u8 w w.heap.size A' m) (b : B8 l) (b' : B8 m) :
    Calls Tryz.prog 68 #[.slice A l.length c, .slice A' m.length c'] w fun e w' => e = .returned (.bool (sameB l m)) ∧ w = w' := by
  have e1 := run_str (P := Tryz.prog) c 22 5 Tryz.underlying22 Tryz.underlying5 h 9 Tryz.underlying9
  have e2 := run_str (P := Tryz.prog) c' 22 5 Tryz.underlying22 Tryz.underlying5 h' 9 Tryz.underlying9
  go_enter Tryz.func68, Tryz.ntmps68
  go_wp2
  go_ret
  exact ⟨ret_bool (sameB_str b b'), rfl⟩
end Go.Proofs.YtnnfkmjhaljplaaGreatDoor
