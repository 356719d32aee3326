/- What the laws' walks rest upon, part 7. -/
import Derived.Test.YtnnfkmjhaljplaaGreatDoorChecked
import Derived.WalkKit
import Derived.LaidEql
import Derived.Stop.Asserts
import Derived.RowKitTokens
import Derived.Test.YtnnfkmjhaljplaaGreatDoorM01
import Derived.BigQuiet
import Derived.Stop.LaidErr
import Derived.WalkSmall
import Derived.Test.YtnnfkmjhaljplaaGreatDoorM02
import Derived.Test.YtnnfkmjhaljplaaGreatDoorM04
import Derived.Deep.RegionWith
import Derived.IntWalk
namespace Go.Proofs.YtnnfkmjhaljplaaGreatDoor
open Go.RowKit Go.Extern
/-- An error of errors.New's make. -/
abbrev errV (a : Addr) : Value := .iface 447 (.pointer (some a))
theorem is_typeOf (v : Value) (w : World) : (Extern.ReflectliteType.typeOf #[.iface 447 v]).run Tryz.prog w = .ok (.iface 403 (.agg #[.pointer (some ⟨10, 447, none⟩)])) w := by kernel_rfl
/-- The model's own entry, under a name that the walk leaves closed. -/
noncomputable def cmpFn : Array Value → Sem Value := (Go.Extern.find Tryz.f362).getD fun _ => pure .nilIface
theorem is_comparable (w : World) : (cmpFn #[.agg #[.pointer (some ⟨10, 447, none⟩)]]).run Tryz.prog w = .ok (.bool true) w := by kernel_rfl
theorem is_method (v : Value) (w : World) : (Go.method 580 403 v "Comparable").run Tryz.prog w = .ok (362, v) w := by kernel_rfl
theorem is_comp : (Tryz.prog.info? 447).map (·.comparable) = some true := by kernel_rfl
theorem is_size : (Tryz.prog.info? 469).map (·.size) = some 1 := by kernel_rfl
theorem is_noIs (v : Value) (xT : TypeId) (w : World) : (Instr.typeAssert (.iface 447 v) xT 405 true).run Tryz.prog w = .ok (.tuple #[.nilIface, .bool false]) w := run_typeAssert_lacksB Tryz.underlying405 (by kernel_rfl) (by kernel_rfl) v xT w
theorem is_noUnwrap (v : Value) (xT : TypeId) (w : World) : (Instr.typeAssert (.iface 447 v) xT 408 true).run Tryz.prog w = .ok (.tuple #[.nilIface, .bool false]) w := run_typeAssert_lacksB Tryz.underlying408 (by kernel_rfl) (by kernel_rfl) v xT w
theorem is_noUnwraps (v : Value) (xT : TypeId) (w : World) : (Instr.typeAssert (.iface 447 v) xT 410 true).run Tryz.prog w = .ok (.tuple #[.nilIface, .bool false]) w := run_typeAssert_lacksB Tryz.underlying410 (by kernel_rfl) (by kernel_rfl) v xT w
/-- An error is itself. -/
theorem is_same (a : Addr) (w : World) :
    Calls Tryz.prog 242 #[errV a, errV a] w fun e w' => e = .returned (.bool true) ∧ w' = w := by
  obtain ⟨i, hi, hcmp⟩ := Option.map_eq_some_iff.1 is_comp
  obtain ⟨j, hj, hjs⟩ := Option.map_eq_some_iff.1 is_size
  have h8 := @run_callFunc_extern Tryz.prog 279 _ Extern.ReflectliteType.typeOf Tryz.func279 (by kernel_rfl) (by kernel_rfl) (by kernel_rfl) (by kernel_rfl)
  have h32 := @run_callFunc_extern Tryz.prog 362 _ cmpFn Tryz.func362 (by kernel_rfl) (by kernel_rfl) (by kernel_rfl) (by kernel_rfl)
  have tT := is_typeOf
  have cT := is_comparable
  have mR := is_method
  have heq := run_eql_iface_ptr_same (P := Tryz.prog) w a Tryz.underlying267 Tryz.underlying447 hi hcmp hj
  go_enter Tryz.func242, Tryz.ntmps242
  go_wp2
  refine wp_loop_rounds 1 ?_
  rw [rounds_succ]
  go_wp2
  go_ret
  exact ⟨rfl, rfl⟩
/-- Another error, neither of which wraps one, is not. -/
theorem is_other (a b : Addr) (ca cb : Array Value) (ta tb : TypeId) (w : World) (hne : a ≠ b) (ha : w.heap[a.block]? = some (.cells ca ta (0, 0))) (hb : w.heap[b.block]? = some (.cells cb tb (0, 0))) :
    Calls Tryz.prog 242 #[errV a, errV b] w fun e w' => e = .returned (.bool false) ∧ w' = w := by
  obtain ⟨i, hi, hcmp⟩ := Option.map_eq_some_iff.1 is_comp
  obtain ⟨j, hj, hjs⟩ := Option.map_eq_some_iff.1 is_size
  have h8 := @run_callFunc_extern Tryz.prog 279 _ Extern.ReflectliteType.typeOf Tryz.func279 (by kernel_rfl) (by kernel_rfl) (by kernel_rfl) (by kernel_rfl)
  have h32 := @run_callFunc_extern Tryz.prog 362 _ cmpFn Tryz.func362 (by kernel_rfl) (by kernel_rfl) (by kernel_rfl) (by kernel_rfl)
  have tT := is_typeOf
  have cT := is_comparable
  have mR := is_method
  have nE := is_noIs
  have uE := is_noUnwrap
  have vE := is_noUnwraps
  have heq := run_eql_iface_ptr_other (P := Tryz.prog) w Tryz.underlying267 Tryz.underlying447 hi hcmp hj (by rw [hjs]; decide) hne ha hb
  go_enter Tryz.func242, Tryz.ntmps242
  go_wp2
  refine wp_loop_rounds 1 ?_
  rw [rounds_succ]
  go_wp2
  go_ret
  exact ⟨rfl, rfl⟩
end Go.Proofs.YtnnfkmjhaljplaaGreatDoor
namespace Go.Proofs.YtnnfkmjhaljplaaGreatDoor
open Go.RowKit
/-- The three errors lie as they were laid, apart. -/
structure Sent (aN aS aE : Addr) (w : World) : Prop where
  vN : w.cell? ⟨2, 0, none⟩ = some (errV aN)
  vS : w.cell? ⟨0, 0, none⟩ = some (errV aS)
  vE : w.cell? ⟨1, 0, none⟩ = some (errV aE)
  bN : ∃ c t, w.heap[aN.block]? = some (.cells c t (0, 0))
  bS : ∃ c t, w.heap[aS.block]? = some (.cells c t (0, 0))
  bE : ∃ c t, w.heap[aE.block]? = some (.cells c t (0, 0))
  nNS : aN ≠ aS
  nNE : aN ≠ aE
  nSE : aS ≠ aE
theorem row_lt {w : World} {k : Nat} (h : ∃ c t, w.heap[k]? = some (.cells c t (0, 0))) : k < w.heap.size := by
  obtain ⟨c, t, h⟩ := h
  rcases Nat.lt_or_ge k w.heap.size with a | a
  · exact a
  · rw [Array.getElem?_eq_none a] at h
    exact absurd h (by simp)
theorem Sent.below {aN aS aE : Addr} {w w' : World} (h : Sent aN aS aE w) (hb : Below w.heap.size w w') : Sent aN aS aE w' := by
  have k : ∀ {b : Nat}, (∃ c t, w.heap[b]? = some (.cells c t (0, 0))) → ∃ c t, w'.heap[b]? = some (.cells c t (0, 0)) := fun {b} hx => by
    obtain ⟨c, t, e⟩ := hx
    exact ⟨c, t, (hb.block b (row_lt ⟨c, t, e⟩)).trans e⟩
  exact ⟨cell_kept hb h.vN, cell_kept hb h.vS, cell_kept hb h.vE, k h.bN, k h.bS, k h.bE, h.nNS, h.nNE, h.nSE⟩
theorem Sent.lts {aN aS aE : Addr} {w : World} (h : Sent aN aS aE w) : 2 < w.heap.size ∧ 0 < w.heap.size ∧ 1 < w.heap.size :=
  ⟨block_lt_of_cell h.vN, block_lt_of_cell h.vS, block_lt_of_cell h.vE⟩
/-- Which error a code is told by. -/
def errOf (aN aS aE : Addr) (c : Int) : Addr := if c = 5 then aN else if c = 6 then aS else aE
theorem frameCode_any (aN aS aE : Addr) (c : Int) (w : World) (h : Sent aN aS aE w) (hc : c = 5 ∨ c = 6 ∨ c = 1) :
    Calls Tryz.prog 199 #[errV (errOf aN aS aE c)] w fun e w' => e = .returned (.int .i64 c) ∧ w' = w := by
  have vN := h.vN
  have vS := h.vS
  obtain ⟨cN, tN, bN⟩ := h.bN
  obtain ⟨cS, tS, bS⟩ := h.bS
  obtain ⟨cE, tE, bE⟩ := h.bE
  rcases hc with rfl | rfl | rfl
  · have IS := hide (is_same aN w)
    rw [show errOf aN aS aE 5 = aN from if_pos rfl]
    clear h bN bS bE vS
    go_enter Tryz.func199, Tryz.ntmps199
    go_wp2_with fail
    refine IS.out.mono ?_
    rintro e w' ⟨rfl, rfl⟩
    go_wp2
    go_ret
    exact ⟨rfl, rfl⟩
  · have IS := hide (is_other aS aN cS cN tS tN w (Ne.symm h.nNS) bS bN)
    have IT := hide (is_same aS w)
    rw [show errOf aN aS aE 6 = aS from rfl]
    clear h bN bS bE
    go_enter Tryz.func199, Tryz.ntmps199
    go_wp2_with fail
    refine IS.out.mono ?_
    rintro e w' ⟨rfl, rfl⟩
    go_wp2_with fail
    refine IT.out.mono ?_
    rintro e w' ⟨rfl, rfl⟩
    go_wp2
    go_ret
    exact ⟨rfl, rfl⟩
  · have IS := hide (is_other aE aN cE cN tE tN w (Ne.symm h.nNE) bE bN)
    have IT := hide (is_other aE aS cE cS tE tS w (Ne.symm h.nSE) bE bS)
    rw [show errOf aN aS aE 1 = aE from rfl]
    clear h bN bS bE
    go_enter Tryz.func199, Tryz.ntmps199
    go_wp2_with fail
    refine IS.out.mono ?_
    rintro e w' ⟨rfl, rfl⟩
    go_wp2_with fail
    refine IT.out.mono ?_
    rintro e w' ⟨rfl, rfl⟩
    go_wp2
    go_ret
    exact ⟨rfl, rfl⟩
end Go.Proofs.YtnnfkmjhaljplaaGreatDoor
namespace Go.Proofs.YtnnfkmjhaljplaaGreatDoor
open Go.RowKit Go.ChangeShapes
/-- Three errors on the list: where they lie, and that they lie apart. -/
theorem laid_errors3 {P : Program} {n0 n1 n2 nm : String} {text0 text1 text2 : List UInt8} {r : List (String × DataW Unit)} {W : World} {g0 g1 g2 : Nat} {ti tp te ts : TypeId} {ms : Array (String × TypeId)} {f : Field}
    (h : laidMet P ((n0, .iface nm (.ptr (.agg [.lit (.string text0)]))) :: (n1, .iface nm (.ptr (.agg [.lit (.string text1)]))) :: (n2, .iface nm (.ptr (.agg [.lit (.string text2)]))) :: r) W)
    (hg0 : P.globalNamed n0 = some g0) (ht0 : (P.globals[g0]?).map (·.type) = some ti) (hg1 : P.globalNamed n1 = some g1) (ht1 : (P.globals[g1]?).map (·.type) = some ti) (hg2 : P.globalNamed n2 = some g2) (ht2 : (P.globals[g2]?).map (·.type) = some ti)
    (hi : P.underlying ti = some (.interface ms)) (hrow : ∀ u, P.typeName? 3 u = some nm → u = tp)
    (hp : P.underlying tp = some (.pointer te)) (he : P.underlying te = some (.struct #[f])) (hft : f.type = ts) (hfo : f.offset = 0) (hs : P.underlying ts = some .string) (hc : P.cellsOf te = 1) (hcs : P.cellsOf ts = 1) :
    ∃ (a0 a1 a2 : Addr), (W.var? P n0 = some #[.iface tp (.pointer (some a0))] ∧ W.var? P n1 = some #[.iface tp (.pointer (some a1))] ∧ W.var? P n2 = some #[.iface tp (.pointer (some a2))]) ∧
      ((∃ c t, W.heap[a0.block]? = some (.cells c t (0, 0))) ∧ (∃ c t, W.heap[a1.block]? = some (.cells c t (0, 0))) ∧ ∃ c t, W.heap[a2.block]? = some (.cells c t (0, 0))) ∧ a0 ≠ a1 ∧ a0 ≠ a2 ∧ a1 ≠ a2 := by
  obtain ⟨ps, ⟨g0', t0', cs0, f0, p0, q0, hg0', ht0', hv0, hd0, ⟨g1', t1', cs1, f1, p1, q1, hg1', ht1', hv1, hd1, ⟨g2', t2', cs2, f2, p2, q2, hg2', ht2', hv2, hd2, _, e2⟩, e1⟩, e0⟩, hnd, hrows⟩ := h
  obtain rfl := Option.some.inj (hg0.symm.trans hg0')
  obtain rfl := Option.some.inj (hg1.symm.trans hg1')
  obtain rfl := Option.some.inj (hg2.symm.trans hg2')
  obtain rfl := Option.some.inj (ht0.symm.trans ht0')
  obtain rfl := Option.some.inj (ht1.symm.trans ht1')
  obtain rfl := Option.some.inj (ht2.symm.trans ht2')
  subst e2
  subst e1
  subst e0
  obtain ⟨l0⟩ := cs0
  obtain ⟨l1⟩ := cs1
  obtain ⟨l2⟩ := cs2
  have ok0 : ∀ u v, l0 = [.iface u v] → Value.okWide P W .any 0 u v := fun u v e => by
    subst e
    exact (hrows g0 0 (by simp [MemPlace.row])).2 u v (by simpa using World.var?_cell hg0' hv0 0)
  have ok1 : ∀ u v, l1 = [.iface u v] → Value.okWide P W .any 0 u v := fun u v e => by
    subst e
    exact (hrows g1 0 (by simp [MemPlace.row])).2 u v (by simpa using World.var?_cell hg1' hv1 0)
  have ok2 : ∀ u v, l2 = [.iface u v] → Value.okWide P W .any 0 u v := fun u v e => by
    subst e
    exact (hrows g2 0 (by simp [MemPlace.row])).2 u v (by simpa using World.var?_cell hg2' hv2 0)
  obtain ⟨a0, s0, rfl, hc0, hs0, hz0, rfl⟩ := errorString_of_trod hi hrow hp he hft hfo hs hc hcs hd0 ok0
  obtain ⟨a1, s1, rfl, hc1, hs1, hz1, rfl⟩ := errorString_of_trod hi hrow hp he hft hfo hs hc hcs hd1 ok1
  obtain ⟨a2, s2, rfl, hc2, hs2, hz2, rfl⟩ := errorString_of_trod hi hrow hp he hft hfo hs hc hcs hd2 ok2
  refine ⟨a0, a1, a2, ⟨hv0, hv1, hv2⟩, ⟨(hrows a0.block a0.off (by simp [MemPlace.row])).1, (hrows a1.block a1.off (by simp [MemPlace.row])).1, (hrows a2.block a2.off (by simp [MemPlace.row])).1⟩, ?_, ?_, ?_⟩
  · rintro rfl
    simp [MemPlace.row] at hnd
  · rintro rfl
    simp [MemPlace.row] at hnd
  · rintro rfl
    simp [MemPlace.row] at hnd
/-- A variable of an interface type, ahead of others. -/
theorem vars_token {H : Type} (enc : TypeId × Value → H) {P : Program} {W : World} {n : String} {g : Nat} {ti : TypeId} {ms : Array (String × TypeId)} {x : Value}
    (hg : P.globalNamed n = some g) (ht : (P.globals[g]?).map (·.type) = some ti) (hi : P.underlying ti = some (.interface ms)) (h : W.var? P n = some #[x]) (ix : IsIface x) (sp : Nat → Bool)
    {ns : List String} {ds : List (DataW H)} {q : List MemPlace} (hr : DataW.TrodVars enc P W sp ns ds q) :
    DataW.TrodVars enc P W sp (n :: ns) (tok enc x :: ds) (.cell g 0 :: q) :=
  ⟨g, ti, #[x], 1, [], q, hg, ht, h, trod_held hi ix 0, hr, rfl⟩
/-- Named variables, parted at the first; and joined. -/
theorem vars_split {H : Type} {enc : TypeId × Value → H} {P : Program} {w : World} {sp : Nat → Bool} {n : String} {ns : List String} {gs : List (DataW H)} {ps : List MemPlace} (h : DataW.TrodVars enc P w sp (n :: ns) gs ps) :
    ∃ d ds q1 q2, gs = d :: ds ∧ DataW.TrodVars enc P w sp [n] [d] q1 ∧ DataW.TrodVars enc P w sp ns ds q2 := by
  cases gs with
  | nil => exact h.elim
  | cons d ds =>
    obtain ⟨g, t, cs, fuel, p, q, h1, h2, h3, h4, hs, _⟩ := h
    exact ⟨d, ds, _, q, rfl, ⟨g, t, cs, fuel, p, [], h1, h2, h3, h4, rfl, rfl⟩, hs⟩
theorem vars_join {H : Type} {enc : TypeId × Value → H} {P : Program} {w : World} {sp : Nat → Bool} {n : String} {ns : List String} {d : DataW H} {ds : List (DataW H)} {q1 q2 : List MemPlace} (h1 : DataW.TrodVars enc P w sp [n] [d] q1) (h2 : DataW.TrodVars enc P w sp ns ds q2) :
    ∃ q, DataW.TrodVars enc P w sp (n :: ns) (d :: ds) q := by
  obtain ⟨g, t, cs, fuel, p, _, k1, k2, k3, k4, _, _⟩ := h1
  exact ⟨_, g, t, cs, fuel, p, q2, k1, k2, k3, k4, h2, rfl⟩
end Go.Proofs.YtnnfkmjhaljplaaGreatDoor
namespace Go.Proofs.YtnnfkmjhaljplaaGreatDoor
open Go.RowKit
set_option maxHeartbeats 400000 in
theorem implRead_any (l : List Int) (A : Option Addr) (c : Nat) (w : World) (hm : l.length ≤ 1048576) (hcap : l.length ≤ c) (hR : Rd .u8 w w.heap.size A l) (b8 : B8 l) :
    Calls Tryz.prog 276 #[.slice A l.length c] w fun e w' => e = .returned (.agg #[.int .i64 (rdC l), .int .i64 (rdV l), .int .i64 (rdZ l)]) ∧ Below w.heap.size w w' := by
  by_cases h9 : l.length ≤ 9
  · go_enter Tryz.func276, Tryz.ntmps276
    go_wp2
    go_loop [3, 12] (fun v i => ∃ j : Nat, j ≤ l.length ∧ i = .int .i64 j ∧ v = .int .i64 (valL (l.take j)) ∧ Cont l j) (fun _ i => l.length - (intOf i).toNat)
    case atStart => exact ⟨0, by omega, rfl, rfl, Cont.zero l⟩
    case round =>
      obtain ⟨j, hj, rfl, rfl, hcon⟩ := hrel
      by_cases hlt : j < l.length
      · obtain ⟨b, off, rfl, hbb, hc⟩ := hR.get hlt
        obtain ⟨hb0, hb1⟩ := b8.get j hlt
        go_wp2
        · go_round
          case rel => exact ⟨j + 1, by omega, by go_num, by rw [or_take b8 j (by omega) (by omega)], hcon.step (by omega) (by assumption)⟩
          case measure => simp [intOf]; omega
        · have R := rd_zero (l := l) (by omega) hcon (by assumption) (by assumption)
          go_returns
          rw [R.1, R.2.1, R.2.2]
          exact ⟨rfl, by go_grown⟩
        · have R := rd_at (l := l) (by omega) hcon (by assumption) (by omega) (.inl (by omega))
          go_returns
          rw [R.1, R.2.1, R.2.2, or_take0 b8 j (by omega) (by omega) (by assumption)]
          exact ⟨rfl, by go_grown⟩
        · have R := rd_at (l := l) (by omega) hcon (by assumption) (by omega) (.inr (by assumption))
          go_returns
          rw [R.1, R.2.1, R.2.2, or_take b8 j (by omega) (by omega)]
          exact ⟨rfl, by go_grown⟩
      · go_wp2
        go_returns
        have R := rd_end (by omega) hcon (.inl (by omega))
        rw [R.1, R.2.1, R.2.2]
        exact ⟨rfl, by go_grown⟩
  · go_enter Tryz.func276, Tryz.ntmps276
    go_wp2
    go_loop [3, 12] (fun v i => ∃ j : Nat, j ≤ 9 ∧ i = .int .i64 j ∧ v = .int .i64 (valL (l.take j)) ∧ Cont l j) (fun _ i => 9 - (intOf i).toNat)
    case atStart => exact ⟨0, by omega, rfl, rfl, Cont.zero l⟩
    case round =>
      obtain ⟨j, hj, rfl, rfl, hcon⟩ := hrel
      by_cases hlt : j < 9
      · obtain ⟨b, off, rfl, hbb, hc⟩ := hR.get (i := j) (by omega)
        obtain ⟨hb0, hb1⟩ := b8.get j (by omega)
        go_wp2
        · go_round
          case rel => exact ⟨j + 1, by omega, by go_num, by rw [or_take b8 j (by omega) (by omega)], hcon.step (by omega) (by assumption)⟩
          case measure => simp [intOf]; omega
        · have R := rd_zero (l := l) (by omega) hcon (by assumption) (by assumption)
          go_returns
          rw [R.1, R.2.1, R.2.2]
          exact ⟨rfl, by go_grown⟩
        · have R := rd_at (l := l) (by omega) hcon (by assumption) (by omega) (.inl (by omega))
          go_returns
          rw [R.1, R.2.1, R.2.2, or_take0 b8 j (by omega) (by omega) (by assumption)]
          exact ⟨rfl, by go_grown⟩
        · have R := rd_at (l := l) (by omega) hcon (by assumption) (by omega) (.inr (by assumption))
          go_returns
          rw [R.1, R.2.1, R.2.2, or_take b8 j (by omega) (by omega)]
          exact ⟨rfl, by go_grown⟩
      · go_wp2
        go_returns
        have R := rd_end (by omega) hcon (.inr (by omega))
        rw [R.1, R.2.1, R.2.2]
        exact ⟨rfl, by go_grown⟩
end Go.Proofs.YtnnfkmjhaljplaaGreatDoor
namespace Go.Proofs.YtnnfkmjhaljplaaGreatDoor
open Go.RowKit
set_option maxHeartbeats 800000 in
theorem l1Read_any (l : List Int) (A : Option Addr) (c : Nat) (w : World) (hm : l.length ≤ 1048576) (hcap : l.length ≤ c) (hR : Rd .u8 w w.heap.size A l) (b8 : B8 l) :
    Calls Tryz.prog 292 #[.slice A l.length c] w fun e w' => e = .returned (.tuple #[.int .i64 (rdV l), .int .i64 (rdZ l)]) ∧ Below w.heap.size w w' := by
  go_enter Tryz.func292, Tryz.ntmps292
  go_wp2
  go_loop [4] (fun i => ∃ j : Nat, j ≤ l.length ∧ j ≤ 9 ∧ i = .int .i64 j ∧ Cont l j) (fun i => l.length - (intOf i).toNat)
  case atStart => exact ⟨0, by omega, by omega, rfl, Cont.zero l⟩
  case round =>
    obtain ⟨j, hj, hj9, rfl, hcon⟩ := hrel
    by_cases hlt : j < l.length
    · by_cases h9 : j < 9
      · obtain ⟨b, off, rfl, hbb, hc⟩ := hR.get hlt
        obtain ⟨hb0, hb1⟩ := b8.get j hlt
        by_cases hgo : 128 ≤ l[j]
        · go_wp2
          go_round
          case rel => exact ⟨j + 1, by omega, by omega, by go_num, hcon.step hlt hgo⟩
          case measure => simp [intOf]; omega
        · go_wp2
          have b9 : decide ((9 : Int) ≤ (j : Int)) = false := by simp; omega
          rw [b9]
          go_loop [5, 6] (fun v i => ∃ q : Nat, q ≤ j + 1 ∧ i = .int .i64 ((q : Int) - 1) ∧ v = .int .i64 (segV l j q)) (fun _ i => (intOf i + 1).toNat)
          case atStart => exact ⟨j + 1, by omega, by go_num, by rw [segV_end]⟩
          case round =>
            obtain ⟨q, hq, rfl, rfl⟩ := hrel
            by_cases h0 : q = 0
            · subst h0
              go_wp2
              have hV0 := segV_nonneg b8 j 0
              have hV1 := segV_max b8 j (by omega) (by omega)
              have E0 := hide (fun (W : World) (hB : Below w.heap.size w W) => run_str_take (P := Tryz.prog) c 22 5 Tryz.underlying22 Tryz.underlying5 (hR.below hB) (j + 1) (by omega) 9 Tryz.underlying9)
              have p0 := E0.out w.drew (Below.refl _ _).drew
              by_cases hz : 0 < j ∧ l[j] = 0
              · have t1 : ((strOfNums (putL (segV l j 0))).toList == (strOfNums (l.take (j + 1))).toList) = false := by
                  rw [sameB_str (putL_B8 _ _ hV0 (Nat.le_refl _)) (b8.take _), segV_all]
                  exact beq_eq_false_iff_ne.2 (rd_put_not hlt b8 hcon hz.1 hz.2)
                have R := rd_zero hlt hcon hz.2 hz.1
                have HR := hide R
                clear R hz
                have s0 : (0 : Int) ≤ (j : Int) + 1 := by omega
                have s1 : (j : Int) + 1 ≤ (c : Int) := by omega
                have s2 : IntKind.i64.wrap ((j : Int) + 1) = (j : Int) + 1 := IntWalk.i64_in _ (by omega)
                have s3 : ((j : Int) + 1).toNat = j + 1 := by omega
                go_region_with (go_at_call 239; refine (l1Put_any (segV l j 0) _ hV0 hV1).mono ?_; rintro e w1 ⟨A2, c2, rfl, ho2, hb2⟩; have hB1 : Below w.heap.size w w1 := (Below.refl _ _).drew.trans hb2; have q0 := E0.out w1 hB1; have q1 := run_str (P := Tryz.prog) c2 22 5 Tryz.underlying22 Tryz.underlying5 (Rd.of_own ho2) 9 Tryz.underlying9)
                all_goals
                  clear p0 q0 q1 s0 s1 s2 s3
                  go_wp2
                  go_ret2
                  rw [HR.out.2.1, HR.out.2.2]
                  exact ⟨rfl, hB1⟩
              · have t1 : ((strOfNums (putL (segV l j 0))).toList == (strOfNums (l.take (j + 1))).toList) = true := by
                  rw [sameB_str (putL_B8 _ _ hV0 (Nat.le_refl _)) (b8.take _), segV_all]
                  exact beq_iff_eq.2 (rd_put hlt b8 hcon (by omega) (by omega))
                have R := rd_at hlt hcon (by omega) h9 (by omega)
                rw [← segV_all] at R
                have HR := hide R
                clear R hz
                have s0 : (0 : Int) ≤ (j : Int) + 1 := by omega
                have s1 : (j : Int) + 1 ≤ (c : Int) := by omega
                have s2 : IntKind.i64.wrap ((j : Int) + 1) = (j : Int) + 1 := IntWalk.i64_in _ (by omega)
                have s3 : ((j : Int) + 1).toNat = j + 1 := by omega
                go_region_with (go_at_call 239; refine (l1Put_any (segV l j 0) _ hV0 hV1).mono ?_; rintro e w1 ⟨A2, c2, rfl, ho2, hb2⟩; have hB1 : Below w.heap.size w w1 := (Below.refl _ _).drew.trans hb2; have q0 := E0.out w1 hB1; have q1 := run_str (P := Tryz.prog) c2 22 5 Tryz.underlying22 Tryz.underlying5 (Rd.of_own ho2) 9 Tryz.underlying9)
                all_goals
                  clear p0 q0 q1 s0 s1 s2 s3
                  go_wp2
                  go_ret2
                  rw [HR.out.2.1, HR.out.2.2]
                  exact ⟨rfl, hB1⟩
            · obtain ⟨r, rfl⟩ : ∃ r, q = r + 1 := ⟨q - 1, by omega⟩
              obtain ⟨b', off', hA', hbb', hc'⟩ := hR.get (i := r) (by omega)
              simp only [Option.some.injEq, Addr.mk.injEq, and_true] at hA'
              obtain ⟨rfl, rfl⟩ := hA'
              obtain ⟨hr0, hr1⟩ := b8.get r (by omega)
              have hv0 := segV_nonneg b8 j (r + 1)
              have hv1 := segV_lt l j (r + 1) (by omega) (by omega)
              go_wp2
              go_round
              case rel => exact ⟨r, by omega, by go_num, by rw [segV_step l j r (by omega) (by omega)]⟩
              case measure => simp [intOf]
      · go_wp2
        go_ret2
        have R := rd_end hj hcon (.inr (by omega))
        rw [R.2.1, R.2.2]
        exact ⟨rfl, Below.refl _ _⟩
    · go_wp2
      go_ret2
      have R := rd_end hj hcon (.inl (by omega))
      rw [R.2.1, R.2.2]
      exact ⟨rfl, Below.refl _ _⟩
end Go.Proofs.YtnnfkmjhaljplaaGreatDoor
