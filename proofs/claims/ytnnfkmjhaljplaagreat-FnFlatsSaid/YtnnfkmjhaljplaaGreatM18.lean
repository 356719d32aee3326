/- What the laws' walks rest upon, part 18. -/
import Derived.Test.YtnnfkmjhaljplaaGreatM16
import Derived.WalkKit
import Derived.Test.YtnnfkmjhaljplaaGreatM15
import Derived.Test.YtnnfkmjhaljplaaGreatM08
import Derived.OneCell
import Derived.Test.YtnnfkmjhaljplaaGreatM17
import Derived.Deep.RegionHeld3
import Derived.Deep.DeepCutAuto
namespace Go.Proofs.YtnnfkmjhaljplaaGreat
open Go.RowKit
/-- A line as a state. -/
def liV (x : Ev) : Value := if x.k = 1 then .iface 164 (.agg #[.int .i64 x.a, .int .i64 x.v]) else if x.k = 2 then .iface 165 (.agg #[.int .i64 x.a, .int .i64 x.v]) else .iface 167 (.agg #[])
theorem liV_1 {x : Ev} (h : x.k = 1) : liV x = .iface 164 (.agg #[.int .i64 x.a, .int .i64 x.v]) := if_pos h
theorem liV_2 {x : Ev} (h : x.k = 2) : liV x = .iface 165 (.agg #[.int .i64 x.a, .int .i64 x.v]) := by unfold liV; rw [if_neg (by omega), if_pos h]
theorem liV_0 {x : Ev} (h : x.k = 0) : liV x = .iface 167 (.agg #[]) := by unfold liV; rw [if_neg (by omega), if_neg (by omega)]
def lnsV (l : List Ev) : List Value := l.map liV
def cchV (pm : Nat) : List Value → List Value
  | [] => []
  | u :: r => u :: .pointer (some ⟨pm, 0, none⟩) :: cchV pm r
theorem cchV_get (pm : Nat) : ∀ (us : List Value) (i : Nat) (h : i < us.length), (cchV pm us)[i * 2]? = some us[i] ∧ (cchV pm us)[i * 2 + 1]? = some (.pointer (some ⟨pm, 0, none⟩))
  | [], i, h => absurd h (Nat.not_lt_zero _)
  | u :: r, 0, _ => ⟨rfl, rfl⟩
  | u :: r, i + 1, h => by
    have ih := cchV_get pm r i (by simpa using h)
    rw [show (i + 1) * 2 = i * 2 + 1 + 1 by omega]
    simp only [cchV, List.getElem?_cons_succ, List.getElem_cons_succ]
    exact ih
/-- A bus: base bounds its blocks from below; its caches lie in gv, its memory's cell in pm. -/
structure Bus (w : World) (base gv c pm : Nat) (m : Mac) (vm : Value) (us : List Value) : Prop where
  row : w.ownsRow base 127 2 (.slice (some ⟨gv, 0, none⟩) m.cs.length c) m.cs.length (cchV pm us)
  len : us.length = m.cs.length
  rows : ∀ (i : Nat) (u : Value) (h : i < m.cs.length), us[i]? = some u → w.ownsRow base 131 1 u m.cs[i].length (lnsV m.cs[i])
  mem : w.ownsRow base 139 2 vm m.mem.length (cels m.mem)
  cell : Bk w pm #[vm] 123
  pmg : base ≤ pm
  apart : ∀ (i j : Nat) (u u' : Value), i ≠ j → us[i]? = some u → us[j]? = some u' → ∀ b, u.ownBlock = some b → u'.ownBlock ≠ some b
  far : ∀ u ∈ us, ∀ b, u.ownBlock = some b → b ≠ gv ∧ b ≠ pm ∧ vm.ownBlock ≠ some b
  farM : pm ≠ gv ∧ vm.ownBlock ≠ some gv ∧ vm.ownBlock ≠ some pm
/-- The blocks that it turns. -/
def BusS (pm : Nat) (vm : Value) (us : List Value) (k : Nat) : Prop := k = pm ∨ vm.ownBlock = some k ∨ ∃ u ∈ us, u.ownBlock = some k
section
variable {w w' : World} {base gv c pm n L : Nat} {m : Mac} {vm vm' : Value} {us : List Value}
theorem Bus.gv_lt (h : Bus w base gv c pm m vm us) : base ≤ gv ∧ gv < w.heap.size := h.row.lt gv rfl
theorem Bus.low (h : Bus w base gv c pm m vm us) {k : Nat} (hk : BusS pm vm us k) : base ≤ k ∧ k < w.heap.size := by
  rcases hk with rfl | e | ⟨u, hu, e⟩
  · exact ⟨h.pmg, h.cell.lt⟩
  · exact h.mem.lt k e
  · obtain ⟨i, hi, rfl⟩ := List.getElem_of_mem hu
    exact (h.rows i _ (by rw [← h.len]; exact hi) (List.getElem?_eq_getElem hi)).lt k e
/-- What the bus does not turn is turned: it stays. -/
theorem Bus.but {S : Nat → Prop} (h : Bus w base gv c pm m vm us) (hb : But S w w') (hs : ∀ k, S k → ¬ BusS pm vm us k ∧ k ≠ gv) : Bus w' base gv c pm m vm us :=
  ⟨hb.own h.row fun b e hS => by cases e; exact (hs gv hS).2 rfl, h.len, fun i u hi hu => hb.own (h.rows i u hi hu) fun b e hS => (hs b hS).1 (.inr (.inr ⟨u, List.mem_of_getElem? hu, e⟩)),
   hb.own h.mem fun b e hS => (hs b hS).1 (.inr (.inl e)), hb.bk h.cell fun hS => (hs pm hS).1 (.inl rfl), h.pmg, h.apart, h.far, h.farM⟩
theorem Bus.below (h : Bus w base gv c pm m vm us) (hb : Below w.heap.size w w') : Bus w' base gv c pm m vm us := h.but (S := fun _ => False) (But.of_below hb) (fun _ e => e.elim)
theorem Bus.alloc (h : Bus w base gv c pm m vm us) (o : Obj) : Bus (w.alloc o) base gv c pm m vm us := h.below ((Below.refl _ _).alloc (Nat.le_refl _) o)
/-- The memory is another one. -/
theorem Bus.wrote (h : Bus w base gv c pm m vm us) {mem' : List Cel} {e : Ending} (hp : WrPost base pm vm mem' w e w') : ∃ vm', e = .returned (.tuple #[]) ∧ Bus w' base gv c pm ⟨m.cs, mem'⟩ vm' us ∧ Moved vm vm' w ∧ But (BusS pm vm us) w w' := by
  obtain ⟨v', he, hk, ho, hm, hne, hb⟩ := hp
  have hlt : ∀ b, vm.ownBlock = some b → b < w.heap.size := fun b e => (h.mem.lt b e).2
  have hfarv : ∀ b, b < w.heap.size → vm.ownBlock ≠ some b → v'.ownBlock ≠ some b := fun b hb1 hb2 e => by
    rcases hm with e2 | ⟨x, e2, hx⟩
    · rw [e2] at e; exact hb2 e
    · rw [e2] at e; simp only [Option.some.injEq] at e; omega
  refine ⟨v', he, ⟨hb.own h.row fun b e hS => ?_, h.len, fun i u hi hu => hb.own (h.rows i u hi hu) fun b e hS => ?_, ho, hk, h.pmg, h.apart, fun u hu b e => ?_, h.farM.1, hfarv gv h.gv_lt.2 h.farM.2.1, hne⟩, hm, hb.mono fun x _ hx => ?_⟩
  · cases e
    rcases hS with e | e
    · exact h.farM.1 e.symm
    · exact h.farM.2.1 e
  · have hf := h.far u (List.mem_of_getElem? hu) b e
    rcases hS with e2 | e2
    · exact hf.2.1 e2
    · exact hf.2.2 e2
  · have hf := h.far u hu b e
    exact ⟨hf.1, hf.2.1, hfarv b (h.low (.inr (.inr ⟨u, hu, e⟩))).2 hf.2.2⟩
  · rcases hx with e | e
    · exact .inl e
    · exact .inr (.inl e)
theorem Bus.get (h : Bus w base gv c pm m vm us) (hs : Shp7 n L m.cs) (hL : 0 < L) {i : Nat} (hi : i < n) : ∃ b cu, us[i]? = some (.slice (some ⟨b, 0, none⟩) L cu) ∧ L ≤ cu ∧ cu ≤ maxLen ∧ base ≤ b ∧ b < w.heap.size ∧ w.cell? ⟨gv, i * 2, none⟩ = some (.slice (some ⟨b, 0, none⟩) L cu) ∧ w.cell? ⟨gv, i * 2 + 1, none⟩ = some (.pointer (some ⟨pm, 0, none⟩)) ∧ w.ownsRow base 131 1 (.slice (some ⟨b, 0, none⟩) L cu) L (lnsV (m.cs.getD i [])) := by
  have hi' : i < m.cs.length := by rw [hs.1]; exact hi
  have hiu : i < us.length := by rw [h.len]; exact hi'
  have ho := h.rows i _ hi' (List.getElem?_eq_getElem hiu)
  have hLi : m.cs[i].length = L := hs.2 _ (List.getElem_mem hi')
  rw [hLi] at ho
  obtain ⟨b, cu, cur, hu, hbb, hbk, hLc, hcm, _, _⟩ := own_open ho hL
  obtain ⟨g1, g2⟩ := cchV_get pm us i hiu
  refine ⟨b, cu, by rw [List.getElem?_eq_getElem hiu, hu], hLc, hcm, hbb, (show Bk w b cur _ from hbk).lt, ?_, ?_, ?_⟩
  · rw [h.row.cellAt (i * 2) (by omega), g1, hu]
  · rw [h.row.cellAt (i * 2 + 1) (by omega), g2]
  · rw [← hu, show m.cs.getD i [] = m.cs[i] by simp [hi']]
    exact ho
theorem lnsV_get {l : List Ev} {k : Nat} (hk : k < l.length) : (lnsV l)[k]? = some (liV (l.getD k lnZ)) := by
  unfold lnsV
  rw [List.getElem?_map, List.getElem?_eq_getElem hk]
  simp [hk]
/-- One line, read. -/
theorem Bus.line (h : Bus w base gv c pm m vm us) (hs : Shp7 n L m.cs) {i k : Nat} (hi : i < n) (hk : k < L) {b cu : Nat} (hu : us[i]? = some (.slice (some ⟨b, 0, none⟩) L cu)) : w.cell? ⟨b, k, none⟩ = some (liV (ln m.cs i k)) ∧ w.frozen? ⟨b, k, none⟩ = false := by
  have hi' : i < m.cs.length := by rw [hs.1]; exact hi
  have ho := h.rows i _ hi' hu
  rw [hs.2 _ (List.getElem_mem hi')] at ho
  refine ⟨?_, ho.frozenAt k⟩
  rw [ho.cellAt k (by omega), lnsV_get (by rw [hs.2 _ (List.getElem_mem hi')]; exact hk)]
  unfold ln
  rw [show m.cs.getD i [] = m.cs[i] by simp [hi']]
/-- One line, put. -/
theorem Bus.put (h : Bus w base gv c pm m vm us) (hs : Shp7 n L m.cs) {i k : Nat} (hi : i < n) {b cu : Nat} (hu : us[i]? = some (.slice (some ⟨b, 0, none⟩) L cu)) (y : Ev) : Bus (w.setCell ⟨b, k, none⟩ (liV y)) base gv c pm ⟨setL m.cs i k y, m.mem⟩ vm us ∧ But (BusS pm vm us) w (w.setCell ⟨b, k, none⟩ (liV y)) := by
  have hi' : i < m.cs.length := by rw [hs.1]; exact hi
  have hum := List.mem_of_getElem? hu
  have hf := h.far _ hum b rfl
  have ho := h.rows i _ hi' hu
  have hLi : m.cs[i].length = L := hs.2 _ (List.getElem_mem hi')
  rw [hLi] at ho
  have hst := ho.stored k (liV y)
  have hgr := grown_set w b k (liV y)
  have hB : But (fun x => x = b) w (w.setCell ⟨b, k, none⟩ (liV y)) := But.of_grown hgr fun x e => by cases e; rfl
  have hlen : (setL m.cs i k y).length = m.cs.length := setL_length _ _ _ _
  refine ⟨⟨?_, by simp only [hlen]; exact h.len, fun j u hj huj => ?_, hB.own h.mem fun x e hx => hf.2.2 (by rw [e, hx]), hB.bk h.cell fun e => hf.2.1 e.symm, h.pmg, h.apart, h.far, h.farM⟩, But.of_grown hgr fun x e => by cases e; exact .inr (.inr ⟨_, hum, rfl⟩)⟩
  · simp only [hlen]
    exact hB.own h.row fun x e hx => by cases e; exact hf.1 hx.symm
  · simp only [hlen] at hj
    have hjl : j < m.cs.length := hj
    by_cases hji : j = i
    · subst hji
      rw [hu] at huj
      cases huj
      have e : (setL m.cs j k y)[j]'(by rw [hlen]; exact hjl) = m.cs[j].set k y := by
        unfold setL
        rw [List.getElem_set_self, show m.cs.getD j [] = m.cs[j] by simp [hjl]]
      simp only [e, List.length_set, hLi]
      have e2 : lnsV (m.cs[j].set k y) = (lnsV m.cs[j]).set k (liV y) := by unfold lnsV; rw [List.map_set]
      rw [e2]
      exact hst.1
    · have e : (setL m.cs i k y)[j]'(by rw [hlen]; exact hjl) = m.cs[j] := by
        unfold setL
        rw [List.getElem_set_ne (fun e => hji e.symm)]
      simp only [e]
      exact hB.own (h.rows j u hjl huj) fun x ex hx => h.apart i j _ _ (fun e => hji e.symm) hu huj b rfl (by rw [ex, hx])
/-- It turns on in its own blocks. -/
theorem BusS.moved {k : Nat} (hm : Moved vm vm' w) (hk : BusS pm vm' us k) : BusS pm vm us k ∨ w.heap.size ≤ k := by
  rcases hk with e | e | e
  · exact .inl (.inl e)
  · rcases hm with e2 | ⟨x, e2, hx⟩
    · exact .inl (.inr (.inl (by rw [← e2]; exact e)))
    · rw [e2] at e; cases e; exact .inr hx
  · exact .inl (.inr (.inr e))
end
end Go.Proofs.YtnnfkmjhaljplaaGreat
namespace Go.Proofs.YtnnfkmjhaljplaaGreat
open Go.RowKit
theorem place_any (A : Option Addr) (L c : Nat) (a : Int) (w : World) (hL : 1 ≤ L ∧ L ≤ 1000) (ha : 0 ≤ a) :
    Calls Tryz.prog 80 #[.slice A L c, .int .i64 a] w fun e w' => e = .returned (.int .i64 (a % (L : Int))) ∧ w = w' := by
  obtain ⟨hL1, hL2⟩ := hL
  have ht : a.tmod (L : Int) = a % (L : Int) := Int.tmod_eq_emod_of_nonneg ha
  have hr0 := Int.emod_nonneg a (show (L : Int) ≠ 0 by omega)
  have hr1 := Int.emod_lt_of_pos a (show (0 : Int) < (L : Int) by omega)
  go_enter Tryz.func80, Tryz.ntmps80
  go_wp2
  go_ret
  first | exact ⟨rfl, rfl⟩ | exact ⟨by simp [ht], rfl⟩
theorem at_any (b L c k : Nat) (a : Int) (x : Value) (w : World) (hL : 1 ≤ L ∧ L ≤ 1000) (ha : 0 ≤ a) (hk : a % (L : Int) = (k : Int)) (hx : w.cell? ⟨b, k, none⟩ = some x) :
    Calls Tryz.prog 57 #[.slice (some ⟨b, 0, none⟩) L c, .int .i64 a] w fun e w' => e = .returned x ∧ w = w' := by
  have hr1 := Int.emod_lt_of_pos a (show (0 : Int) < (L : Int) by omega)
  rw [hk] at hr1
  have PL := place_any (some ⟨b, 0, none⟩) L c a w hL ha
  rw [hk] at PL
  have HP := hide PL
  have hk0 : (0 : Int) ≤ (k : Int) := by omega
  clear PL hk
  go_enter Tryz.func57, Tryz.ntmps57
  go_wp2_with fail
  refine HP.out.mono ?_
  rintro e w1 ⟨rfl, rfl⟩
  go_wp2
  go_ret
  exact ⟨rfl, rfl⟩
theorem put_any (b L c k : Nat) (a : Int) (T : TypeId) (V x : Value) (w : World) (hL : 1 ≤ L ∧ L ≤ 1000) (ha : 0 ≤ a) (hk : a % (L : Int) = (k : Int)) (hx : w.cell? ⟨b, k, none⟩ = some x) (hf : w.frozen? ⟨b, k, none⟩ = false) :
    Calls Tryz.prog 82 #[.slice (some ⟨b, 0, none⟩) L c, .int .i64 a, .iface T V] w fun e w' => e = .returned (.tuple #[]) ∧ w' = w.setCell ⟨b, k, none⟩ (.iface T V) := by
  have hr1 := Int.emod_lt_of_pos a (show (0 : Int) < (L : Int) by omega)
  rw [hk] at hr1
  have PL := place_any (some ⟨b, 0, none⟩) L c a w hL ha
  rw [hk] at PL
  have HP := hide PL
  have hk0 : (0 : Int) ≤ (k : Int) := by omega
  clear PL hk
  go_enter Tryz.func82, Tryz.ntmps82
  go_wp2_with fail
  refine HP.out.mono ?_
  rintro e w1 ⟨rfl, rfl⟩
  go_wp2
  go_end0
  exact ⟨rfl, rfl⟩
theorem isOfS_any (a v x : Int) (w : World) :
    Calls Tryz.prog 124 #[.agg #[.int .i64 a, .int .i64 v], .int .i64 x] w fun e w' => e = .returned (.bool (a == x)) ∧ Below w.heap.size w w' := by
  go_enter Tryz.func124, Tryz.ntmps124
  go_wp2
  go_ret
  exact ⟨rfl, by go_grown⟩
theorem isOfM_any (a v x : Int) (w : World) :
    Calls Tryz.prog 96 #[.agg #[.int .i64 a, .int .i64 v], .int .i64 x] w fun e w' => e = .returned (.bool (a == x)) ∧ Below w.heap.size w w' := by
  go_enter Tryz.func96, Tryz.ntmps96
  go_wp2
  go_ret
  exact ⟨rfl, by go_grown⟩
theorem isOfI_any (x : Int) (w : World) :
    Calls Tryz.prog 125 #[.agg #[], .int .i64 x] w fun e w' => e = .returned (.bool false) ∧ Below w.heap.size w w' := by
  go_enter Tryz.func125, Tryz.ntmps125
  go_wp2
  go_ret
  exact ⟨rfl, by go_grown⟩
theorem mthS (v : Value) (w : World) : (method 308 164 v "loop.example/g00800/impl.isOf").run Tryz.prog w = .ok (124, v) w := by kernel_rfl
theorem mthM (v : Value) (w : World) : (method 308 165 v "loop.example/g00800/impl.isOf").run Tryz.prog w = .ok (96, v) w := by kernel_rfl
theorem mthI (v : Value) (w : World) : (method 308 167 v "loop.example/g00800/impl.isOf").run Tryz.prog w = .ok (125, v) w := by kernel_rfl
theorem ta_SS (v : Value) (xT : TypeId) (w : World) : (Instr.typeAssert (.iface 164 v) xT 164 true).run Tryz.prog w = .ok (.tuple #[v, .bool true]) w := by
  simp [Instr.typeAssert, run_underlying Tryz.underlying164]
theorem ta_SM (v : Value) (xT : TypeId) (w : World) : (Instr.typeAssert (.iface 164 v) xT 165 true).run Tryz.prog w = .ok (.tuple #[.agg #[.int .i64 0, .int .i64 0], .bool false]) w := by
  simp [Instr.typeAssert, run_underlying Tryz.underlying165, Tryz.zeroValue165]
theorem ta_MS (v : Value) (xT : TypeId) (w : World) : (Instr.typeAssert (.iface 165 v) xT 164 true).run Tryz.prog w = .ok (.tuple #[.agg #[.int .i64 0, .int .i64 0], .bool false]) w := by
  simp [Instr.typeAssert, run_underlying Tryz.underlying164, Tryz.zeroValue164]
theorem ta_MM (v : Value) (xT : TypeId) (w : World) : (Instr.typeAssert (.iface 165 v) xT 165 true).run Tryz.prog w = .ok (.tuple #[v, .bool true]) w := by
  simp [Instr.typeAssert, run_underlying Tryz.underlying165]
theorem ta_IS (v : Value) (xT : TypeId) (w : World) : (Instr.typeAssert (.iface 167 v) xT 164 true).run Tryz.prog w = .ok (.tuple #[.agg #[.int .i64 0, .int .i64 0], .bool false]) w := by
  simp [Instr.typeAssert, run_underlying Tryz.underlying164, Tryz.zeroValue164]
theorem ta_IM (v : Value) (xT : TypeId) (w : World) : (Instr.typeAssert (.iface 167 v) xT 165 true).run Tryz.prog w = .ok (.tuple #[.agg #[.int .i64 0, .int .i64 0], .bool false]) w := by
  simp [Instr.typeAssert, run_underlying Tryz.underlying165, Tryz.zeroValue165]
set_option maxRecDepth 100000 in
theorem lineOf_any (x : Ev) (w : World) (hk : x.k = 0 ∨ x.k = 1 ∨ x.k = 2) (h0 : x.k = 0 → x = lnZ) :
    Calls Tryz.prog 61 #[liV x] w fun e w' => e = .returned (evV x.k x.a x.v) ∧ Below w.heap.size w w' := by
  rcases hk with h | h | h
  · have e0 := h0 h
    subst e0
    rw [liV_0 h]
    clear h h0
    have t1 := ta_IS
    have t2 := ta_IM
    go_enter Tryz.func61, Tryz.ntmps61
    go_wp2
    refine bodyPost_ret (v := evV 0 0 0) (by simp [results, Tryz.results61, go_sem]) rfl ?_
    exact ⟨rfl, by go_grown⟩
  · rw [liV_1 h, h]
    clear h h0
    have t1 := ta_SS
    go_enter Tryz.func61, Tryz.ntmps61
    go_wp2
    refine bodyPost_ret (v := evV 1 x.a x.v) (by simp [results, Tryz.results61, go_sem]) rfl ?_
    exact ⟨rfl, by go_grown⟩
  · rw [liV_2 h, h]
    clear h h0
    have t1 := ta_MS
    have t2 := ta_MM
    go_enter Tryz.func61, Tryz.ntmps61
    go_wp2
    refine bodyPost_ret (v := evV 2 x.a x.v) (by simp [results, Tryz.results61, go_sem]) rfl ?_
    exact ⟨rfl, by go_grown⟩
set_option maxRecDepth 100000 in
theorem stateOf_any (x : Ev) (w : World) (hk : x.k = 0 ∨ x.k = 1 ∨ x.k = 2) :
    Calls Tryz.prog 56 #[evV x.k x.a x.v] w fun e w' => e = .returned (liV x) ∧ Below w.heap.size w w' := by
  rcases hk with h | h | h
  · rw [liV_0 h, h]
    clear h
    go_enter Tryz.func56, Tryz.ntmps56
    go_wp2
    go_ret
    exact ⟨rfl, by go_grown⟩
  · rw [liV_1 h, h]
    clear h
    go_enter Tryz.func56, Tryz.ntmps56
    go_wp2
    go_ret
    exact ⟨rfl, by go_grown⟩
  · rw [liV_2 h, h]
    clear h
    go_enter Tryz.func56, Tryz.ntmps56
    go_wp2
    go_ret
    exact ⟨rfl, by go_grown⟩
end Go.Proofs.YtnnfkmjhaljplaaGreat
namespace Go.Proofs.YtnnfkmjhaljplaaGreat
open Go.RowKit
theorem cells_three (w : World) (x y z : Value) (T : TypeId) : ∀ j u, [x, y, z][j]? = some u → (w.alloc (.cells #[x, y, z] T)).cell? ((⟨w.heap.size, 0, none⟩ : Addr).add j) = some u := by
  intro j u hj
  rw [Go.WideShapes.add_plain, Nat.zero_add, (Bk.new w #[x, y, z] T).cell j]
  simpa using hj
theorem cells_one1 (w : World) (x : Value) (T : TypeId) : ∀ j u, [x][j]? = some u → (w.alloc (.cells #[x] T)).cell? ((⟨w.heap.size, 0, none⟩ : Addr).add j) = some u := by
  intro j u hj
  rw [Go.WideShapes.add_plain, Nat.zero_add, (Bk.new w #[x] T).cell j]
  simpa using hj
theorem OwnTLine.freshL {w w2 : World} {base n : Nat} {v u : Value} {t : List (List Ev)} {us : List Value} {xs : List Value} (h : OwnTLine w base v t us) (hu : w2.ownsRow w.heap.size 129 3 u n xs) : ∀ b, u.ownBlock = some b → v.ownBlock ≠ some b ∧ ∀ (i : Nat) (u' : Value), us[i]? = some u' → u'.ownBlock ≠ some b := by
  intro b hb
  have h1 := hu.lt b hb
  refine ⟨fun e => by have := h.row.lt b e; omega, fun i u' hu' e => ?_⟩
  obtain ⟨_, h2, _⟩ := h.at_ hu'
  have := h2.lt b e
  omega
theorem OwnTLine.set7 {w : World} {base b i : Nat} {v : Value} {t : List (List Ev)} {us : List Value} (h : OwnTLine w base v t us) (hb : b < base) (x : Value) : OwnTLine (w.setCell ⟨b, i, none⟩ x) base v t us := h.kept (grown_set w b i x) (fun y e => by cases e; exact hb)
set_option maxRecDepth 100000 in
set_option maxHeartbeats 1600000 in
theorem busMachine_any {base gv c pm n L : Nat} {vm : Value} {us : List Value} {m : Mac} {w : World} (h : Bus w base gv c pm m vm us) (G : GoodM n L m) :
    Calls Tryz.prog 32 #[.agg #[.slice (some ⟨gv, 0, none⟩) n c, .pointer (some ⟨pm, 0, none⟩)]] w fun e w' => ∃ A c2 AM cM us2, vm = .slice AM m.mem.length cM ∧ e = .returned (macV A m.cs.length c2 AM m.mem.length cM) ∧ OwnMac w' base (.slice A m.cs.length c2) (.slice AM m.mem.length cM) m us2 ∧ Below w.heap.size w w' := by
  obtain ⟨i0, hi, hz0, hz1, hz2⟩ := info_parts info_line
  obtain ⟨j0, hj, hy0, hy1, hy2⟩ := info_parts info_lines
  have hL : 1 ≤ L ∧ L ≤ 1000 := by have := G.nL; omega
  have hn4 : n ≤ 4 := G.nL.2.1
  have hL4 : L ≤ 4 := G.nL.2.2.2
  have hn := G.shp.1
  obtain ⟨AM, cM, rfl⟩ := own_shape h.mem
  have hbase : base ≤ w.heap.size := by have := h.gv_lt; omega
  obtain ⟨W, hW⟩ : ∃ W, W = ((w.alloc (Obj.cells #[.slice (some ⟨gv, 0, none⟩) n c, .pointer (some ⟨pm, 0, none⟩)] 81)).alloc (Obj.cells #[.slice none 0 0, .slice none 0 0] 35)).alloc (Obj.cells #[.slice none 0 0, .slice AM m.mem.length cM] 35) := ⟨_, rfl⟩
  obtain ⟨k1, k2, k3, hz, B0⟩ := three_new _ _ _ _ _ _ _ W hW
  have hpm := h.cell.lt
  have pA := ((h.alloc (Obj.cells #[.slice (some ⟨gv, 0, none⟩) n c, .pointer (some ⟨pm, 0, none⟩)] 81)).alloc (Obj.cells #[.slice none 0 0, .slice none 0 0] 35)).cell.cell 0
  simp at pA
  have HB := hide h
  have q0 := (k1.cell 0).trans (rfl : _ = some (Value.slice (some ⟨gv, 0, none⟩) n c))
  have HW := hide hW
  clear hW k1
  go_enter Tryz.func32, Tryz.ntmps32
  go_upto_region 2 with fail
  rw [← HW.out]
  clear pA
  go_wp2
  clear q0
  have ot0 : OwnTLine W (w.heap.size + 1 + 1 + 1) (.slice none 0 0) (m.cs.take 0) [] := ⟨World.ownsRow_nil _ _ _ _, fun i hi => by simp at hi, fun i j u u' _ hu => by simp at hu⟩
  go_loopw [17] (fun s wr => ∃ (i : Nat) (vo : Value) (us2 : List Value), i ≤ n ∧ s = .int .i64 i ∧ OwnTLine wr (w.heap.size + 1 + 1 + 1) vo (m.cs.take i) us2 ∧ Bk wr (w.heap.size + 1) #[.slice none 0 0, .slice none 0 0] 35 ∧ Bk wr (w.heap.size + 1 + 1) #[vo, .slice AM m.mem.length cM] 35 ∧ Below w.heap.size w wr) (fun s _ => n - (intOf s).toNat)
  case atStart => exact ⟨0, _, _, Nat.zero_le _, rfl, ot0, k2, k3, B0⟩
  case round =>
    clear ot0 k2 k3 B0
    obtain ⟨i, vo, us2, hin, rfl, ot, k2, k3, hb⟩ := hrel
    obtain ⟨wo, hwo⟩ : ∃ x, x = wr := ⟨_, rfl⟩
    subst hwo
    have bI := HB.out.below hb
    by_cases hlt : i < n
    · obtain ⟨b, cu, hu, hLc, hcm, hbb, hbl, c0, c1, ho⟩ := bI.get G.shp (by omega) hlt
      have hi' : i < m.cs.length := by omega
      obtain ⟨l, hl⟩ : ∃ l, l = m.cs[i] := ⟨_, rfl⟩
      have hll : l.length = L := by rw [hl]; exact G.shp.2 _ (List.getElem_mem hi')
      have hln : ∀ k (hk : k < L), l[k]'(by omega) = ln m.cs i k := fun k hk => by subst hl; rw [ln_get m.cs i k hi' (by omega)]
      have HLN := hide hln
      have hT := fun hh : i < m.cs.length => (show m.cs.take (i + 1) = m.cs.take i ++ [l] by rw [List.take_succ_eq_append_getElem hh, ← hl])
      have HT := hide (hT hi')
      have HBI := hide bI
      have hwr := k3.lt
      have hcl : c = c := rfl
      clear hT hl hln ho bI hcl
      go_wp2
      have bW1 := (Below.refl wo.heap.size wo).alloc (Nat.le_refl _) (Obj.cells #[.slice (some ⟨b, 0, none⟩) L cu, .pointer (some ⟨pm, 0, none⟩)] 127)
      generalize wo.alloc (Obj.cells #[.slice (some ⟨b, 0, none⟩) L cu, .pointer (some ⟨pm, 0, none⟩)] 127) = W1 at *
      clear c0 c1
      go_loopw [6, 24] (fun vl s w2 => ∃ k : Nat, k ≤ L ∧ s = .int .i64 k ∧ w2.ownsRow wo.heap.size 129 3 vl k (evs (l.take k)) ∧ Below wo.heap.size wo w2) (fun _ s _ => L - (intOf s).toNat)
      case atStart => exact ⟨0, Nat.zero_le _, rfl, World.ownsRow_nil _ _ _ _, bW1⟩
      case round =>
        clear bW1
        obtain ⟨k, hkL, rfl, ov, hb2⟩ := hrel
        have hb2s := hb2.size
        by_cases hk : k < L
        · have lc := ((HBI.out.below hb2).line G.shp hlt hk hu).1
          have hkd := G.kind hlt hk
          have hkz := G.zero hlt hk
          have e1 := HLN.out k hk
          obtain ⟨X, hX⟩ : ∃ X, X = ln m.cs i k := ⟨_, rfl⟩
          rw [← hX] at lc hkd hkz e1
          have HTK := hide (show l.take (k + 1) = l.take k ++ [X] by rw [List.take_succ_eq_append_getElem (by omega), e1])
          have HX := hide (fun W => lineOf_any X W hkd hkz)
          clear hX e1 hkd hkz
          go_wp2_with fail
          refine (HX.out _).mono ?_
          rintro e w3 ⟨rfl, b3⟩
          have ov3 := own_below ov b3 (Nat.le_refl _)
          have hb3 := hb2.trans (b3.mono hb2s)
          have hb3s := hb3.size
          clear lc ov hb2 b3
          go_wp2_with (at_builtin; refine wpList_append_own_at _ rfl _ _ 114 rfl wo.heap.size 129 i0 (.agg #[.int .i64 0, .int .i64 0, .int .i64 0]) 3 24 Tryz.underlying114 hi hz0 hz1 hz2 rfl (by decide) _ _ _ rfl (ov3.alloc _) ⟨w3.heap.size, 0, none⟩ 1 1 (evs [X]) rfl rfl (cells_three _ _ _ _ _) (evs_one _) (by unfold maxLen; omega) (by omega) (by simp; omega) ?_; intro v' w4 hown' hgrow _ hat)
          have hb4 := (hb3.alloc hb3s (.cells #[.int .i64 X.k, .int .i64 X.a, .int .i64 X.v] 129)).trans (grown_below (ov3.alloc (.cells #[.int .i64 X.k, .int .i64 X.a, .int .i64 X.v] 129)) hgrow (by simp; omega) (Nat.le_refl _))
          rw [← evs_append, ← HTK.out] at hown'
          clear hgrow hat ov3
          go_roundw
          case rel => exact ⟨k + 1, by omega, by go_num, hown', hb4⟩
          case measure => simp [intOf]; omega
        · have hkl : k = L := by omega
          rw [hkl, List.take_of_length_le (by omega)] at ov
          have k2' := k2.below hb2 (by omega)
          have k3' := k3.below hb2 (by omega)
          have ot' := ot.below hb2
          have hb' := hb.trans (hb2.mono (by omega))
          have fr := ot.freshL ov
          have ov' := own_mono (base' := w.heap.size + 1 + 1 + 1) ov (by omega)
          obtain ⟨Av, cv, rfl⟩ := own_shape ov'
          have y0 := (k3'.cell 0).trans (rfl : _ = some vo)
          have f0 := k3'.frozen 0
          have hti : (m.cs.take i).length = i := by rw [List.length_take]; omega
          have orow := ot'.row
          rw [hti] at orow
          obtain ⟨Ao, co, rfl⟩ := own_shape orow
          have hk2a := k2'.lt
          have hk3a := k3'.lt
          have HTI := hide hti
          have HOT := hide ot'
          have HFR := hide fr
          clear ov k2 k3 ot hb hb2 hti ot' fr
          go_wp2_with (at_builtin; refine wpList_append_own_at _ rfl _ _ 32 rfl (w.heap.size + 1 + 1 + 1) 114 j0 (.slice none 0 0) 1 24 Tryz.underlying32 hj hy0 hy1 hy2 rfl (by decide) _ _ _ rfl (orow.alloc _) ⟨_, 0, none⟩ 1 1 [.slice Av L cv] rfl rfl (cells_one1 _ _ _) (by intro u hu; simp at hu; rw [hu]; rfl) (by unfold maxLen; omega) (by omega) (by simp; omega) ?_; intro v' w4 hown' hgrow _ hat; have k34 := (k3'.alloc (.cells #[.slice Av L cv] 114)).grown hgrow (fun e => by have := orow.lt _ e.symm; omega); have k24 := (k2'.alloc (.cells #[.slice Av L cv] 114)).grown hgrow (fun e => by have := orow.lt _ e.symm; omega); have y4 := (k34.cell 0).trans (rfl : _ = some (Value.slice Ao i co)); have f4 := k34.frozen 0; have hP := (HOT.out.alloc (.cells #[.slice Av L cv] 114)).push (es := l) (by rw [hll]; exact ov'.alloc _) HFR.out (by rw [HTI.out]; exact hown') hgrow hat; rw [← HT.out] at hP; have hb4 := (hb'.alloc hb'.size (.cells #[.slice Av L cv] 114)).trans (grown_below (orow.alloc (.cells #[.slice Av L cv] 114)) hgrow (by simp; omega) (by omega)); obtain ⟨A4, c4, rfl⟩ := own_shape hown'; have HH := hide (And.intro k24 (And.intro k34 (And.intro hP hb4))); clear hown' hgrow hat k34 k24 hP hb4)
          obtain ⟨k24, k34, hP, hb4⟩ := HH.out
          go_roundw
          case rel =>
            refine ⟨i + 1, _, _, by omega, by go_num, hP.set7 (b := w.heap.size + 1 + 1) (by omega) _, k24.far (p := ⟨w.heap.size + 1 + 1, 0, none⟩) (by simp) _, ?_, hb4.setCell (by simp only; omega) _⟩
            have := k34.set_ 0 (.slice A4 (i + 1) c4)
            simpa using this
          case measure => simp [intOf]; omega
    · have hie : i = n := by omega
      rw [hie, List.take_of_length_le (by omega)] at ot
      have hor := ot.row
      rw [hn] at hor
      obtain ⟨Ao, co, rfl⟩ := own_shape hor
      have y0 := (k3.cell 0).trans (rfl : _ = some (Value.slice Ao n co))
      have y1 := (k3.cell 1).trans (rfl : _ = some (Value.slice AM m.mem.length cM))
      have z0 := (k2.cell 0).trans (rfl : _ = some (Value.slice none 0 0))
      have z1 := (k2.cell 1).trans (rfl : _ = some (Value.slice none 0 0))
      have f0 := k2.frozen 0
      have f1 := k2.frozen 1
      have hk2l := k2.lt
      have hB := hide hb
      have HO := hide ot
      have HMm := hide bI.mem
      have HLo := hide (fun b (e : (Value.slice AM m.mem.length cM).ownBlock = some b) => (h.mem.lt b e).2)
      clear ot bI k2 k3 hb
      go_wp2
      refine bodyPost_ret (v := macV Ao n co AM m.mem.length cM) (by simp [results, Tryz.results32, go_sem, z0, z1]) rfl ?_
      refine ⟨Ao, co, AM, cM, us2, rfl, by rw [hn], ?_, (hB.out.setCell (by simp only; omega) _).setCell (by simp only; omega) _⟩
      rw [hn]
      refine ⟨((HO.out.set7 (b := w.heap.size + 1) (by omega) _).set7 (b := w.heap.size + 1) (by omega) _).mono (by omega), ?_, fun b e => ⟨fun e2 => ?_, fun u hu e2 => ?_⟩⟩
      · exact ownsRow_setCell_other (ownsRow_setCell_other HMm.out (fun e => by have := HLo.out _ e; simp only at this; omega) _) (fun e => by have := HLo.out _ e; simp only at this; omega) _
      · have h1 := HLo.out b e
        have h2 := HO.out.row.lt b e2
        omega
      · have h1 := HLo.out b e
        obtain ⟨j, hj⟩ := List.getElem?_of_mem hu
        obtain ⟨_, h2, _⟩ := HO.out.at_ hj
        have := h2.lt b e2
        omega
end Go.Proofs.YtnnfkmjhaljplaaGreat
namespace Go.Proofs.YtnnfkmjhaljplaaGreat
open Go.RowKit
theorem info_cache : (Tryz.prog.info? 127).map (fun i => (i.zero, i.size, i.bytes)) = some (some (.agg #[.slice none 0 0, .pointer none]), 2, 32) := by kernel_rfl
theorem info_state : (Tryz.prog.info? 131).map (fun i => (i.zero, i.size, i.bytes)) = some (some .nilIface, 1, 16) := by kernel_rfl
/-- append of a row at a guarded operation of a region that draws its order. -/
theorem step_append_at {P : Program} (w : World) {ops : Array Oper} {o : Oper} {a : Act} {K : Act → World → Prop} {Q : Exit → Act → World → Prop} {E : Prop} (hw : Region.wanted o (yielded ops a.tmps) = true) (s x : Operand) (t : TypeId)
    (ho : o.op = .call { callee := .builtin .append, args := #[s, x], argTypes := #[t, t] })
    (base : Nat) (e : TypeId) (i : TypeInfo) (z : Value) (size bytes : Nat) (ht : P.underlying t = some (.slice e)) (hi : P.info? e = some i) (hz : i.zero = some z)
    (hsize : i.size = size) (hby : i.bytes = bytes) (hzs : z.cells.size = size) (hsz : 0 < size)
    (v : Value) (n : Nat) (xs : List Value) (hs : a.eval s = v) (hown : w.ownsRow base e size v n xs)
    (ad : Addr) (m c : Nat) (news : List Value) (hx : a.eval x = .slice (some ad) m c) (hl : news.length = m * size) (hnews : ∀ j u, news[j]? = some u → w.cell? (ad.add j) = some u) (h1 : ∀ u ∈ news, u.oneCell' = true)
    (h63 : n + m ≤ maxLen) (hbytes : (n + m) * bytes ≤ 140737488355328) (hbase : base ≤ w.heap.size)
    (h : ∀ v' w', w'.ownsRow base e size v' (n + m) (xs ++ news) → w.grownBy w' v.ownBlock → (v'.ownBlock = v.ownBlock ∨ v'.ownBlock = some w.heap.size) → K (a.put o.dst v') w') :
    if Region.wanted o (yielded ops a.tmps) = true then Oper.wp P o a w K Q else E := by
  rw [if_pos hw]
  obtain ⟨v', w', hr, h2, h3, _, h5⟩ := run_append_own_at (P := P) w base t o.type e i z size bytes ht hi hz hsize hby hzs hsz v n xs hown ad m c news hl hnews h1 h63 hbytes hbase
  unfold Oper.wp execOp
  simp only [ho, resolve, invoke, builtin, Sem.run_bind, Sem.run_pure, Result.andThen_ok, List.map_toArray, List.map_cons, List.map_nil, hs, hx, hr]
  exact h v' w' h2 h3 h5
/-- The caches built so far. -/
structure Chs (w : World) (base pm : Nat) (t : List (List Ev)) (v : Value) (us : List Value) : Prop where
  row : w.ownsRow base 127 2 v t.length (cchV pm us)
  len : us.length = t.length
  rows : ∀ (i : Nat) (u : Value) (h : i < t.length), us[i]? = some u → w.ownsRow base 131 1 u t[i].length (lnsV t[i])
  apart : ∀ (i j : Nat) (u u' : Value), i ≠ j → us[i]? = some u → us[j]? = some u' → ∀ b, u.ownBlock = some b → u'.ownBlock ≠ some b
  far : ∀ u ∈ us, ∀ b, u.ownBlock = some b → v.ownBlock ≠ some b
theorem liV_if (x : Ev) : ∃ T V, liV x = .iface T V := by
  unfold liV
  split
  · exact ⟨_, _, rfl⟩
  · split <;> exact ⟨_, _, rfl⟩
theorem cchV_snoc (pm : Nat) (u : Value) : ∀ us, cchV pm (us ++ [u]) = cchV pm us ++ [u, .pointer (some ⟨pm, 0, none⟩)]
  | [] => rfl
  | x :: r => by simp only [cchV, List.cons_append, cchV_snoc pm u r]
theorem Chs.nil_ (w : World) (base pm : Nat) : Chs w base pm [] (.slice none 0 0) [] := ⟨World.ownsRow_nil _ _ _ _, rfl, fun i u h => absurd h (Nat.not_lt_zero _), fun i j u u' _ h => by simp at h, fun u h => by simp at h⟩
section
variable {w w' : World} {base pm : Nat} {t : List (List Ev)} {v v' : Value} {us : List Value}
theorem Chs.lt (h : Chs w base pm t v us) {u : Value} (hu : u ∈ us) {b : Nat} (hb : u.ownBlock = some b) : base ≤ b ∧ b < w.heap.size := by
  obtain ⟨i, hi, rfl⟩ := List.getElem_of_mem hu
  exact (h.rows i _ (by rw [← h.len]; exact hi) (List.getElem?_eq_getElem hi)).lt b hb
theorem Chs.kept {row : Option Nat} (h : Chs w base pm t v us) (hg : w.grownBy w' row) (hr : ∀ b, row = some b → b < base) : Chs w' base pm t v us :=
  ⟨h.row.kept hg (own_sep fun b hb e => by have := h.row.lt b hb; have := hr b e; omega), h.len,
   fun i u hi hu => (h.rows i u hi hu).kept hg (own_sep fun b hb e => by have := h.lt (List.mem_of_getElem? hu) hb; have := hr b e; omega), h.apart, h.far⟩
theorem Chs.below (h : Chs w base pm t v us) (hb : Below w.heap.size w w') : Chs w' base pm t v us := h.kept (row := none) ⟨hb.os, hb.tape, hb.output, hb.size, fun k hk _ => hb.block k hk⟩ (fun b e => by cases e)
theorem Chs.alloc (h : Chs w base pm t v us) (o : Obj) : Chs (w.alloc o) base pm t v us := h.below ((Below.refl _ _).alloc (Nat.le_refl _) _)
theorem Chs.push {u : Value} {l : List Ev} (h : Chs w base pm t v us) (hu : w.ownsRow base 131 1 u l.length (lnsV l)) (hf : ∀ b, u.ownBlock = some b → v.ownBlock ≠ some b ∧ ∀ x ∈ us, x.ownBlock ≠ some b)
    (ho : w'.ownsRow base 127 2 v' (t.length + 1) (cchV pm us ++ [u, .pointer (some ⟨pm, 0, none⟩)])) (hg : w.grownBy w' v.ownBlock) (hat : v'.ownBlock = v.ownBlock ∨ v'.ownBlock = some w.heap.size) : Chs w' base pm (t ++ [l]) v' (us ++ [u]) := by
  have key : ∀ (i : Nat) (x : Value), (us ++ [u])[i]? = some x → (i < us.length ∧ us[i]? = some x) ∨ (i = us.length ∧ x = u) := by
    intro i x hx
    by_cases hlt : i < us.length
    · rw [List.getElem?_append_left hlt] at hx
      exact .inl ⟨hlt, hx⟩
    · rw [List.getElem?_append_right (by omega)] at hx
      have hi : i - us.length = 0 := by
        rcases Nat.eq_zero_or_pos (i - us.length) with a | a
        · exact a
        · rw [List.getElem?_eq_none (by simp; omega)] at hx; exact absurd hx (by simp)
      rw [hi] at hx
      simp only [List.getElem?_cons_zero, Option.some.injEq] at hx
      exact .inr ⟨by omega, hx.symm⟩
  refine ⟨by rw [List.length_append, cchV_snoc]; exact ho, by rw [List.length_append, List.length_append, h.len]; rfl, fun i x hi hx => ?_, ?_, fun x hx b hb => ?_⟩
  · rcases key i x hx with ⟨i1, i2⟩ | ⟨i1, rfl⟩
    · have hi' : i < t.length := by rw [← h.len]; exact i1
      simp only [List.getElem_append_left hi']
      exact (h.rows i x hi' i2).kept hg (own_sep (h.far x (List.mem_of_getElem? i2)))
    · obtain rfl : i = t.length := by rw [i1, h.len]
      simp only [List.getElem_append_right (Nat.le_refl _), Nat.sub_self, List.getElem_cons_zero]
      exact hu.kept hg (own_sep fun b hb => (hf b hb).1)
  · intro i j x y hij hx hy b hb
    rcases key i x hx with ⟨i1, i2⟩ | ⟨i1, rfl⟩
    · rcases key j y hy with ⟨j1, j2⟩ | ⟨j1, rfl⟩
      · exact h.apart i j x y hij i2 j2 b hb
      · intro e
        exact (hf b e).2 x (List.mem_of_getElem? i2) hb
    · rcases key j y hy with ⟨j1, j2⟩ | ⟨j1, rfl⟩
      · exact (hf b hb).2 y (List.mem_of_getElem? j2)
      · omega
  · rcases List.mem_append.1 hx with hx | hx
    · rcases hat with e | e
      · rw [e]; exact h.far x hx b hb
      · rw [e]; intro e2
        simp only [Option.some.injEq] at e2
        have := h.lt hx hb
        omega
    · rw [List.mem_singleton] at hx
      subst hx
      rcases hat with e | e
      · rw [e]; exact (hf b hb).1
      · rw [e]; intro e2
        simp only [Option.some.injEq] at e2
        have := hu.lt b hb
        omega
end
theorem cells_two (w : World) (x y : Value) (T : TypeId) : ∀ j u, [x, y][j]? = some u → (w.alloc (.cells #[x, y] T)).cell? ((⟨w.heap.size, 0, none⟩ : Addr).add j) = some u := by
  intro j u hj
  rw [Go.WideShapes.add_plain, Nat.zero_add, (Bk.new w #[x, y] T).cell j]
  simpa using hj
/-- Where busOf stands: q is its first block, pm the memory's, the bus's box behind it. -/
structure Bld (w0 w : World) (q pm : Nat) (box : Array Value) (m : Mac) (vm vo : Value) (t : List (List Ev)) (us : List Value) : Prop where
  box_ : Bk w q box 35
  res : Bk w (q + 1) #[.slice none 0 0, .pointer none] 81
  mem : w.ownsRow (q + 1 + 1) 139 2 vm m.mem.length (cels m.mem)
  cell : Bk w pm #[vm] 123
  b : Bk w (pm + 1) #[vo, .pointer (some ⟨pm, 0, none⟩)] 81
  cs : Chs w (pm + 1 + 1) pm t vo us
  old : Below q w0 w
  nums : q + 1 + 1 ≤ pm ∧ ∀ b, vm.ownBlock = some b → b < pm
section
variable {w0 w w' : World} {q pm : Nat} {box : Array Value} {m : Mac} {vm vo : Value} {t : List (List Ev)} {us : List Value}
theorem Bld.below (h : Bld w0 w q pm box m vm vo t us) (hb : Below w.heap.size w w') : Bld w0 w' q pm box m vm vo t us :=
  ⟨h.box_.kept hb, h.res.kept hb, own_below h.mem hb (Nat.le_refl _), h.cell.kept hb, h.b.kept hb, h.cs.below hb, h.old.trans (hb.mono (by have := h.box_.lt; omega)), h.nums⟩
theorem Bld.push {u v' : Value} {l : List Ev} (h : Bld w0 w q pm box m vm vo t us) (hu : w.ownsRow (pm + 1 + 1) 131 1 u l.length (lnsV l)) (hf : ∀ b, u.ownBlock = some b → vo.ownBlock ≠ some b ∧ ∀ x ∈ us, x.ownBlock ≠ some b)
    (ho : w'.ownsRow (pm + 1 + 1) 127 2 v' (t.length + 1) (cchV pm us ++ [u, .pointer (some ⟨pm, 0, none⟩)])) (hg : w.grownBy w' vo.ownBlock) (hat : v'.ownBlock = vo.ownBlock ∨ v'.ownBlock = some w.heap.size) :
    Bld w0 (w'.setCell ⟨pm + 1, 0, none⟩ v') q pm box m vm v' (t ++ [l]) (us ++ [u]) := by
  have hn := h.nums
  have hsep : ∀ k, k < pm + 1 + 1 → some k ≠ vo.ownBlock := fun k hk e => by have := h.cs.row.lt k e.symm; omega
  have hp := h.cs.push hu hf ho hg hat
  refine ⟨(h.box_.grown hg (hsep q (by omega))).far (p := ⟨pm + 1, 0, none⟩) (by simp only; omega) _, (h.res.grown hg (hsep (q + 1) (by omega))).far (p := ⟨pm + 1, 0, none⟩) (by simp only; omega) _, ?_, (h.cell.grown hg (hsep pm (by omega))).far (p := ⟨pm + 1, 0, none⟩) (by simp only; omega) _, ?_, hp.kept (grown_set w' (pm + 1) 0 v') (fun b e => by cases e; omega), ?_, hn⟩
  · exact ownsRow_setCell_other (h.mem.kept hg (own_sep fun b hb e => hsep b (by have := hn.2 b hb; omega) e.symm)) (fun e => by have := hn.2 _ e; simp only at this; omega) _
  · have := (h.b.grown hg (hsep (pm + 1) (by omega))).set_ 0 v'
    simpa using this
  · have h1 := h.b.lt
    exact (h.old.trans ⟨hg.os, hg.tape, hg.output, hg.size, fun k hk => hg.block k (by omega) (hsep k (by omega))⟩).setCell (by simp only; omega) _
end
/-- What busOf tells. -/
def BusOfPost (m : Mac) (w : World) (e : Ending) (w' : World) : Prop :=
  ∃ gv c pm vm us, e = .returned (.agg #[.slice (some ⟨gv, 0, none⟩) m.cs.length c, .pointer (some ⟨pm, 0, none⟩)]) ∧ Bus w' w.heap.size gv c pm m vm us ∧ Below w.heap.size w w'
theorem Bld.bus {w0 w w' : World} {q pm : Nat} {box : Array Value} {m : Mac} {vm vo : Value} {us : List Value} (h : Bld w0 w q pm box m vm vo m.cs us) (hn : 0 < m.cs.length) (x y : Value) (hw' : w' = (w.setCell ⟨q + 1, 0, none⟩ x).setCell ⟨q + 1, 1, none⟩ y) :
    ∃ gv c, vo = .slice (some ⟨gv, 0, none⟩) m.cs.length c ∧ Bus w' q gv c pm m vm us ∧ Below q w0 w' := by
  have hnn := h.nums
  have h1 := h.res.lt
  obtain ⟨gv, c, cur, hv, hbg, hbk, _, _, _, _⟩ := own_open h.cs.row hn
  have hg1 : Below (q + 1) w w' := by subst hw'; exact (((Below.refl (q + 1) w).setCell (p := ⟨q + 1, 0, none⟩) (Nat.le_refl _) x)).setCell (p := ⟨q + 1, 1, none⟩) (Nat.le_refl _) y
  have keep : ∀ (e : TypeId) (s n : Nat) (v : Value) (xs : List Value), w.ownsRow (q + 1 + 1) e s v n xs → w'.ownsRow (q + 1 + 1) e s v n xs := fun e s n v xs hh => by
    subst hw'
    exact ownsRow_setCell_below (ownsRow_setCell_below hh (a := ⟨q + 1, 0, none⟩) (Nat.lt_succ_self _) x) (a := ⟨q + 1, 1, none⟩) (Nat.lt_succ_self _) y
  have hcell : Bk w' pm #[vm] 123 := by
    subst hw'
    exact (h.cell.far (p := ⟨q + 1, 0, none⟩) (by simp only; omega) x).far (p := ⟨q + 1, 1, none⟩) (by simp only; omega) y
  subst hv
  refine ⟨gv, c, rfl, ⟨own_mono (keep _ _ _ _ _ (own_mono h.cs.row (by omega))) (by omega), h.cs.len, fun i u hi hu => own_mono (keep _ _ _ _ _ (own_mono (h.cs.rows i u hi hu) (by omega))) (by omega), own_mono (keep _ _ _ _ _ h.mem) (by omega), hcell, by omega, h.cs.apart, fun u hu b hb => ⟨fun e => ?_, ?_, fun e => ?_⟩, ?_, fun e => ?_, fun e => ?_⟩, h.old.trans (hg1.mono (Nat.le_succ _))⟩
  · subst e; exact h.cs.far u hu _ hb rfl
  · have := h.cs.lt hu hb; omega
  · have := h.cs.lt hu hb; have := hnn.2 b e; omega
  · omega
  · have := hnn.2 gv e; omega
  · have := hnn.2 pm e; omega
set_option maxRecDepth 100000 in
set_option maxHeartbeats 3200000 in
theorem busOf_any {n L : Nat} (m : Mac) (A A' : Option Addr) (c c' : Nat) (w : World) (G : GoodM n L m) (hm : m.mem.length ≤ 1000) (h : RdMac w w.heap.size A A' m) :
    Calls Tryz.prog 30 #[macV A m.cs.length c A' m.mem.length c'] w (BusOfPost m w) := by
  unfold BusOfPost
  obtain ⟨i0, hi, hz0, hz1, hz2⟩ := info_parts info_cell
  obtain ⟨j0, hj, hy0, hy1, hy2⟩ := info_parts info_cache
  obtain ⟨l0, hl, hx0, hx1, hx2⟩ := info_parts info_state
  have hL : 1 ≤ L ∧ L ≤ 4 := by have := G.nL; omega
  have hn4 : 1 ≤ n ∧ n ≤ 4 := by have := G.nL; omega
  obtain ⟨hL1, hL4⟩ := hL
  obtain ⟨hn1, hn4⟩ := hn4
  have hn := G.shp.1
  subst hn
  obtain ⟨W, hW⟩ : ∃ W, W = (w.alloc (Obj.cells #[.slice A m.cs.length c, .slice A' m.mem.length c'] 35)).alloc (Obj.cells #[.slice none 0 0, .pointer none] 81) := ⟨_, rfl⟩
  obtain ⟨k1, k2, hz, B0⟩ := two_new _ _ _ _ _ W hW
  have hRW := (h.below B0).lt
  obtain ⟨vm, W2, hr, o2, g2, _⟩ := run_append_rc (P := Tryz.prog) W (w.heap.size + 1 + 1) 123 123 139 i0 (.agg #[.int .i64 0, .int .i64 0]) 16 Tryz.underlying123 hi hz0 hz1 hz2 rfl (.slice none 0 0) 0 [] (World.ownsRow_nil _ _ _ _) A' m.mem c' W.heap.size hRW.mem (by unfold maxLen; omega) (by omega) (by omega)
  rw [← append_types W 123 33 123 139 139 i0 Tryz.underlying123 Tryz.underlying33 hi] at hr
  rw [Nat.zero_add, List.nil_append] at o2
  obtain ⟨AM, cM, rfl⟩ := own_shape o2
  have B2 : Below W.heap.size W W2 := ⟨g2.os, g2.tape, g2.output, g2.size, fun k hk => g2.block k hk (by simp [Value.ownBlock])⟩
  obtain ⟨pm, hpm⟩ : ∃ pm, pm = W2.heap.size := ⟨_, rfl⟩
  have hz2 := B2.size
  obtain ⟨W4, hW4⟩ : ∃ W4, W4 = (W2.alloc (Obj.cells #[.slice AM m.mem.length cM] 123)).alloc (Obj.cells #[.slice none 0 0, .pointer (some ⟨W2.heap.size, 0, none⟩)] 81) := ⟨_, rfl⟩
  obtain ⟨k3, k4, hz4, B4⟩ := two_new _ _ _ _ _ W4 hW4
  have D0 : Bld w W4 w.heap.size pm #[.slice A m.cs.length c, .slice A' m.mem.length c'] m (.slice AM m.mem.length cM) (.slice none 0 0) (m.cs.take 0) [] := by
    rw [← hpm] at k3 k4
    exact ⟨(k1.kept B2).kept B4, (k2.kept B2).kept B4, own_below o2 B4 (Nat.le_refl _), k3, k4, Chs.nil_ _ _ _, (B0.trans (B2.mono B0.size)).trans (B4.mono (by omega)), by omega, fun b e => by rw [hpm]; exact (o2.lt b e).2⟩
  have HW := hide hW
  have HR := hide hr
  have HW4 := hide hW4
  have hpb : W.heap.size ≤ pm := by omega
  have HPM := hide hpm
  have q1 := (k1.cell 1).trans (rfl : _ = some (Value.slice A' m.mem.length c'))
  have q0 := ((k1.kept B2).cell 0).trans (rfl : _ = some (Value.slice A m.cs.length c))
  have hwz : w.heap.size < W2.heap.size := by omega
  have hmc : m.cs.length ≤ maxLen := by unfold maxLen; omega
  have HH := hide h.cs
  have hgz := D0.b.lt
  clear hW k1 k2 hRW hr o2 g2 hW4 k3 k4 B4 h B2 hpm hz2 hz4
  go_enter Tryz.func30, Tryz.ntmps30
  go_upto_region 1 with fail
  rw [← HW.out]
  go_wp2_with (at_builtin; refine Go.Lib.wpList_append_run _ rfl _ _ _ _ rfl _ _ rfl rfl _ _ HR.out ?_)
  rw [← HW4.out, ← HPM.out]
  clear q1 q0 hwz
  go_loopw [17] (fun s wr => ∃ (i : Nat) (vo : Value) (us : List Value), i ≤ m.cs.length ∧ s = .int .i64 i ∧ Bld w wr w.heap.size pm #[.slice A m.cs.length c, .slice A' m.mem.length c'] m (.slice AM m.mem.length cM) vo (m.cs.take i) us) (fun s _ => m.cs.length - (intOf s).toNat)
  case atStart => exact ⟨0, _, _, Nat.zero_le _, rfl, D0⟩
  case round =>
    clear D0 hgz
    obtain ⟨i, vo, us, hin, rfl, D⟩ := hrel
    obtain ⟨wo, hwo⟩ : ∃ x, x = wr := ⟨_, rfl⟩
    subst hwo
    by_cases hlt : i < m.cs.length
    · have hi' : i < m.cs.length := by omega
      obtain ⟨b, off, a, d, hA, hbb, hcw, hle, hcm, hrw⟩ := HH.out.get hi'
      subst hA
      obtain ⟨l, hld⟩ : ∃ l, l = m.cs[i] := ⟨_, rfl⟩
      have hll : l.length = L := by rw [hld]; exact G.shp.2 _ (List.getElem_mem hi')
      have hln : ∀ k (hk : k < L), l[k]'(by omega) = ln m.cs i k := fun k hk => by subst hld; rw [ln_get m.cs i k hi' (by omega)]
      have HLN := hide hln
      have hT := (show m.cs.take (i + 1) = m.cs.take i ++ [l] by rw [List.take_succ_eq_append_getElem hi', ← hld])
      have HT := hide hT
      rw [← hld, hll] at hcw
      rw [← hld] at hrw
      have HRW := hide hrw
      have y0 := (D.old.cell (p := ⟨b, off + i, none⟩) hbb).trans hcw
      have y1 := (D.b.cell 1).trans (rfl : _ = some (Value.pointer (some ⟨pm, 0, none⟩)))
      have hwr := D.b.lt
      have HD := hide D
      clear hT hln hld hcw hrw D hle hcm
      go_wp2
      have c0 := Bk.new wo #[.slice none 0 0, .pointer (some ⟨pm, 0, none⟩)] 127
      have bW1 := (Below.refl wo.heap.size wo).alloc (Nat.le_refl _) (Obj.cells #[.slice none 0 0, .pointer (some ⟨pm, 0, none⟩)] 127)
      generalize wo.alloc (Obj.cells #[.slice none 0 0, .pointer (some ⟨pm, 0, none⟩)] 127) = W1 at *
      clear y0 y1
      go_loopw [26] (fun s w2 => ∃ (k : Nat) (vl : Value), k ≤ L ∧ s = .int .i64 k ∧ Bk w2 wo.heap.size #[vl, .pointer (some ⟨pm, 0, none⟩)] 127 ∧ w2.ownsRow (wo.heap.size + 1) 131 1 vl k (lnsV (l.take k)) ∧ Below wo.heap.size wo w2) (fun s _ => L - (intOf s).toNat)
      case atStart => exact ⟨0, _, Nat.zero_le _, rfl, c0, World.ownsRow_nil _ _ _ _, bW1⟩
      case round =>
        clear bW1 c0
        obtain ⟨k, vl, hkL, rfl, kc, ov, hb2⟩ := hrel
        have hb2s := hb2.size
        have hkc := kc.lt
        by_cases hk : k < L
        · have hb3 := HD.out.old.trans (hb2.mono (by omega))
          obtain ⟨bl, ol, hal, hblk, x0, x1, x2⟩ := (HRW.out.below hb3).get (i := k) (by omega)
          subst hal
          have hkd := G.kind hlt hk
          have e1 := HLN.out k hk
          obtain ⟨X, hX⟩ : ∃ X, X = ln m.cs i k := ⟨_, rfl⟩
          rw [e1, ← hX] at x0 x1 x2
          rw [← hX] at hkd e1
          have HTK := hide (show l.take (k + 1) = l.take k ++ [X] by rw [List.take_succ_eq_append_getElem (by omega), e1])
          obtain ⟨TS, VS, hTV⟩ := liV_if X
          have HX := hide (fun W => stateOf_any X W hkd)
          rw [hTV] at HX
          have HTV := hide hTV
          clear hTV
          clear hX e1 hkd hb3
          obtain ⟨Al, cl, rfl⟩ := own_shape ov
          go_wp2_with fail
          clear x0 x1 x2
          have bx := Bk.new wr #[.int .i64 X.k, .int .i64 X.a, .int .i64 X.v] 129
          have kc1 := kc.alloc (Obj.cells #[.int .i64 X.k, .int .i64 X.a, .int .i64 X.v] 129)
          have ov1 := ov.alloc (Obj.cells #[.int .i64 X.k, .int .i64 X.a, .int .i64 X.v] 129)
          have hb1 := hb2.alloc hb2s (Obj.cells #[.int .i64 X.k, .int .i64 X.a, .int .i64 X.v] 129)
          have hqa : ∀ b, (Value.slice Al k cl).ownBlock = some b → b < wr.heap.size := fun b e => (ov.lt b e).2
          obtain ⟨qx, hqx⟩ : ∃ qx, qx = wr.heap.size := ⟨_, rfl⟩
          rw [← hqx] at bx hkc hqa ⊢
          have HQA := hide hqa
          clear hqa
          generalize wr.alloc (Obj.cells #[.int .i64 X.k, .int .i64 X.a, .int .i64 X.v] 129) = Y at *
          have hqy := bx.lt
          clear hqx kc ov hb2 hb2s
          have x0 : Y.drew.cell? ⟨qx, 0, none⟩ = some (.int .i64 X.k) := (bx.cell 0).trans rfl
          have x1 : Y.drew.cell? ⟨qx, 1, none⟩ = some (.int .i64 X.a) := (bx.cell 1).trans rfl
          have x2 : Y.drew.cell? ⟨qx, 2, none⟩ = some (.int .i64 X.v) := (bx.cell 2).trans rfl
          have s0 : Y.drew.cell? ⟨wo.heap.size, 0, none⟩ = some (.slice Al k cl) := (kc1.cell 0).trans rfl
          have kd : Bk Y.drew wo.heap.size #[.slice Al k cl, .pointer (some ⟨pm, 0, none⟩)] 127 := kc1
          have od : Y.drew.ownsRow (wo.heap.size + 1) 131 1 (.slice Al k cl) k (lnsV (l.take k)) := ov1.drew
          have bd : Below wo.heap.size wo Y.drew := hb1.drew
          have hYd : Y.drew.heap.size = Y.heap.size := rfl
          clear kc1 ov1 hb1
          refine wp_region_F 5 (fun w' => w'.cell? ⟨qx, 0, none⟩ = some (Value.int .i64 X.k) ∧ w'.cell? ⟨qx, 1, none⟩ = some (Value.int .i64 X.a) ∧ w'.cell? ⟨qx, 2, none⟩ = some (Value.int .i64 X.v)) (fun w' => w'.cell? ⟨wo.heap.size, 0, none⟩ = some (Value.slice Al k cl)) (by kernel_rfl) ⟨⟨x0, x1, x2⟩, s0⟩ (fun hHeld => ?_)
          try simp only [Act.put, List.setIfInBounds_toArray, List.set_cons_zero, List.set_cons_succ]
          have bd0 : Bk Y.drew qx #[.int .i64 X.k, .int .i64 X.a, .int .i64 X.v] 129 := bx
          clear x0 x1 x2 s0 bx hYd
          have hqz : qx < Y.drew.heap.size := hqy
          clear hqy
          generalize Y.drew = Z at *
          refine wpAnyF_take (i := 0) (v := ?_) (by (simp only [List.getElem?_toArray, List.getElem?_cons_zero]; rfl)) (by kernel_rfl) (by kernel_rfl) (by kernel_rfl) (by decide) (by exact fun _ _ _ h => h) ⟨hHeld.1, .inr hHeld.2⟩ (Or.inl ⟨by rfl, ?_⟩) ?_
          rotate_left
          · (intro w' _; go_simp <;> with_reducible rfl)
          try simp only [Act.put, List.setIfInBounds_toArray, List.set_cons_zero, List.set_cons_succ]
          refine wpAnyF_load (i := 1) (v := ?_) (by (simp only [List.getElem?_toArray, List.getElem?_cons_succ, List.getElem?_cons_zero]; rfl)) (by kernel_rfl) (by kernel_rfl) (by kernel_rfl) (by decide) (by exact fun _ _ _ h => h) hHeld (by kernel_rfl) (by kernel_rfl) (Or.inl ⟨by rfl, ?_⟩) ?_
          rotate_left
          · (intro w' hSw; (try dsimp only at hSw); obtain hSb0 := hSw; go_simp <;> with_reducible rfl)
          try simp only [Act.put, List.setIfInBounds_toArray, List.set_cons_zero, List.set_cons_succ]
          refine wpAnyF_keep (i := 2) (v := ?_) (by (simp only [List.getElem?_toArray, List.getElem?_cons_succ, List.getElem?_cons_zero]; rfl)) (by kernel_rfl) (by kernel_rfl) (by kernel_rfl) (by decide) (by exact fun _ _ _ h => h) ⟨hHeld.1, .inr hHeld.2⟩ (Or.inl ⟨by rfl, ?_⟩) ?_
          rotate_left
          · (intro w' hSw; (try dsimp only at hSw); obtain ⟨hSa0, hSa1, hSa2⟩ := hSw; go_simp <;> with_reducible rfl)
          try simp only [Act.put, List.setIfInBounds_toArray, List.set_cons_zero, List.set_cons_succ]
          refine wpAnyF_ready (rs := [3]) (by kernel_rfl) (by simp) ?_
          refine AllReadyF.cons (by (simp only [List.getElem?_toArray, List.getElem?_cons_succ, List.getElem?_cons_zero]; rfl)) (fun K hK => ?_) AllReadyF.nil
          go_simp
          go_at_call 56
          refine (HX.out _).mono ?_
          rintro e w3 ⟨rfl, b3⟩
          have kd3 := kd.kept b3
          have od3 := own_below od b3 (Nat.le_refl _)
          have bx3 := bd0.kept b3
          have bd3 := bd.trans (b3.mono bd.size)
          have hz3 := b3.size
          refine hK.out _ _ ⟨⟨cell_kept b3 hHeld.1.1, cell_kept b3 hHeld.1.2.1, cell_kept b3 hHeld.1.2.2⟩, (cell_kept b3 hHeld.2)⟩ (fun hNew => ?_)
          clear hK K hHeld
          have hHeld := hNew
          clear hNew
          try simp only [Act.put, List.setIfInBounds_toArray, List.set_cons_zero, List.set_cons_succ]
          clear kd od bd0 bd b3
          refine wpAnyF_ready (rs := [4]) (by kernel_rfl) (by simp) ?_
          refine AllReadyF.cons (by (simp only [List.getElem?_toArray, List.getElem?_cons_succ, List.getElem?_cons_zero]; rfl)) (fun K hK => ?_) AllReadyF.nil
          go_simp
          have ba := (Below.refl w3.heap.size w3).alloc (Nat.le_refl _) (Obj.cells #[.iface TS VS] 131)
          have kd4 := kd3.alloc (Obj.cells #[.iface TS VS] 131)
          have od4 := od3.alloc (Obj.cells #[.iface TS VS] 131)
          have bx4 := bx3.alloc (Obj.cells #[.iface TS VS] 131)
          have bd4 := bd3.alloc bd3.size (Obj.cells #[.iface TS VS] 131)
          have hz4 : w3.heap.size + 1 = (w3.alloc (Obj.cells #[.iface TS VS] 131)).heap.size := by simp
          refine hK.out _ _ ⟨⟨cell_kept ba hHeld.1.1, cell_kept ba hHeld.1.2.1, cell_kept ba hHeld.1.2.2⟩, (cell_kept ba hHeld.2)⟩ (fun hNew => ?_)
          clear hK K hHeld
          have hHeld := hNew
          clear hNew
          try simp only [Act.put, List.setIfInBounds_toArray, List.set_cons_zero, List.set_cons_succ]
          clear kd3 od3 bx3 bd3 ba
          refine wpAnyF_ready (rs := [5]) (by kernel_rfl) (by simp) ?_
          refine AllReadyF.last (by (simp only [List.getElem?_toArray, List.getElem?_cons_succ, List.getElem?_cons_zero]; rfl)) (by kernel_rfl) (fun K hK => ?_) AllReadyF.nil
          refine step_append_at _ (by rfl) (.tmp 31) (.tmp 34) 125 (by rfl) (wo.heap.size + 1) 131 l0 .nilIface 1 16 Tryz.underlying125 hl hx0 hx1 hx2 rfl (by decide) (.slice Al k cl) k (lnsV (l.take k)) (by rfl) od4 ⟨w3.heap.size, 0, none⟩ 1 1 [.iface TS VS] (by rfl) rfl (cells_one1 _ _ _) (by intro u hu; rw [List.mem_singleton] at hu; rw [hu]; rfl) (by unfold maxLen; omega) (by omega) (by omega) ?_
          intro v5 w5 o5 g5 hat5
          have bd5 := bd4.trans (grown_below od4 g5 (B := wo.heap.size) (by omega) (by omega))
          have kd5 := kd4.grown g5 (fun e => by have := od4.lt _ e.symm; omega)
          have bx5 := bx4.grown g5 (fun e => by have := HQA.out _ e.symm; omega)
          have o6 : w5.ownsRow (wo.heap.size + 1) 131 1 v5 (k + 1) (lnsV (l.take (k + 1))) := by rw [HTK.out]; unfold lnsV; rw [List.map_append, List.map_cons, HTV.out]; exact o5
          obtain ⟨A5, c5, hv5⟩ := own_shape o6
          subst hv5
          have bx6 := bx5.far (p := ⟨wo.heap.size, 0, none⟩) (by simp only; omega) (.slice A5 (k + 1) c5)
          have f5 := kd5.frozen 0
          have e5 := (kd5.cell 0).trans (rfl : _ = some (Value.slice Al k cl))
          have a6 : _ ∧ _ ∧ _ := ⟨(bx6.cell 0).trans rfl, (bx6.cell 1).trans rfl, (bx6.cell 2).trans rfl⟩
          have H5 := hide (show Bk (w5.setCell ⟨wo.heap.size, 0, none⟩ (.slice A5 (k + 1) c5)) wo.heap.size #[.slice A5 (k + 1) c5, .pointer (some ⟨pm, 0, none⟩)] 127 ∧ (w5.setCell ⟨wo.heap.size, 0, none⟩ (.slice A5 (k + 1) c5)).ownsRow (wo.heap.size + 1) 131 1 (.slice A5 (k + 1) c5) (k + 1) (lnsV (l.take (k + 1))) ∧ Below wo.heap.size wo (w5.setCell ⟨wo.heap.size, 0, none⟩ (.slice A5 (k + 1) c5)) from ⟨by have := kd5.set_ 0 (.slice A5 (k + 1) c5); simpa using this, ownsRow_setCell_below o6 (a := ⟨wo.heap.size, 0, none⟩) (Nat.lt_succ_self _) _, bd5.setCell (Nat.le_refl _) _⟩)
          clear o5 g5 hat5 o6 bd5 kd5 bx6 kd4 od4 bx4 bd4
          refine hK.out _ _ ⟨(bx5.cell 0).trans rfl, (bx5.cell 1).trans rfl, (bx5.cell 2).trans rfl⟩ ?_
          clear hK K
          try simp only [Act.put, List.setIfInBounds_toArray, List.set_cons_zero, List.set_cons_succ]
          refine wpAnyF_take (i := 6) (v := ?_) (by (simp only [List.getElem?_toArray, List.getElem?_cons_succ, List.getElem?_cons_zero]; rfl)) (by kernel_rfl) (by kernel_rfl) (by kernel_rfl) (by decide) (by exact fun _ _ _ h => h) ⟨⟨(bx5.cell 0).trans rfl, (bx5.cell 1).trans rfl, (bx5.cell 2).trans rfl⟩, .inl (by kernel_rfl)⟩ (Or.inl ⟨by rfl, ?_⟩) ?_
          rotate_left
          · (intro w' _; go_simp <;> with_reducible rfl)
          try simp only [Act.put, List.setIfInBounds_toArray, List.set_cons_zero, List.set_cons_succ]
          refine wpAnyF_ready (rs := [7]) (by kernel_rfl) (by simp) ?_
          refine AllReadyF.last (by (simp only [List.getElem?_toArray, List.getElem?_cons_succ, List.getElem?_cons_zero]; rfl)) (by kernel_rfl) (fun K hK => ?_) AllReadyF.nil
          go_simp
          refine hK.out _ _ a6 ?_
          clear hK K
          try simp only [Act.put, List.setIfInBounds_toArray, List.set_cons_zero, List.set_cons_succ]
          refine wpAnyF_done (by kernel_rfl) ?_ _
          go_wp2
          go_roundw
          case rel => exact ⟨k + 1, _, by omega, by go_num, H5.out⟩
          case measure => simp [intOf]; omega
        · have hkl : k = L := by omega
          rw [hkl, List.take_of_length_le (by omega)] at ov
          have ov' : wr.ownsRow (wo.heap.size + 1) 131 1 vl L (lnsV l) := ov
          have D1 := HD.out.below hb2
          have orow := D1.cs.row
          have hti : (m.cs.take i).length = i := by rw [List.length_take]; omega
          have orow0 := HD.out.cs
          rw [hti] at orow
          obtain ⟨Ao, co, rfl⟩ := own_shape orow
          obtain ⟨Av, cv, rfl⟩ := own_shape ov'
          have y0 := (D1.b.cell 0).trans (rfl : _ = some (Value.slice Ao i co))
          have f0 := D1.b.frozen 0
          have c0 := (kc.cell 0).trans (rfl : _ = some (Value.slice Av L cv))
          have c1 := (kc.cell 1).trans (rfl : _ = some (Value.pointer (some ⟨pm, 0, none⟩)))
          have hf : ∀ b, (Value.slice Av L cv).ownBlock = some b → (Value.slice Ao i co).ownBlock ≠ some b ∧ ∀ x ∈ us, x.ownBlock ≠ some b := fun b e => by
            have h1 := ov'.lt b e
            refine ⟨fun e2 => ?_, fun x hx e2 => ?_⟩
            · have := orow0.row.lt b e2; omega
            · have := orow0.lt hx e2; omega
          have HTI := hide hti
          have HFR := hide hf
          have HD1 := hide D1
          have ov2 := own_mono (base' := pm + 1 + 1) ov' (by omega)
          clear ov hti hf D1 orow0 kc hb2 ov'
          have PU := hide (show ∀ v' w4, w4.ownsRow (pm + 1 + 1) 127 2 v' (i + 1) (cchV pm us ++ [.slice Av L cv, .pointer (some ⟨pm, 0, none⟩)]) → (wr.alloc (.cells #[.slice Av L cv, .pointer (some ⟨pm, 0, none⟩)] 127)).grownBy w4 (Value.slice Ao i co).ownBlock → (v'.ownBlock = (Value.slice Ao i co).ownBlock ∨ v'.ownBlock = some (wr.alloc (.cells #[.slice Av L cv, .pointer (some ⟨pm, 0, none⟩)] 127)).heap.size) → Bld w (w4.setCell ⟨pm + 1, 0, none⟩ v') w.heap.size pm #[.slice (some ⟨b, off, none⟩) m.cs.length c, .slice A' m.mem.length c'] m (.slice AM m.mem.length cM) v' (m.cs.take (i + 1)) (us ++ [.slice Av L cv]) ∧ w4.cell? ⟨pm + 1, 0, none⟩ = some (.slice Ao i co) ∧ w4.frozen? ⟨pm + 1, 0, none⟩ = false from fun v' w4 ho hg hat => by
            have DA := HD1.out.below ((Below.refl wr.heap.size wr).alloc (Nat.le_refl _) (.cells #[.slice Av L cv, .pointer (some ⟨pm, 0, none⟩)] 127))
            have hP := DA.push (l := l) (by rw [hll]; exact ov2.alloc _) HFR.out (by rw [HTI.out]; exact ho) hg hat
            rw [← HT.out] at hP
            have k44 := DA.b.grown hg (fun e => by have := orow.lt _ e.symm; omega)
            exact ⟨hP, (k44.cell 0).trans rfl, k44.frozen 0⟩)
          have hone : ∀ u ∈ [Value.slice Av L cv, .pointer (some ⟨pm, 0, none⟩)], u.oneCell' = true := by
            intro u hu
            simp only [List.mem_cons, List.not_mem_nil, or_false] at hu
            rcases hu with hu | hu <;> (rw [hu]; rfl)
          have hmx : i + 1 ≤ maxLen := by unfold maxLen; omega
          have h32 : (i + 1) * 32 ≤ 140737488355328 := by omega
          have hpz : pm + 1 + 1 ≤ wr.heap.size + 1 := by omega
          have orow1 := orow.alloc (.cells #[.slice Av L cv, .pointer (some ⟨pm, 0, none⟩)] 127)
          have ct := cells_two wr (.slice Av L cv) (.pointer (some ⟨pm, 0, none⟩)) 127
          have hpz1 : pm + 1 + 1 ≤ (wr.alloc (.cells #[.slice Av L cv, .pointer (some ⟨pm, 0, none⟩)] 127)).heap.size := by simp; omega
          clear orow
          go_wp2_with (at_builtin; go_loud (refine wpList_append_own_at _ rfl _ _ 78 rfl (pm + 1 + 1) 127 j0 (.agg #[.slice none 0 0, .pointer none]) 2 32 Tryz.underlying78 hj hy0 hy1 hy2 rfl (by decide) _ _ _ rfl orow1 ⟨_, 0, none⟩ 1 1 [.slice Av L cv, .pointer (some ⟨pm, 0, none⟩)] rfl rfl ct hone hmx h32 hpz1 ?_; intro v' w4 hown' hgrow _ hat; have h5 := PU.out v' w4 hown' hgrow hat; obtain ⟨A4, c4, rfl⟩ := own_shape hown'; obtain ⟨h6, y4, f4⟩ := h5; have HH4 := hide h6; clear hown' hgrow hat h6))
          go_roundw
          case rel => exact ⟨i + 1, _, _, by omega, by go_num, HH4.out⟩
          case measure => simp [intOf]; omega
    · have hie : i = m.cs.length := by omega
      rw [hie, List.take_of_length_le (by omega)] at D
      have hor := D.cs.row
      obtain ⟨gv, co, cur, hv, _⟩ := own_open hor (by omega)
      subst hv
      have y0 := (D.b.cell 0).trans (rfl : _ = some (Value.slice (some ⟨gv, 0, none⟩) m.cs.length co))
      have y1 := (D.b.cell 1).trans (rfl : _ = some (Value.pointer (some ⟨pm, 0, none⟩)))
      have z0 := (D.res.cell 0).trans (rfl : _ = some (Value.slice none 0 0))
      have z1 := (D.res.cell 1).trans (rfl : _ = some (Value.pointer none))
      have f0 := D.res.frozen 0
      have f1 := D.res.frozen 1
      have HD := hide D
      have HN := hide (show 0 < m.cs.length by omega)
      clear D hor
      go_wp2
      refine bodyPost_ret (v := .agg #[.slice (some ⟨gv, 0, none⟩) m.cs.length co, .pointer (some ⟨pm, 0, none⟩)]) (by simp [results, Tryz.results30, go_sem, z0, z1]) rfl ?_
      obtain ⟨gv2, c2, e2, hB, hBl⟩ := HD.out.bus HN.out _ _ rfl
      simp only [Value.slice.injEq, Option.some.injEq, Addr.mk.injEq, and_true, true_and] at e2
      obtain ⟨rfl, rfl⟩ := e2
      exact ⟨gv, co, pm, .slice AM m.mem.length cM, us, rfl, hB, hBl⟩
end Go.Proofs.YtnnfkmjhaljplaaGreat
namespace Go.Proofs.YtnnfkmjhaljplaaGreat
open Go.RowKit
theorem liV_Z : liV lnZ = .iface 167 (.agg #[]) := liV_0 rfl
/-- What a bus's method leaves. -/
def BusPost (base gv c pm : Nat) (m' : Mac) (vm : Value) (us : List Value) (w w' : World) : Prop := ∃ vm', Bus w' base gv c pm m' vm' us ∧ Moved vm vm' w ∧ But (BusS pm vm us) w w'
section
variable {base gv c pm n L : Nat} {vm : Value} {us : List Value} {m m1 m2 : Mac} {w w1 w2 : World}
theorem BusPost.refl (h : Bus w base gv c pm m vm us) : BusPost base gv c pm m vm us w w := ⟨vm, h, .inl rfl, But.refl _ _⟩
theorem BusPost.trans (h : BusPost base gv c pm m1 vm us w w1) (k : ∀ vm', Bus w1 base gv c pm m1 vm' us → BusPost base gv c pm m2 vm' us w1 w2) : BusPost base gv c pm m2 vm us w w2 := by
  obtain ⟨v1, b1, mv1, bt1⟩ := h
  obtain ⟨v2, b2, mv2, bt2⟩ := k v1 b1
  exact ⟨v2, b2, moved_trans mv1 mv2 bt1.size, bt1.trans bt2 fun x hx => BusS.moved mv1 hx⟩
/-- What lies beside the bus stays. -/
theorem BusPost.bk (h : BusPost base gv c pm m1 vm us w w1) {g : Nat} {cs : Array Value} {t : TypeId} (hk : Bk w g cs t) (hg : ¬ BusS pm vm us g) : Bk w1 g cs t := by
  obtain ⟨_, _, _, b⟩ := h
  exact b.bk hk hg
theorem BusPost.size (h : BusPost base gv c pm m1 vm us w w1) : w.heap.size ≤ w1.heap.size := by
  obtain ⟨_, _, _, b⟩ := h
  exact b.size
end
set_option maxRecDepth 100000 in
set_option maxHeartbeats 800000 in
theorem letGo_any {base gv c pm n L i k b cu : Nat} {vm : Value} {us : List Value} {m : Mac} {w : World} {a : Int} (h : Bus w base gv c pm m vm us) (G : GoodM n L m) (hi : i < n) (hk : k < L) (hu : us[i]? = some (.slice (some ⟨b, 0, none⟩) L cu)) (ha : 0 ≤ a) (hp : a % (L : Int) = (k : Int)) :
    Calls Tryz.prog 58 #[.agg #[.slice (some ⟨b, 0, none⟩) L cu, .pointer (some ⟨pm, 0, none⟩)], .int .i64 a] w fun e w' => e = .returned (.tuple #[]) ∧ BusPost base gv c pm (letM i k m) vm us w w' := by
  have hL : 1 ≤ L ∧ L ≤ 1000 := by have := G.nL; omega
  have hl := h.line G.shp hi hk hu
  obtain ⟨X, hX⟩ : ∃ X, X = ln m.cs i k := ⟨_, rfl⟩
  rw [← hX] at hl
  have hbase : base ≤ w.heap.size := by have := h.gv_lt; omega
  have hQ : ¬ BusS pm vm us w.heap.size := fun e => by have := h.low e; omega
  by_cases h2 : X.k = 2
  · obtain ⟨W, hW⟩ : ∃ W, W = (w.alloc (Obj.cells #[.slice (some ⟨b, 0, none⟩) L cu, .pointer (some ⟨pm, 0, none⟩)] 127)).alloc (Obj.cells #[.int .i64 X.a, .int .i64 X.v] 165) := ⟨_, rfl⟩
    obtain ⟨k1, k2, hz, B0⟩ := two_new _ _ _ _ _ W hW
    have hBW : Bus W base gv c pm m vm us := by rw [hW]; exact (h.alloc _).alloc _
    have cl := (h.alloc (Obj.cells #[.slice (some ⟨b, 0, none⟩) L cu, .pointer (some ⟨pm, 0, none⟩)] 127)).line G.shp hi hk hu
    rw [← hX, liV_2 h2] at cl
    have HL := hide (show letM i k m = ⟨setL m.cs i k lnZ, backM m.mem X.a X.v⟩ by unfold letM; rw [← hX, if_pos h2])
    have HW := hide hW
    have t1 := ta_MM
    have WR := hide (write_any base pm vm m.mem X.a X.v W G.ris G.memLen hBW.cell hBW.mem hBW.farM.2.2 (Nat.le_trans hbase B0.size))
    have HX := hide hX
    clear hW hX
    go_enter Tryz.func58, Tryz.ntmps58
    go_wp2_with fail
    refine (at_any b L cu k a _ _ hL ha hp cl.1).mono ?_
    rintro e w1 ⟨rfl, rfl⟩
    go_wp2_with fail
    rw [← HW.out]
    refine WR.out.mono ?_
    intro e w2 hp2
    obtain ⟨vm', rfl, b2, mv2, bt2⟩ := hBW.wrote hp2
    have K2 := bt2.bk k1 hQ
    have q0 := (K2.cell 0).trans (rfl : _ = some (Value.slice (some ⟨b, 0, none⟩) L cu))
    have l2 := b2.line G.shp hi hk hu
    obtain ⟨p1, p2⟩ := b2.put G.shp hi hu (k := k) lnZ
    rw [liV_Z] at p1 p2
    go_wp2_with fail
    refine (put_any b L cu k a _ _ _ w2 hL ha hp l2.1 l2.2).mono ?_
    rintro e w3 ⟨rfl, rfl⟩
    go_wp2
    go_end0
    refine ⟨rfl, vm', by rw [HL.out]; exact p1, ?_, ((But.of_below B0).trans bt2 fun x hx => .inl hx).trans p2 fun x hx => ?_⟩
    · exact moved_trans (v1 := vm) (.inl rfl) mv2 B0.size
    · rcases BusS.moved mv2 hx with e | e
      · exact .inl e
      · exact .inr (Nat.le_trans B0.size e)
  · have HL := hide (show letM i k m = ⟨setL m.cs i k lnZ, m.mem⟩ by unfold letM; rw [← hX, if_neg h2])
    obtain ⟨W, hW⟩ : ∃ W, W = (w.alloc (Obj.cells #[.slice (some ⟨b, 0, none⟩) L cu, .pointer (some ⟨pm, 0, none⟩)] 127)).alloc (Obj.cells #[.int .i64 0, .int .i64 0] 165) := ⟨_, rfl⟩
    obtain ⟨k1, k2, hz, B0⟩ := two_new _ _ _ _ _ W hW
    have hBW : Bus W base gv c pm m vm us := by rw [hW]; exact (h.alloc _).alloc _
    have cl := (h.alloc (Obj.cells #[.slice (some ⟨b, 0, none⟩) L cu, .pointer (some ⟨pm, 0, none⟩)] 127)).line G.shp hi hk hu
    have l2 := hBW.line G.shp hi hk hu
    obtain ⟨p1, p2⟩ := hBW.put G.shp hi hu (k := k) lnZ
    rw [liV_Z] at p1 p2
    rw [← hX] at cl l2
    have HW := hide hW
    have HP := hide (And.intro p1 p2)
    have hX01 : X.k = 0 ∨ X.k = 1 := by have := G.kind hi hk; rw [← hX] at this; omega
    have q0 := (k1.cell 0).trans (rfl : _ = some (Value.slice (some ⟨b, 0, none⟩) L cu))
    clear hW p1 p2 h2 hX
    rcases hX01 with h0 | h0
    · rw [liV_0 h0] at cl l2
      have t1 := ta_IM
      go_enter Tryz.func58, Tryz.ntmps58
      go_wp2_with fail
      refine (at_any b L cu k a _ _ hL ha hp cl.1).mono ?_
      rintro e w1 ⟨rfl, rfl⟩
      go_wp2_with fail
      rw [← HW.out]
      refine (put_any b L cu k a _ _ _ W hL ha hp l2.1 l2.2).mono ?_
      rintro e w3 ⟨rfl, rfl⟩
      go_wp2
      go_end0
      exact ⟨rfl, vm, by rw [HL.out]; exact HP.out.1, .inl rfl, (But.of_below B0).trans HP.out.2 fun x hx => .inl hx⟩
    · rw [liV_1 h0] at cl l2
      have t1 := ta_SM
      go_enter Tryz.func58, Tryz.ntmps58
      go_wp2_with fail
      refine (at_any b L cu k a _ _ hL ha hp cl.1).mono ?_
      rintro e w1 ⟨rfl, rfl⟩
      go_wp2_with fail
      rw [← HW.out]
      refine (put_any b L cu k a _ _ _ W hL ha hp l2.1 l2.2).mono ?_
      rintro e w3 ⟨rfl, rfl⟩
      go_wp2
      go_end0
      exact ⟨rfl, vm, by rw [HL.out]; exact HP.out.1, .inl rfl, (But.of_below B0).trans HP.out.2 fun x hx => .inl hx⟩
set_option maxRecDepth 100000 in
set_option maxHeartbeats 800000 in
theorem share_any {base gv c pm n L i k b cu : Nat} {vm : Value} {us : List Value} {m : Mac} {w : World} {a : Int} (h : Bus w base gv c pm m vm us) (G : GoodM n L m) (hi : i < n) (hk : k < L) (hu : us[i]? = some (.slice (some ⟨b, 0, none⟩) L cu)) (ha : 0 ≤ a) (hp : a % (L : Int) = (k : Int)) :
    Calls Tryz.prog 83 #[.agg #[.slice (some ⟨b, 0, none⟩) L cu, .pointer (some ⟨pm, 0, none⟩)], .int .i64 a] w fun e w' => e = .returned (.tuple #[]) ∧ BusPost base gv c pm (shaM k a m i) vm us w w' := by
  have hL : 1 ≤ L ∧ L ≤ 1000 := by have := G.nL; omega
  have hl := h.line G.shp hi hk hu
  obtain ⟨X, hX⟩ : ∃ X, X = ln m.cs i k := ⟨_, rfl⟩
  rw [← hX] at hl
  have hbase : base ≤ w.heap.size := by have := h.gv_lt; omega
  have hQ : ¬ BusS pm vm us w.heap.size := fun e => by have := h.low e; omega
  have hQ1 : ¬ BusS pm vm us (w.heap.size + 1) := fun e => by have := h.low e; omega
  by_cases h2 : X.k = 2
  · obtain ⟨W, hW⟩ : ∃ W, W = (w.alloc (Obj.cells #[.slice (some ⟨b, 0, none⟩) L cu, .pointer (some ⟨pm, 0, none⟩)] 127)).alloc (Obj.cells #[.int .i64 X.a, .int .i64 X.v] 165) := ⟨_, rfl⟩
    obtain ⟨k1, k2, hz, B0⟩ := two_new _ _ _ _ _ W hW
    have hBW : Bus W base gv c pm m vm us := by rw [hW]; exact (h.alloc _).alloc _
    have cl := (h.alloc (Obj.cells #[.slice (some ⟨b, 0, none⟩) L cu, .pointer (some ⟨pm, 0, none⟩)] 127)).line G.shp hi hk hu
    rw [← hX, liV_2 h2] at cl
    have HW := hide hW
    have t1 := ta_MM
    by_cases hxa : X.a = a
    · have HL := hide (show shaM k a m i = ⟨setL m.cs i k ⟨1, X.a, X.v⟩, backM m.mem X.a X.v⟩ by unfold shaM; rw [← hX, if_pos ⟨h2, hxa⟩])
      have f0 : (X.a == a) = true := beq_iff_eq.2 hxa
      clear hW hX hxa
      go_enter Tryz.func83, Tryz.ntmps83
      go_wp2_with fail
      refine (at_any b L cu k a _ _ hL ha hp cl.1).mono ?_
      rintro e w1 ⟨rfl, rfl⟩
      go_wp2_with fail
      rw [← HW.out]
      refine (isOfM_any X.a X.v a W).mono ?_
      rintro e w2 ⟨rfl, b2⟩
      rw [f0]
      have hB2 := hBW.below b2
      have K1 := k1.kept b2
      have K2 := k2.kept b2
      have B2 := B0.trans (b2.mono B0.size)
      have q1 := (K1.cell 1).trans (rfl : _ = some (Value.pointer (some ⟨pm, 0, none⟩)))
      have x0 := (K2.cell 0).trans (rfl : _ = some (Value.int .i64 X.a))
      have x1 := (K2.cell 1).trans (rfl : _ = some (Value.int .i64 X.v))
      go_wp2_with fail
      refine (write_any base pm vm m.mem X.a X.v w2 G.ris G.memLen hB2.cell hB2.mem hB2.farM.2.2 (Nat.le_trans hbase B2.size)).mono ?_
      intro e w3 hp2
      obtain ⟨vm', rfl, b3, mv3, bt3⟩ := hB2.wrote hp2
      have J1 := bt3.bk K1 hQ
      have J2 := bt3.bk K2 hQ1
      clear q1 x0 x1
      have q0 := (J1.cell 0).trans (rfl : _ = some (Value.slice (some ⟨b, 0, none⟩) L cu))
      have x0 := (J2.cell 0).trans (rfl : _ = some (Value.int .i64 X.a))
      have x1 := (J2.cell 1).trans (rfl : _ = some (Value.int .i64 X.v))
      have l3 := b3.line G.shp hi hk hu
      obtain ⟨p1, p2⟩ := b3.put G.shp hi hu (k := k) ⟨1, X.a, X.v⟩
      rw [liV_1 (x := ⟨1, X.a, X.v⟩) rfl] at p1 p2
      go_wp2_with fail
      refine (put_any b L cu k a _ _ _ w3 hL ha hp l3.1 l3.2).mono ?_
      rintro e w4 ⟨rfl, rfl⟩
      go_wp2
      go_end0
      refine ⟨rfl, vm', by rw [HL.out]; exact p1, ?_, ((But.of_below B2).trans bt3 fun x hx => .inl hx).trans p2 fun x hx => ?_⟩
      · exact moved_trans (v1 := vm) (.inl rfl) mv3 B2.size
      · rcases BusS.moved mv3 hx with e | e
        · exact .inl e
        · exact .inr (Nat.le_trans B2.size e)
    · have HL := hide (show shaM k a m i = m by unfold shaM; rw [← hX, if_neg (fun e => hxa e.2)])
      have f0 : (X.a == a) = false := beq_eq_false_iff_ne.2 hxa
      clear hW hX hxa
      go_enter Tryz.func83, Tryz.ntmps83
      go_wp2_with fail
      refine (at_any b L cu k a _ _ hL ha hp cl.1).mono ?_
      rintro e w1 ⟨rfl, rfl⟩
      go_wp2_with fail
      rw [← HW.out]
      refine (isOfM_any X.a X.v a W).mono ?_
      rintro e w2 ⟨rfl, b2⟩
      rw [f0]
      go_wp2
      go_end0
      exact ⟨rfl, vm, by rw [HL.out]; exact hBW.below b2, .inl rfl, But.of_below (B0.trans (b2.mono B0.size))⟩
  · have HL := hide (show shaM k a m i = m by unfold shaM; rw [← hX, if_neg (fun e => h2 e.1)])
    obtain ⟨W, hW⟩ : ∃ W, W = (w.alloc (Obj.cells #[.slice (some ⟨b, 0, none⟩) L cu, .pointer (some ⟨pm, 0, none⟩)] 127)).alloc (Obj.cells #[.int .i64 0, .int .i64 0] 165) := ⟨_, rfl⟩
    obtain ⟨k1, k2, hz, B0⟩ := two_new _ _ _ _ _ W hW
    have hBW : Bus W base gv c pm m vm us := by rw [hW]; exact (h.alloc _).alloc _
    have cl := (h.alloc (Obj.cells #[.slice (some ⟨b, 0, none⟩) L cu, .pointer (some ⟨pm, 0, none⟩)] 127)).line G.shp hi hk hu
    rw [← hX] at cl
    have hX01 : X.k = 0 ∨ X.k = 1 := by have := G.kind hi hk; rw [← hX] at this; omega
    have HF := hide (And.intro hBW B0)
    have HW := hide hW
    clear h2 hX k1 k2 hW
    rcases hX01 with h0 | h0
    · rw [liV_0 h0] at cl
      have t1 := ta_IM
      go_enter Tryz.func83, Tryz.ntmps83
      go_wp2_with fail
      refine (at_any b L cu k a _ _ hL ha hp cl.1).mono ?_
      rintro e w1 ⟨rfl, rfl⟩
      go_wp2
      go_end0
      rw [← HW.out]
      exact ⟨rfl, vm, by rw [HL.out]; exact HF.out.1, .inl rfl, But.of_below HF.out.2⟩
    · rw [liV_1 h0] at cl
      have t1 := ta_SM
      go_enter Tryz.func83, Tryz.ntmps83
      go_wp2_with fail
      refine (at_any b L cu k a _ _ hL ha hp cl.1).mono ?_
      rintro e w1 ⟨rfl, rfl⟩
      go_wp2
      go_end0
      rw [← HW.out]
      exact ⟨rfl, vm, by rw [HL.out]; exact HF.out.1, .inl rfl, But.of_below HF.out.2⟩
end Go.Proofs.YtnnfkmjhaljplaaGreat
namespace Go.Proofs.YtnnfkmjhaljplaaGreat
open Go.RowKit
theorem share_step (k : Nat) (a : Int) (m : Mac) (i : Nat) : (List.range (i + 1)).foldl (shaM k a) m = shaM k a ((List.range i).foldl (shaM k a) m) i := by rw [List.range_succ, List.foldl_append]; rfl
theorem drop_step (k : Nat) (a : Int) (m : Mac) (i : Nat) : (List.range (i + 1)).foldl (dropM k a) m = dropM k a ((List.range i).foldl (dropM k a) m) i := by rw [List.range_succ, List.foldl_append]; rfl
theorem share_good {n L k : Nat} {m : Mac} (G : GoodM n L m) (hk : k < L) (a : Int) {i : Nat} (hi : i ≤ n) : GoodM n L ((List.range i).foldl (shaM k a) m) := (shareAll_ok hk a _ m G fun j hj => by rw [List.mem_range] at hj; omega).good
theorem drop_good {n L k : Nat} {m : Mac} (G : GoodM n L m) (hk : k < L) (a : Int) {i : Nat} (hi : i ≤ n) : GoodM n L ((List.range i).foldl (dropM k a) m) := (dropAll_ok hk a _ m G fun j hj => by rw [List.mem_range] at hj; omega).good
theorem fieldV (x y z : Value) (w : World) : (Instr.field 129 (.agg #[x, y, z]) 2).run Tryz.prog w = .ok z w := by kernel_rfl
theorem isM_shared {x : Ev} {a : Int} (h : x.k = 1 ∨ x.k = 2) : (x.a == a) = decide (isM a x) := by
  by_cases hx : x.a = a
  · rw [beq_iff_eq.2 hx, decide_eq_true (show isM a x from ⟨by omega, hx⟩)]
  · rw [beq_eq_false_iff_ne.2 hx, decide_eq_false (fun e => hx e.2)]
theorem BusPost.trans2 {base gv c pm : Nat} {vm : Value} {us : List Value} {m1 m2 : Mac} {w w1 w2 : World} (h : BusPost base gv c pm m1 vm us w w1) {vI : Value} (k : BusPost base gv c pm m2 vI us w1 w2) (hv : Moved vm vI w) (hs : ∀ x, BusS pm vI us x → BusS pm vm us x ∨ w.heap.size ≤ x) : BusPost base gv c pm m2 vm us w w2 := by
  obtain ⟨_, _, _, bt1⟩ := h
  obtain ⟨v2, b2, mv2, bt2⟩ := k
  exact ⟨v2, b2, moved_trans hv mv2 bt1.size, bt1.trans bt2 hs⟩
set_option maxRecDepth 100000 in
set_option maxHeartbeats 3200000 in
theorem load_any {base gv c pm n L i0 k b cu : Nat} {vm : Value} {us : List Value} {m : Mac} {w : World} {a : Int} (h : Bus w base gv c pm m vm us) (G : GoodM n L m) (hi0 : i0 < n) (hk : k < L) (hu : us[i0]? = some (.slice (some ⟨b, 0, none⟩) L cu)) (ha : 0 ≤ a) (hp : a % (L : Int) = (k : Int)) :
    Calls Tryz.prog 59 #[.agg #[.slice (some ⟨gv, 0, none⟩) n c, .pointer (some ⟨pm, 0, none⟩)], .agg #[.slice (some ⟨b, 0, none⟩) L cu, .pointer (some ⟨pm, 0, none⟩)], .int .i64 a] w fun e w' => e = .returned (.int .i64 (ln (loadM i0 k a m).cs i0 k).v) ∧ BusPost base gv c pm (loadM i0 k a m) vm us w w' := by
  have hL : 1 ≤ L ∧ L ≤ 1000 := by have := G.nL; omega
  have hfv := fieldV
  have hn4 : n ≤ 4 := G.nL.2.1
  have hn := G.shp.1
  obtain ⟨X, hX⟩ : ∃ X, X = ln m.cs i0 k := ⟨_, rfl⟩
  have nS0 : ¬ BusS pm vm us w.heap.size := fun e => by have := h.low e; omega
  have nS1 : ¬ BusS pm vm us (w.heap.size + 1) := fun e => by have := h.low e; omega
  have hbl : b < w.heap.size := (h.low (.inr (.inr ⟨_, List.mem_of_getElem? hu, rfl⟩))).2
  have hbpm : b ≠ pm := (h.far _ (List.mem_of_getElem? hu) b rfl).2.1
  obtain ⟨W, hW⟩ : ∃ W, W = (w.alloc (Obj.cells #[.slice (some ⟨gv, 0, none⟩) n c, .pointer (some ⟨pm, 0, none⟩)] 81)).alloc (Obj.cells #[.slice (some ⟨b, 0, none⟩) L cu, .pointer (some ⟨pm, 0, none⟩)] 127) := ⟨_, rfl⟩
  obtain ⟨k1, k2, hz, B0⟩ := two_new _ _ _ _ _ W hW
  have hBW : Bus W base gv c pm m vm us := by rw [hW]; exact (h.alloc _).alloc _
  have cl := hBW.line G.shp hi0 hk hu
  rw [← hX] at cl
  have hkd := G.kind hi0 hk
  rw [← hX] at hkd
  have HX := hide hX
  have HW := hide hW
  have q0 := (k2.cell 0).trans (rfl : _ = some (Value.slice (some ⟨b, 0, none⟩) L cu))
  clear hW hX
  go_enter Tryz.func59, Tryz.ntmps59
  go_upto_region 1 with fail
  rw [← HW.out]
  go_cut [15] (fun s wx => s = .bool (!decide (isM a X)) ∧ Below W.heap.size W wx)
  case first =>
    rcases hkd with h0 | h0 | h0
    · have e0 : decide (isM a X) = false := decide_eq_false (fun e => e.1 h0)
      rw [liV_0 h0] at cl
      have hm := mthI
      go_wp2_with fail
      refine (at_any b L cu k a _ W hL ha hp cl.1).mono ?_
      rintro e w1 ⟨rfl, rfl⟩
      go_wp2_with fail
      refine (isOfI_any a W).mono ?_
      rintro e w2 ⟨rfl, b2⟩
      go_wp2_with fail
      go_meet
      exact ⟨by rw [e0]; rfl, b2⟩
    · have e0 := isM_shared (x := X) (a := a) (.inl h0)
      rw [liV_1 h0] at cl
      have hm := mthS
      go_wp2_with fail
      refine (at_any b L cu k a _ W hL ha hp cl.1).mono ?_
      rintro e w1 ⟨rfl, rfl⟩
      go_wp2_with fail
      refine (isOfS_any X.a X.v a W).mono ?_
      rintro e w2 ⟨rfl, b2⟩
      rw [e0]
      go_wp2_with fail
      go_meet
      exact ⟨rfl, b2⟩
    · have e0 := isM_shared (x := X) (a := a) (.inr h0)
      rw [liV_2 h0] at cl
      have hm := mthM
      go_wp2_with fail
      refine (at_any b L cu k a _ W hL ha hp cl.1).mono ?_
      rintro e w1 ⟨rfl, rfl⟩
      go_wp2_with fail
      refine (isOfM_any X.a X.v a W).mono ?_
      rintro e w2 ⟨rfl, b2⟩
      rw [e0]
      go_wp2_with fail
      go_meet
      exact ⟨rfl, b2⟩
  case rest =>
    obtain ⟨rfl, b2⟩ := hcut
    have BC := b2
    have hB2 := hBW.below b2
    have K1 := k1.kept b2
    have K2 := k2.kept b2
    have B2 := B0.trans (b2.mono B0.size)
    clear q0 cl k1 k2 b2 hBW
    by_cases hM : isM a X
    · rw [decide_eq_true hM, Bool.not_true]
      have HL := hide (show loadM i0 k a m = m by unfold loadM; rw [if_pos (by rw [← HX.out]; exact hM)])
      have q0 := (K2.cell 0).trans (rfl : _ = some (Value.slice (some ⟨b, 0, none⟩) L cu))
      have l2 := hB2.line G.shp hi0 hk hu
      rw [← HX.out] at l2
      have hne : X.k ≠ 0 := hM.1
      clear hM
      go_wp2_with fail
      refine (at_any b L cu k a _ wc hL ha hp l2.1).mono ?_
      rintro e w3 ⟨rfl, rfl⟩
      go_wp2_with fail
      refine (lineOf_any X wc hkd (fun e => absurd e hne)).mono ?_
      rintro e w3 ⟨rfl, b3⟩
      go_wp2
      go_ret
      exact ⟨ret_int (by rw [HL.out, ← HX.out]), vm, by rw [HL.out]; exact hB2.below b3, .inl rfl, But.of_below (B2.trans (b3.mono B2.size))⟩
    · rw [decide_eq_false hM, Bool.not_false]
      have HL := hide (show loadM i0 k a m = ⟨setL (shareAll k a m).cs i0 k ⟨1, a, readM (shareAll k a m).mem a⟩, (shareAll k a m).mem⟩ by unfold loadM; rw [if_neg (by rw [← HX.out]; exact hM)])
      have HSA := hide (show (List.range n).foldl (shaM k a) m = shareAll k a m by unfold shareAll; rw [hn])
      have x0 := (K1.cell 0).trans (rfl : _ = some (Value.slice (some ⟨gv, 0, none⟩) n c))
      have P0 : BusPost base gv c pm ((List.range 0).foldl (shaM k a) m) vm us W wc := ⟨vm, hB2, .inl rfl, But.of_below BC⟩
      clear hM
      go_wp2
      clear x0
      go_loopw [19] (fun s wr => ∃ i : Nat, i ≤ n ∧ s = .int .i64 i ∧ Bk wr w.heap.size #[.slice (some ⟨gv, 0, none⟩) n c, .pointer (some ⟨pm, 0, none⟩)] 81 ∧ Bk wr (w.heap.size + 1) #[.slice (some ⟨b, 0, none⟩) L cu, .pointer (some ⟨pm, 0, none⟩)] 127 ∧ Hid (BusPost base gv c pm ((List.range i).foldl (shaM k a) m) vm us W wr)) (fun s _ => n - (intOf s).toNat)
      case atStart => exact ⟨0, Nat.zero_le _, rfl, K1, K2, hide P0⟩
      case round =>
        clear hB2 K1 K2 B2 P0
        obtain ⟨i, hin, rfl, K1, K2, HP⟩ := hrel
        obtain ⟨vI, bI, mvI, btI⟩ := HP.out
        have GI := share_good G hk a hin
        by_cases hlt : i < n
        · obtain ⟨b', cu', hu', hLc, hcm, hbb, hbl, c0, c1, _⟩ := bI.get GI.shp (by omega) hlt
          have HS := hide (share_step k a m i)
          have SH := hide (share_any (bI.alloc (Obj.cells #[.slice (some ⟨b', 0, none⟩) L cu', .pointer (some ⟨pm, 0, none⟩)] 127)) GI hlt hk hu' ha hp)
          have hs1 := btI.size
          have nA0 : ¬ BusS pm vI us w.heap.size := fun e => by rcases BusS.moved mvI e with e | e; exact nS0 e; omega
          have nA1 : ¬ BusS pm vI us (w.heap.size + 1) := fun e => by rcases BusS.moved mvI e with e | e; exact nS1 e; omega
          have KA1 := K1.alloc (Obj.cells #[.slice (some ⟨b', 0, none⟩) L cu', .pointer (some ⟨pm, 0, none⟩)] 127)
          have KA2 := K2.alloc (Obj.cells #[.slice (some ⟨b', 0, none⟩) L cu', .pointer (some ⟨pm, 0, none⟩)] 127)
          have PA : BusPost base gv c pm ((List.range i).foldl (shaM k a) m) vm us W (wr.alloc (Obj.cells #[.slice (some ⟨b', 0, none⟩) L cu', .pointer (some ⟨pm, 0, none⟩)] 127)) := ⟨vI, bI.alloc _, mvI, btI.trans (S' := fun _ => False) (But.of_below ((Below.refl _ _).alloc (Nat.le_refl _) _)) (fun _ e => e.elim)⟩
          have HK := hide (And.intro KA1 (And.intro KA2 PA))
          have HMV := hide (And.intro mvI (fun x (hx : BusS pm vI us x) => BusS.moved mvI hx))
          clear bI mvI btI K1 K2 KA1 KA2 PA
          go_wp2_with fail
          refine SH.out.mono ?_
          rintro e w4 ⟨rfl, hpost⟩
          go_wp2
          go_roundw
          case rel =>
            exact ⟨i + 1, by omega, by go_num, hpost.bk HK.out.1 nA0, hpost.bk HK.out.2.1 nA1, hide (by rw [HS.out]; exact HK.out.2.2.trans2 hpost HMV.out.1 HMV.out.2)⟩
          case measure => simp [intOf]; omega
        · have hie : i = n := by omega
          have HSA2 := HSA.out
          rw [← hie] at HSA2
          obtain ⟨MM, hMM⟩ : ∃ MM, MM = (List.range i).foldl (shaM k a) m := ⟨_, rfl⟩
          rw [← hMM] at bI GI HSA2
          have GM := GI
          have HMM := hide HSA2
          obtain ⟨AM, cM, rfl⟩ := own_shape bI.mem
          have hMl : MM.mem.length ≤ maxLen := by have := GM.memLen; unfold maxLen; omega
          have a0 := (show Bk wr.drew (w.heap.size + 1) #[.slice (some ⟨b, 0, none⟩) L cu, .pointer (some ⟨pm, 0, none⟩)] 127 from K2).cell 0 |>.trans (rfl : _ = some (Value.slice (some ⟨b, 0, none⟩) L cu))
          have a1 := (show Bk wr.drew w.heap.size #[.slice (some ⟨gv, 0, none⟩) n c, .pointer (some ⟨pm, 0, none⟩)] 81 from K1).cell 1 |>.trans (rfl : _ = some (Value.pointer (some ⟨pm, 0, none⟩)))
          have a2 := (show Bk wr.drew pm #[.slice AM MM.mem.length cM] 123 from bI.cell).cell 0 |>.trans (rfl : _ = some (Value.slice AM MM.mem.length cM))
          clear hMM HSA2 HP GI
          go_wp2_with fail
          refine wp_region_F 13 (fun w' => w'.cell? ⟨w.heap.size + 1, 0, none⟩ = some (Value.slice (some ⟨b, 0, none⟩) L cu) ∧ w'.cell? ⟨w.heap.size, 1, none⟩ = some (Value.pointer (some ⟨pm, 0, none⟩)) ∧ w'.cell? ⟨pm, 0, none⟩ = some (Value.slice AM MM.mem.length cM)) (fun w' => True) (by kernel_rfl) ⟨⟨a0, a1, a2⟩, trivial⟩ (fun hHeld => ?_)
          try simp only [Act.put, List.setIfInBounds_toArray, List.set_cons_zero, List.set_cons_succ]
          have bM2 : Bus wr.drew base gv c pm MM (.slice AM MM.mem.length cM) us := bI.below (Below.refl _ _).drew
          have btD : But (BusS pm vm us) W wr.drew := btI.trans (S' := fun _ => False) (But.of_below (Below.refl _ _).drew) (fun _ e => e.elim)
          have kd2 : Bk wr.drew (w.heap.size + 1) #[.slice (some ⟨b, 0, none⟩) L cu, .pointer (some ⟨pm, 0, none⟩)] 127 := K2
          have hzd : w.heap.size + 1 < wr.drew.heap.size := K2.lt
          clear a0 a1 a2 K1 K2 bI btI
          generalize wr.drew = wy at *
          refine wpAnyF_take (i := 0) (v := ?_) (by (simp only [List.getElem?_toArray, List.getElem?_cons_zero]; rfl)) (by kernel_rfl) (by kernel_rfl) (by kernel_rfl) (by decide) (by exact fun _ _ _ h => h) ⟨hHeld.1, .inr hHeld.2⟩ (Or.inl ⟨by rfl, ?_⟩) ?_
          rotate_left
          · (intro w' _; go_simp <;> with_reducible rfl)
          try simp only [Act.put, List.setIfInBounds_toArray, List.set_cons_zero, List.set_cons_succ]
          refine wpAnyF_keep (i := 1) (v := ?_) (by (simp only [List.getElem?_toArray, List.getElem?_cons_succ, List.getElem?_cons_zero]; rfl)) (by kernel_rfl) (by kernel_rfl) (by kernel_rfl) (by decide) (by exact fun _ _ _ h => h) ⟨hHeld.1, .inr hHeld.2⟩ (Or.inl ⟨by rfl, ?_⟩) ?_
          rotate_left
          · (intro w' hSw; (try dsimp only at hSw); obtain ⟨hSa0, hSa1, hSa2⟩ := hSw; go_simp <;> with_reducible rfl)
          try simp only [Act.put, List.setIfInBounds_toArray, List.set_cons_zero, List.set_cons_succ]
          refine wpAnyF_take (i := 2) (v := ?_) (by (simp only [List.getElem?_toArray, List.getElem?_cons_succ, List.getElem?_cons_zero]; rfl)) (by kernel_rfl) (by kernel_rfl) (by kernel_rfl) (by decide) (by exact fun _ _ _ h => h) ⟨hHeld.1, .inr hHeld.2⟩ (Or.inl ⟨by rfl, ?_⟩) ?_
          rotate_left
          · (intro w' _; go_simp <;> with_reducible rfl)
          try simp only [Act.put, List.setIfInBounds_toArray, List.set_cons_zero, List.set_cons_succ]
          refine wpAnyF_take (i := 3) (v := ?_) (by (simp only [List.getElem?_toArray, List.getElem?_cons_succ, List.getElem?_cons_zero]; rfl)) (by kernel_rfl) (by kernel_rfl) (by kernel_rfl) (by decide) (by exact fun _ _ _ h => h) ⟨hHeld.1, .inr hHeld.2⟩ (Or.inl ⟨by rfl, ?_⟩) ?_
          rotate_left
          · (intro w' _; go_simp <;> with_reducible rfl)
          try simp only [Act.put, List.setIfInBounds_toArray, List.set_cons_zero, List.set_cons_succ]
          refine wpAnyF_take (i := 4) (v := ?_) (by (simp only [List.getElem?_toArray, List.getElem?_cons_succ, List.getElem?_cons_zero]; rfl)) (by kernel_rfl) (by kernel_rfl) (by kernel_rfl) (by decide) (by exact fun _ _ _ h => h) ⟨hHeld.1, .inr hHeld.2⟩ (Or.inl ⟨by rfl, ?_⟩) ?_
          rotate_left
          · (intro w' _; go_simp <;> with_reducible rfl)
          try simp only [Act.put, List.setIfInBounds_toArray, List.set_cons_zero, List.set_cons_succ]
          refine wpAnyF_keep (i := 5) (v := ?_) (by (simp only [List.getElem?_toArray, List.getElem?_cons_succ, List.getElem?_cons_zero]; rfl)) (by kernel_rfl) (by kernel_rfl) (by kernel_rfl) (by decide) (by exact fun _ _ _ h => h) ⟨hHeld.1, .inr hHeld.2⟩ (Or.inl ⟨by rfl, ?_⟩) ?_
          rotate_left
          · (intro w' hSw; (try dsimp only at hSw); obtain ⟨hSa0, hSa1, hSa2⟩ := hSw; go_simp <;> with_reducible rfl)
          try simp only [Act.put, List.setIfInBounds_toArray, List.set_cons_zero, List.set_cons_succ]
          refine wpAnyF_take (i := 6) (v := ?_) (by (simp only [List.getElem?_toArray, List.getElem?_cons_succ, List.getElem?_cons_zero]; rfl)) (by kernel_rfl) (by kernel_rfl) (by kernel_rfl) (by decide) (by exact fun _ _ _ h => h) ⟨hHeld.1, .inr hHeld.2⟩ (Or.inl ⟨by rfl, ?_⟩) ?_
          rotate_left
          · (intro w' _; go_simp <;> with_reducible rfl)
          try simp only [Act.put, List.setIfInBounds_toArray, List.set_cons_zero, List.set_cons_succ]
          refine wpAnyF_keep (i := 7) (v := ?_) (by (simp only [List.getElem?_toArray, List.getElem?_cons_succ, List.getElem?_cons_zero]; rfl)) (by kernel_rfl) (by kernel_rfl) (by kernel_rfl) (by decide) (by exact fun _ _ _ h => h) ⟨hHeld.1, .inr hHeld.2⟩ (Or.inl ⟨by rfl, ?_⟩) ?_
          rotate_left
          · (intro w' hSw; (try dsimp only at hSw); obtain ⟨hSa0, hSa1, hSa2⟩ := hSw; go_simp <;> with_reducible rfl)
          try simp only [Act.put, List.setIfInBounds_toArray, List.set_cons_zero, List.set_cons_succ]
          refine wpAnyF_take (i := 8) (v := ?_) (by (simp only [List.getElem?_toArray, List.getElem?_cons_succ, List.getElem?_cons_zero]; rfl)) (by kernel_rfl) (by kernel_rfl) (by kernel_rfl) (by decide) (by exact fun _ _ _ h => h) ⟨hHeld.1, .inr hHeld.2⟩ (Or.inl ⟨by rfl, ?_⟩) ?_
          rotate_left
          · (intro w' _; go_simp <;> with_reducible rfl)
          try simp only [Act.put, List.setIfInBounds_toArray, List.set_cons_zero, List.set_cons_succ]
          refine wpAnyF_ready (rs := [9]) (by kernel_rfl) (by simp) ?_
          refine AllReadyF.cons (by (simp only [List.getElem?_toArray, List.getElem?_cons_succ, List.getElem?_cons_zero]; rfl)) (fun K hK => ?_) AllReadyF.nil
          go_simp
          go_at_call 84
          refine (valueAt_any MM.mem AM cM a _ hMl (RdC.of_own bM2.mem)).mono ?_
          rintro e wv ⟨rfl, bv⟩
          have bM3 := bM2.below bv
          have btV := btD.trans (S' := fun _ => False) (But.of_below bv) (fun _ e => e.elim)
          have kv2 := kd2.kept bv
          have hzv : w.heap.size + 1 < wv.heap.size := kv2.lt
          have A3 : wv.cell? ⟨w.heap.size + 1, 0, none⟩ = some (Value.slice (some ⟨b, 0, none⟩) L cu) ∧ wv.cell? ⟨w.heap.size, 1, none⟩ = some (Value.pointer (some ⟨pm, 0, none⟩)) ∧ wv.cell? ⟨pm, 0, none⟩ = some (Value.slice AM MM.mem.length cM) := ⟨cell_kept bv hHeld.1.1, cell_kept bv hHeld.1.2.1, cell_kept bv hHeld.1.2.2⟩
          refine hK.out _ _ ⟨A3, trivial⟩ (fun hNew => ?_)
          clear hK K hHeld
          have hHeld := hNew
          clear hNew
          try simp only [Act.put, List.setIfInBounds_toArray, List.set_cons_zero, List.set_cons_succ]
          refine wpAnyF_take (i := 10) (v := ?_) (by (simp only [List.getElem?_toArray, List.getElem?_cons_succ, List.getElem?_cons_zero]; rfl)) (by kernel_rfl) (by kernel_rfl) (by kernel_rfl) (by decide) (by exact fun _ _ _ h => h) ⟨hHeld.1, .inr hHeld.2⟩ (Or.inl ⟨by rfl, ?_⟩) ?_
          rotate_left
          · (intro w' _; go_simp <;> with_reducible rfl)
          try simp only [Act.put, List.setIfInBounds_toArray, List.set_cons_zero, List.set_cons_succ]
          refine wpAnyF_take (i := 11) (v := ?_) (by (simp only [List.getElem?_toArray, List.getElem?_cons_succ, List.getElem?_cons_zero]; rfl)) (by kernel_rfl) (by kernel_rfl) (by kernel_rfl) (by decide) (by exact fun _ _ _ h => h) ⟨hHeld.1, .inr hHeld.2⟩ (Or.inl ⟨by rfl, ?_⟩) ?_
          rotate_left
          · (intro w' _; go_simp <;> with_reducible rfl)
          try simp only [Act.put, List.setIfInBounds_toArray, List.set_cons_zero, List.set_cons_succ]
          refine wpAnyF_take (i := 12) (v := ?_) (by (simp only [List.getElem?_toArray, List.getElem?_cons_succ, List.getElem?_cons_zero]; rfl)) (by kernel_rfl) (by kernel_rfl) (by kernel_rfl) (by decide) (by exact fun _ _ _ h => h) ⟨hHeld.1, .inr hHeld.2⟩ (Or.inl ⟨by rfl, ?_⟩) ?_
          rotate_left
          · (intro w' _; go_simp <;> with_reducible rfl)
          try simp only [Act.put, List.setIfInBounds_toArray, List.set_cons_zero, List.set_cons_succ]
          refine wpAnyF_ready (rs := [13]) (by kernel_rfl) (by simp) ?_
          refine AllReadyF.last (by (simp only [List.getElem?_toArray, List.getElem?_cons_succ, List.getElem?_cons_zero]; rfl)) (by kernel_rfl) (fun K hK => ?_) AllReadyF.nil
          go_simp
          have l3 := bM3.line GM.shp hi0 hk hu
          have PP := bM3.put GM.shp hi0 hu (k := k) ⟨1, a, readM MM.mem a⟩
          rw [liV_1 (x := ⟨1, a, readM MM.mem a⟩) rfl] at PP
          obtain ⟨p1, p2⟩ := PP
          go_at_call 82
          refine (put_any b L cu k a _ _ _ wv hL ha hp l3.1 l3.2).mono ?_
          rintro e wp ⟨rfl, rfl⟩
          have k52 := kv2.far (p := ⟨b, k, none⟩) (by simp only; omega) (.iface 164 (.agg #[.int .i64 a, .int .i64 (readM MM.mem a)]))
          have A4 := (⟨(World.cell?_setCell_far wv ⟨b, k, none⟩ ⟨w.heap.size + 1, 0, none⟩ (.iface 164 (.agg #[.int .i64 a, .int .i64 (readM MM.mem a)])) (by simp only; omega)).trans A3.1, (World.cell?_setCell_far wv ⟨b, k, none⟩ ⟨w.heap.size, 1, none⟩ (.iface 164 (.agg #[.int .i64 a, .int .i64 (readM MM.mem a)])) (by simp only; omega)).trans A3.2.1, (World.cell?_setCell_far wv ⟨b, k, none⟩ ⟨pm, 0, none⟩ (.iface 164 (.agg #[.int .i64 a, .int .i64 (readM MM.mem a)])) hbpm).trans A3.2.2⟩ : _ ∧ _ ∧ _)
          refine hK.out _ _ A4 ?_
          clear hK K
          try simp only [Act.put, List.setIfInBounds_toArray, List.set_cons_zero, List.set_cons_succ]
          refine wpAnyF_done (by kernel_rfl) ?_ _
          have l5 := p1.line (GoodM.shp GM |>.set_ hi0 _) hi0 hk hu
          have e5 : ln (setL MM.cs i0 k ⟨1, a, readM MM.mem a⟩) i0 k = ⟨1, a, readM MM.mem a⟩ := by rw [GM.shp.ln_set hi0 hk, if_pos ⟨rfl, rfl⟩]
          have l6 := l5.1
          simp only at l6
          rw [e5, liV_1 (x := ⟨1, a, readM MM.mem a⟩) rfl] at l6
          have q5 := A4.1
          have LO := fun W => lineOf_any ⟨1, a, readM MM.mem a⟩ W (.inr (.inl rfl)) (fun e => by simp at e)
          rw [liV_1 (x := ⟨1, a, readM MM.mem a⟩) rfl] at LO
          have HLO := hide LO
          clear LO
          have HE := hide e5
          have HA4 := hide A4
          clear e5 l5 A4 A3 hHeld
          go_wp2_with fail
          refine (at_any b L cu k a _ _ hL ha hp l6).mono ?_
          rintro e w6 ⟨rfl, rfl⟩
          go_wp2_with fail
          refine (HLO.out _).mono ?_
          rintro e w6 ⟨rfl, b6⟩
          go_wp2
          go_ret
          refine ⟨ret_int (by rw [HL.out, ← HMM.out, HE.out]), _, by rw [HL.out, ← HMM.out]; exact p1.below b6, moved_trans (v1 := vm) (.inl rfl) mvI B0.size, ?_⟩
          exact ((But.of_below B0).trans (btV.trans p2 fun x hx => (BusS.moved mvI hx)) fun x hx => .inl hx).trans (S' := fun _ => False) (But.of_below b6) fun _ e => e.elim
end Go.Proofs.YtnnfkmjhaljplaaGreat
namespace Go.Proofs.YtnnfkmjhaljplaaGreat
open Go.RowKit
set_option maxRecDepth 100000 in
set_option maxHeartbeats 3200000 in
theorem store_any {base gv c pm n L i0 k b cu : Nat} {vm : Value} {us : List Value} {m : Mac} {w : World} {a v : Int} (h : Bus w base gv c pm m vm us) (G : GoodM n L m) (hi0 : i0 < n) (hk : k < L) (hu : us[i0]? = some (.slice (some ⟨b, 0, none⟩) L cu)) (ha : 0 ≤ a) (hp : a % (L : Int) = (k : Int)) :
    Calls Tryz.prog 60 #[.agg #[.slice (some ⟨gv, 0, none⟩) n c, .pointer (some ⟨pm, 0, none⟩)], .agg #[.slice (some ⟨b, 0, none⟩) L cu, .pointer (some ⟨pm, 0, none⟩)], .agg #[.int .i64 a, .int .i64 v]] w fun e w' => e = .returned (.int .i64 v) ∧ BusPost base gv c pm (storeM i0 k a v m) vm us w w' := by
  have hL : 1 ≤ L ∧ L ≤ 1000 := by have := G.nL; omega
  have hn4 : n ≤ 4 := G.nL.2.1
  have hn := G.shp.1
  obtain ⟨X, hX⟩ : ∃ X, X = ln m.cs i0 k := ⟨_, rfl⟩
  have nS0 : ¬ BusS pm vm us w.heap.size := fun e => by have := h.low e; omega
  have nS1 : ¬ BusS pm vm us (w.heap.size + 1) := fun e => by have := h.low e; omega
  have nS2 : ¬ BusS pm vm us (w.heap.size + 1 + 1) := fun e => by have := h.low e; omega
  have hbl : b < w.heap.size := (h.low (.inr (.inr ⟨_, List.mem_of_getElem? hu, rfl⟩))).2
  obtain ⟨W, hW⟩ : ∃ W, W = ((w.alloc (Obj.cells #[.slice (some ⟨gv, 0, none⟩) n c, .pointer (some ⟨pm, 0, none⟩)] 81)).alloc (Obj.cells #[.slice (some ⟨b, 0, none⟩) L cu, .pointer (some ⟨pm, 0, none⟩)] 127)).alloc (Obj.cells #[.int .i64 a, .int .i64 v] 139) := ⟨_, rfl⟩
  obtain ⟨k1, k2, k3, hz, B0⟩ := three_new _ _ _ _ _ _ _ W hW
  have hBW : Bus W base gv c pm m vm us := by rw [hW]; exact ((h.alloc _).alloc _).alloc _
  have cl := hBW.line G.shp hi0 hk hu
  rw [← hX] at cl
  have hkd := G.kind hi0 hk
  rw [← hX] at hkd
  have HX := hide hX
  have HW := hide hW
  have q0 := (k2.cell 0).trans (rfl : _ = some (Value.slice (some ⟨b, 0, none⟩) L cu))
  have q1 := (k3.cell 0).trans (rfl : _ = some (Value.int .i64 a))
  clear hW hX
  go_enter Tryz.func60, Tryz.ntmps60
  go_upto_region 1 with fail
  rw [← HW.out]
  go_cut [8] (fun s wx => s = .bool (decide (X.k = 2)) ∧ Below W.heap.size W wx)
  case first =>
    rcases hkd with h0 | h0 | h0
    · have e0 : decide (X.k = 2) = false := decide_eq_false (by omega)
      rw [liV_0 h0] at cl
      have t1 := ta_IM
      go_wp2_with fail
      refine (at_any b L cu k a _ W hL ha hp cl.1).mono ?_
      rintro e w1 ⟨rfl, rfl⟩
      go_wp2_with fail
      go_meet
      exact ⟨by rw [e0], (Below.refl _ _).alloc (Nat.le_refl _) _⟩
    · have e0 : decide (X.k = 2) = false := decide_eq_false (by omega)
      rw [liV_1 h0] at cl
      have t1 := ta_SM
      go_wp2_with fail
      refine (at_any b L cu k a _ W hL ha hp cl.1).mono ?_
      rintro e w1 ⟨rfl, rfl⟩
      go_wp2_with fail
      go_meet
      exact ⟨by rw [e0], (Below.refl _ _).alloc (Nat.le_refl _) _⟩
    · have e0 : decide (X.k = 2) = true := decide_eq_true h0
      rw [liV_2 h0] at cl
      have t1 := ta_MM
      go_wp2_with fail
      refine (at_any b L cu k a _ W hL ha hp cl.1).mono ?_
      rintro e w1 ⟨rfl, rfl⟩
      go_wp2_with fail
      go_meet
      exact ⟨by rw [e0], (Below.refl _ _).alloc (Nat.le_refl _) _⟩
  case rest =>
    obtain ⟨rfl, b2⟩ := hcut
    have BC := b2
    have hB2 := hBW.below b2
    have K1 := k1.kept b2
    have K2 := k2.kept b2
    have K3 := k3.kept b2
    have B2 := B0.trans (b2.mono B0.size)
    clear q0 q1 cl k1 k2 k3 b2 hBW
    by_cases hM : X.k = 2
    · rw [decide_eq_true hM]
      have HL := hide (show storeM i0 k a v m = ⟨setL m.cs i0 k ⟨2, a, v⟩, m.mem⟩ by unfold storeM; rw [if_pos (by rw [← HX.out]; exact hM)])
      clear hM
      have y0 := (K2.cell 0).trans (rfl : _ = some (Value.slice (some ⟨b, 0, none⟩) L cu))
      have y1 := (K3.cell 0).trans (rfl : _ = some (Value.int .i64 a))
      have y2 := (K3.cell 1).trans (rfl : _ = some (Value.int .i64 v))
      have l9 := hB2.line G.shp hi0 hk hu
      obtain ⟨p1, p2⟩ := hB2.put G.shp hi0 hu (k := k) ⟨2, a, v⟩
      rw [liV_2 (x := ⟨2, a, v⟩) rfl] at p1 p2
      have K9 := K3.far (p := ⟨b, k, none⟩) (by simp only; omega) (.iface 165 (.agg #[.int .i64 a, .int .i64 v]))
      go_wp2_with fail
      refine (put_any b L cu k a _ _ _ _ hL ha hp l9.1 l9.2).mono ?_
      rintro e w9 ⟨rfl, rfl⟩
      clear y0 y1 y2
      have y2 := (K9.cell 1).trans (rfl : _ = some (Value.int .i64 v))
      go_wp2
      go_ret
      exact ⟨rfl, vm, by rw [HL.out]; exact p1, .inl rfl, (But.of_below B2).trans p2 fun x hx => .inl hx⟩
    · rw [decide_eq_false hM]
      have HL := hide (show storeM i0 k a v m = ⟨setL (dropAll k a m).cs i0 k ⟨2, a, v⟩, (dropAll k a m).mem⟩ by unfold storeM; rw [if_neg (by rw [← HX.out]; exact hM)])
      have HSA := hide (show (List.range n).foldl (dropM k a) m = dropAll k a m by unfold dropAll; rw [hn])
      have x0 := (K1.cell 0).trans (rfl : _ = some (Value.slice (some ⟨gv, 0, none⟩) n c))
      have P0 : BusPost base gv c pm ((List.range 0).foldl (dropM k a) m) vm us W wc := ⟨vm, hB2, .inl rfl, But.of_below BC⟩
      clear hM
      go_wp2
      clear x0
      go_loopw [25] (fun s wr => ∃ i : Nat, i ≤ n ∧ s = .int .i64 i ∧ Bk wr w.heap.size #[.slice (some ⟨gv, 0, none⟩) n c, .pointer (some ⟨pm, 0, none⟩)] 81 ∧ Bk wr (w.heap.size + 1) #[.slice (some ⟨b, 0, none⟩) L cu, .pointer (some ⟨pm, 0, none⟩)] 127 ∧ Bk wr (w.heap.size + 1 + 1) #[.int .i64 a, .int .i64 v] 139 ∧ Hid (BusPost base gv c pm ((List.range i).foldl (dropM k a) m) vm us W wr)) (fun s _ => n - (intOf s).toNat)
      case atStart => exact ⟨0, Nat.zero_le _, rfl, K1, K2, K3, hide P0⟩
      case round =>
        clear hB2 K1 K2 K3 B2 P0
        obtain ⟨i, hin, rfl, K1, K2, K3, HP⟩ := hrel
        obtain ⟨vI, bI, mvI, btI⟩ := HP.out
        have GI := drop_good G hk a hin
        by_cases hlt : i < n
        · obtain ⟨b', cu', hu', hLc, hcm, hbb, hbl', c0, c1, _⟩ := bI.get GI.shp (by omega) hlt
          have HS := hide (drop_step k a m i)
          have hs1 := btI.size
          have nA0 : ¬ BusS pm vI us w.heap.size := fun e => by rcases BusS.moved mvI e with e | e; exact nS0 e; omega
          have nA1 : ¬ BusS pm vI us (w.heap.size + 1) := fun e => by rcases BusS.moved mvI e with e | e; exact nS1 e; omega
          have nA2 : ¬ BusS pm vI us (w.heap.size + 1 + 1) := fun e => by rcases BusS.moved mvI e with e | e; exact nS2 e; omega
          have KA1 := K1.alloc (Obj.cells #[.slice (some ⟨b', 0, none⟩) L cu', .pointer (some ⟨pm, 0, none⟩)] 127)
          have KA2 := K2.alloc (Obj.cells #[.slice (some ⟨b', 0, none⟩) L cu', .pointer (some ⟨pm, 0, none⟩)] 127)
          have KA3 := K3.alloc (Obj.cells #[.slice (some ⟨b', 0, none⟩) L cu', .pointer (some ⟨pm, 0, none⟩)] 127)
          have KA4 := Bk.new wr #[.slice (some ⟨b', 0, none⟩) L cu', .pointer (some ⟨pm, 0, none⟩)] 127
          have bA := bI.alloc (Obj.cells #[.slice (some ⟨b', 0, none⟩) L cu', .pointer (some ⟨pm, 0, none⟩)] 127)
          have btA : But (BusS pm vm us) W (wr.alloc (Obj.cells #[.slice (some ⟨b', 0, none⟩) L cu', .pointer (some ⟨pm, 0, none⟩)] 127)) := btI.trans (S' := fun _ => False) (But.of_below ((Below.refl _ _).alloc (Nat.le_refl _) _)) (fun _ e => e.elim)
          have hz2 : (wr.alloc (Obj.cells #[.slice (some ⟨b', 0, none⟩) L cu', .pointer (some ⟨pm, 0, none⟩)] 127)).heap.size = wr.heap.size + 1 := by simp
          have hwl := K3.lt
          clear bI btI K1 K2 K3
          obtain ⟨Mi, hMi⟩ : ∃ Mi, Mi = (List.range i).foldl (dropM k a) m := ⟨_, rfl⟩
          rw [← hMi] at GI bA HS HP
          have lY := bA.line GI.shp hlt hk hu'
          obtain ⟨Y, hY⟩ : ∃ Y, Y = ln Mi.cs i k := ⟨_, rfl⟩
          have hkY := GI.kind hlt hk
          rw [← hY] at lY hkY
          have HYy := hide hY
          have HMi := hide hMi
          clear hY hMi
          go_upto_region 6 with fail
          generalize wr.alloc (Obj.cells #[.slice (some ⟨b', 0, none⟩) L cu', .pointer (some ⟨pm, 0, none⟩)] 127) = W2 at *
          have q0 := (KA4.cell 0).trans (rfl : _ = some (Value.slice (some ⟨b', 0, none⟩) L cu'))
          have q1 := (KA3.cell 0).trans (rfl : _ = some (Value.int .i64 a))
          go_cut [36] (fun s wx => s = .bool (decide (isM a Y)) ∧ Below W2.heap.size W2 wx)
          case first =>
            rcases hkY with h0 | h0 | h0
            · have e0 : decide (isM a Y) = false := decide_eq_false (fun e => e.1 h0)
              have hY := liV_0 h0
              have hm := mthI
              have AT := hide (fun V (hV : Below W2.heap.size W2 V) => at_any b' L cu' k a (liV Y) V hL ha hp (by rw [hV.cell (by simp only; omega)]; exact lY.1))
              rw [hY] at AT
              clear hY lY
              go_region_held3 (fun w' => w'.cell? ⟨wr.heap.size, 0, none⟩ = some (Value.slice (some ⟨b', 0, none⟩) L cu') ∧ w'.cell? ⟨w.heap.size + 1 + 1, 0, none⟩ = some (Value.int .i64 a) ∧ Below W2.heap.size W2 w')
                (first | assumption | exact ⟨q0, q1, (Below.refl _ _).drew⟩ | (go_split_ands; exact ⟨cell_kept (by assumption) (by assumption), cell_kept (by assumption) (by assumption), Below.trans (by assumption) (Below.mono (by assumption) (Below.size (by assumption)))⟩))
                (first
                  | (go_at_call 57; (with_reducible refine (AT.out _ ?_).mono ?_); (go_split_ands; assumption); rintro e wa ⟨rfl, rfl⟩)
                  | (go_at_call 125; (with_reducible refine (isOfI_any a _).mono ?_); rintro e wb ⟨rfl, bb⟩))
              all_goals
                go_wp2_with fail
                go_meet
                exact ⟨by first | rfl | (rw [e0]; done) | (rw [← e0]; done) | simp [e0], by go_split_ands; assumption⟩
            · have e0 := isM_shared (x := Y) (a := a) (.inl h0)
              have hY := liV_1 h0
              have hm := mthS
              have AT := hide (fun V (hV : Below W2.heap.size W2 V) => at_any b' L cu' k a (liV Y) V hL ha hp (by rw [hV.cell (by simp only; omega)]; exact lY.1))
              rw [hY] at AT
              clear hY lY
              go_region_held3 (fun w' => w'.cell? ⟨wr.heap.size, 0, none⟩ = some (Value.slice (some ⟨b', 0, none⟩) L cu') ∧ w'.cell? ⟨w.heap.size + 1 + 1, 0, none⟩ = some (Value.int .i64 a) ∧ Below W2.heap.size W2 w')
                (first | assumption | exact ⟨q0, q1, (Below.refl _ _).drew⟩ | (go_split_ands; exact ⟨cell_kept (by assumption) (by assumption), cell_kept (by assumption) (by assumption), Below.trans (by assumption) (Below.mono (by assumption) (Below.size (by assumption)))⟩))
                (first
                  | (go_at_call 57; (with_reducible refine (AT.out _ ?_).mono ?_); (go_split_ands; assumption); rintro e wa ⟨rfl, rfl⟩)
                  | (go_at_call 124; (with_reducible refine (isOfS_any Y.a Y.v a _).mono ?_); rintro e wb ⟨rfl, bb⟩))
              all_goals
                go_wp2_with fail
                go_meet
                exact ⟨by first | rfl | (rw [e0]; done) | (rw [← e0]; done) | simp [e0], by go_split_ands; assumption⟩
            · have e0 := isM_shared (x := Y) (a := a) (.inr h0)
              have hY := liV_2 h0
              have hm := mthM
              have AT := hide (fun V (hV : Below W2.heap.size W2 V) => at_any b' L cu' k a (liV Y) V hL ha hp (by rw [hV.cell (by simp only; omega)]; exact lY.1))
              rw [hY] at AT
              clear hY lY
              go_region_held3 (fun w' => w'.cell? ⟨wr.heap.size, 0, none⟩ = some (Value.slice (some ⟨b', 0, none⟩) L cu') ∧ w'.cell? ⟨w.heap.size + 1 + 1, 0, none⟩ = some (Value.int .i64 a) ∧ Below W2.heap.size W2 w')
                (first | assumption | exact ⟨q0, q1, (Below.refl _ _).drew⟩ | (go_split_ands; exact ⟨cell_kept (by assumption) (by assumption), cell_kept (by assumption) (by assumption), Below.trans (by assumption) (Below.mono (by assumption) (Below.size (by assumption)))⟩))
                (first
                  | (go_at_call 57; (with_reducible refine (AT.out _ ?_).mono ?_); (go_split_ands; assumption); rintro e wa ⟨rfl, rfl⟩)
                  | (go_at_call 96; (with_reducible refine (isOfM_any Y.a Y.v a _).mono ?_); rintro e wb ⟨rfl, bb⟩))
              all_goals
                go_wp2_with fail
                go_meet
                exact ⟨by first | rfl | (rw [e0]; done) | (rw [← e0]; done) | simp [e0], by go_split_ands; assumption⟩
          case rest =>
            obtain ⟨rfl, b4⟩ := hcut
            have bC := bA.below b4
            have J1 := KA1.kept b4
            have J2 := KA2.kept b4
            have J3 := KA3.kept b4
            have J4 := KA4.kept b4
            have btC := btA.trans (S' := fun _ => False) (But.of_below b4) (fun _ e => e.elim)
            clear q0 q1 bA KA1 KA2 KA3 KA4 b4 btA lY
            by_cases hM : isM a Y
            · rw [decide_eq_true hM]
              have HD := hide (show (List.range (i + 1)).foldl (dropM k a) m = letM i k Mi by rw [HS.out]; unfold dropM; rw [if_pos (by rw [← HYy.out]; exact hM)])
              have q0 := (J4.cell 0).trans (rfl : _ = some (Value.slice (some ⟨b', 0, none⟩) L cu'))
              have q1 := (J4.cell 1).trans (rfl : _ = some (Value.pointer (some ⟨pm, 0, none⟩)))
              have q2 := (J3.cell 0).trans (rfl : _ = some (Value.int .i64 a))
              have LG := hide (letGo_any bC GI hlt hk hu' ha hp)
              have HK := hide (And.intro J1 (And.intro J2 (And.intro J3 (And.intro bC btC))))
              have HMV := hide (And.intro mvI (fun x (hx : BusS pm vI us x) => BusS.moved mvI hx))
              clear hM bC btC J1 J2 J3 J4
              go_wp2_with fail
              refine LG.out.mono ?_
              rintro e w5 ⟨rfl, hpost⟩
              clear q0 q1 q2
              go_wp2
              go_roundw
              case rel => exact ⟨i + 1, by omega, by go_num, hpost.bk HK.out.1 nA0, hpost.bk HK.out.2.1 nA1, hpost.bk HK.out.2.2.1 nA2, hide (by rw [HD.out]; exact BusPost.trans2 ⟨vI, HK.out.2.2.2.1, mvI, HK.out.2.2.2.2⟩ hpost HMV.out.1 HMV.out.2)⟩
              case measure => simp [intOf]; omega
            · rw [decide_eq_false hM]
              have HD := hide (show (List.range (i + 1)).foldl (dropM k a) m = Mi by rw [HS.out]; unfold dropM; rw [if_neg (by rw [← HYy.out]; exact hM)])
              have HK := hide (And.intro bC btC)
              clear hM bC btC J4
              go_wp2
              go_roundw
              case rel => exact ⟨i + 1, by omega, by go_num, J1, J2, J3, hide (by rw [HD.out]; exact ⟨vI, HK.out.1, mvI, HK.out.2⟩)⟩
              case measure => simp [intOf]; omega
        · have hie : i = n := by omega
          have HSA2 := HSA.out
          rw [← hie] at HSA2
          obtain ⟨MM, hMM⟩ : ∃ MM, MM = (List.range i).foldl (dropM k a) m := ⟨_, rfl⟩
          rw [← hMM] at bI GI HSA2
          have HMM := hide HSA2
          clear hMM HSA2 HP hie
          have hszI := btI.size
          have y0 := (K2.cell 0).trans (rfl : _ = some (Value.slice (some ⟨b, 0, none⟩) L cu))
          have y1 := (K3.cell 0).trans (rfl : _ = some (Value.int .i64 a))
          have y2 := (K3.cell 1).trans (rfl : _ = some (Value.int .i64 v))
          have l9 := bI.line GI.shp hi0 hk hu
          obtain ⟨p1, p2⟩ := bI.put GI.shp hi0 hu (k := k) ⟨2, a, v⟩
          rw [liV_2 (x := ⟨2, a, v⟩) rfl] at p1 p2
          have K9 := K3.far (p := ⟨b, k, none⟩) (by simp only; omega) (.iface 165 (.agg #[.int .i64 a, .int .i64 v]))
          go_wp2_with fail
          refine (put_any b L cu k a _ _ _ _ hL ha hp l9.1 l9.2).mono ?_
          rintro e w9 ⟨rfl, rfl⟩
          clear y0 y1 y2
          have y2 := (K9.cell 1).trans (rfl : _ = some (Value.int .i64 v))
          go_wp2
          go_ret
          exact ⟨rfl, vI, by rw [HL.out, ← HMM.out]; exact p1, moved_trans (v1 := vm) (.inl rfl) mvI B0.size, (But.of_below B0).trans (btI.trans p2 fun x hx => (BusS.moved mvI hx)) fun x hx => .inl hx⟩
end Go.Proofs.YtnnfkmjhaljplaaGreat
namespace Go.Proofs.YtnnfkmjhaljplaaGreat
open Go.RowKit
set_option maxRecDepth 100000 in
set_option maxHeartbeats 3200000 in
theorem busDo_any {base gv c pm n L i0 : Nat} {vm : Value} {us : List Value} {m : Mac} {w : World} {o : Ev} (h : Bus w base gv c pm m vm us) (G : GoodM n L m) (hi0 : i0 < n) (ho : opF o = 0) :
    Calls Tryz.prog 31 #[.agg #[.slice (some ⟨gv, 0, none⟩) n c, .pointer (some ⟨pm, 0, none⟩)], .int .i64 i0, .agg #[.int .i64 o.k, .int .i64 o.a, .int .i64 o.v]] w fun e w' => e = .returned (.int .i64 (pDo m i0 o).2) ∧ BusPost base gv c pm (pDo m i0 o).1 vm us w w' := by
  have hL : 1 ≤ L ∧ L ≤ 1000 := by have := G.nL; omega
  have hn4 : n ≤ 4 := G.nL.2.1
  have ha : 0 ≤ o.a := (opF_zero ho).2.1.1
  obtain ⟨hk, hp⟩ := place_ok G hi0 (a := o.a)
  obtain ⟨k, hkk⟩ : ∃ k, k = placeOf m i0 o.a := ⟨_, rfl⟩
  rw [← hkk] at hk hp
  have HK := hide hkk
  clear hkk ho
  obtain ⟨X, hX⟩ : ∃ X, X = ln m.cs i0 k := ⟨_, rfl⟩
  have nS0 : ¬ BusS pm vm us w.heap.size := fun e => by have := h.low e; omega
  have nS1 : ¬ BusS pm vm us (w.heap.size + 1) := fun e => by have := h.low e; omega
  have nS2 : ¬ BusS pm vm us (w.heap.size + 1 + 1) := fun e => by have := h.low e; omega
  obtain ⟨b, cu, hu, _, _, _, hbl, _, _, _⟩ := h.get G.shp (by omega) hi0
  obtain ⟨W, hW⟩ : ∃ W, W = ((w.alloc (Obj.cells #[.slice (some ⟨gv, 0, none⟩) n c, .pointer (some ⟨pm, 0, none⟩)] 81)).alloc (Obj.cells #[.int .i64 o.k, .int .i64 o.a, .int .i64 o.v] 84)).alloc (Obj.cells #[.slice (some ⟨b, 0, none⟩) L cu, .pointer (some ⟨pm, 0, none⟩)] 127) := ⟨_, rfl⟩
  obtain ⟨k1, k2, k3, hz, B0⟩ := three_new _ _ _ _ _ _ _ W hW
  have hBW : Bus W base gv c pm m vm us := by rw [hW]; exact ((h.alloc _).alloc _).alloc _
  have cl := hBW.line G.shp hi0 hk hu
  rw [← hX] at cl
  have hkd := G.kind hi0 hk
  rw [← hX] at hkd
  have hbW : b < W.heap.size := by omega
  have GC := ((h.alloc (Obj.cells #[.slice (some ⟨gv, 0, none⟩) n c, .pointer (some ⟨pm, 0, none⟩)] 81)).alloc (Obj.cells #[.int .i64 o.k, .int .i64 o.a, .int .i64 o.v] 84)).get G.shp (by omega) hi0
  obtain ⟨b9, cu9, hu9, _, _, _, _, g0, g1, _⟩ := GC
  rw [hu] at hu9
  simp only [Option.some.injEq, Value.slice.injEq, Addr.mk.injEq, and_true, true_and] at hu9
  obtain ⟨rfl, rfl⟩ := hu9
  have HX := hide hX
  have HW := hide hW
  have q0 := (k3.cell 0).trans (rfl : _ = some (Value.slice (some ⟨b, 0, none⟩) L cu))
  have q1 := (k2.cell 1).trans (rfl : _ = some (Value.int .i64 o.a))
  clear hW hX
  go_enter Tryz.func31, Tryz.ntmps31
  go_upto_region 2 with fail
  rw [← HW.out]
  clear g0 g1
  go_cut [21] (fun s wx => s = .bool (!decide (isM o.a X)) ∧ Below W.heap.size W wx)
  case first =>
    rcases hkd with h0 | h0 | h0
    · have e0 : decide (isM o.a X) = false := decide_eq_false (fun e => e.1 h0)
      have hY := liV_0 h0
      have hm := mthI
      have AT := hide (fun V (hV : Below W.heap.size W V) => at_any b L cu k o.a (liV X) V hL ha hp (by rw [hV.cell (by simp only; omega)]; exact cl.1))
      rw [hY] at AT
      clear hY cl
      go_region_held3 (fun w' => w'.cell? ⟨w.heap.size + 1 + 1, 0, none⟩ = some (Value.slice (some ⟨b, 0, none⟩) L cu) ∧ w'.cell? ⟨w.heap.size + 1, 1, none⟩ = some (Value.int .i64 o.a) ∧ Below W.heap.size W w')
        (first | assumption | exact ⟨q0, q1, (Below.refl _ _).drew⟩ | (go_split_ands; exact ⟨cell_kept (by assumption) (by assumption), cell_kept (by assumption) (by assumption), Below.trans (by assumption) (Below.mono (by assumption) (Below.size (by assumption)))⟩))
        (first
          | (go_at_call 57; (with_reducible refine (AT.out _ ?_).mono ?_); (go_split_ands; assumption); rintro e wa ⟨rfl, rfl⟩)
          | (go_at_call 125; (with_reducible refine (isOfI_any o.a _).mono ?_); rintro e wb ⟨rfl, bb⟩))
      all_goals
        go_wp2_with fail
        go_meet
        exact ⟨by simp [e0], by go_split_ands; assumption⟩
    · have e0 := isM_shared (x := X) (a := o.a) (.inl h0)
      have hY := liV_1 h0
      have hm := mthS
      have AT := hide (fun V (hV : Below W.heap.size W V) => at_any b L cu k o.a (liV X) V hL ha hp (by rw [hV.cell (by simp only; omega)]; exact cl.1))
      rw [hY] at AT
      clear hY cl
      go_region_held3 (fun w' => w'.cell? ⟨w.heap.size + 1 + 1, 0, none⟩ = some (Value.slice (some ⟨b, 0, none⟩) L cu) ∧ w'.cell? ⟨w.heap.size + 1, 1, none⟩ = some (Value.int .i64 o.a) ∧ Below W.heap.size W w')
        (first | assumption | exact ⟨q0, q1, (Below.refl _ _).drew⟩ | (go_split_ands; exact ⟨cell_kept (by assumption) (by assumption), cell_kept (by assumption) (by assumption), Below.trans (by assumption) (Below.mono (by assumption) (Below.size (by assumption)))⟩))
        (first
          | (go_at_call 57; (with_reducible refine (AT.out _ ?_).mono ?_); (go_split_ands; assumption); rintro e wa ⟨rfl, rfl⟩)
          | (go_at_call 124; (with_reducible refine (isOfS_any X.a X.v o.a _).mono ?_); rintro e wb ⟨rfl, bb⟩))
      all_goals
        go_wp2_with fail
        go_meet
        exact ⟨by first | rw [← e0] | simp [e0], by go_split_ands; assumption⟩
    · have e0 := isM_shared (x := X) (a := o.a) (.inr h0)
      have hY := liV_2 h0
      have hm := mthM
      have AT := hide (fun V (hV : Below W.heap.size W V) => at_any b L cu k o.a (liV X) V hL ha hp (by rw [hV.cell (by simp only; omega)]; exact cl.1))
      rw [hY] at AT
      clear hY cl
      go_region_held3 (fun w' => w'.cell? ⟨w.heap.size + 1 + 1, 0, none⟩ = some (Value.slice (some ⟨b, 0, none⟩) L cu) ∧ w'.cell? ⟨w.heap.size + 1, 1, none⟩ = some (Value.int .i64 o.a) ∧ Below W.heap.size W w')
        (first | assumption | exact ⟨q0, q1, (Below.refl _ _).drew⟩ | (go_split_ands; exact ⟨cell_kept (by assumption) (by assumption), cell_kept (by assumption) (by assumption), Below.trans (by assumption) (Below.mono (by assumption) (Below.size (by assumption)))⟩))
        (first
          | (go_at_call 57; (with_reducible refine (AT.out _ ?_).mono ?_); (go_split_ands; assumption); rintro e wa ⟨rfl, rfl⟩)
          | (go_at_call 96; (with_reducible refine (isOfM_any X.a X.v o.a _).mono ?_); rintro e wb ⟨rfl, bb⟩))
      all_goals
        go_wp2_with fail
        go_meet
        exact ⟨by first | rw [← e0] | simp [e0], by go_split_ands; assumption⟩
  case rest =>
    obtain ⟨rfl, b4⟩ := hcut
    have bC := hBW.below b4
    have J1 := k1.kept b4
    have J2 := k2.kept b4
    have J3 := k3.kept b4
    have hzc := b4.size
    have btC : But (BusS pm vm us) W wc := But.of_below b4
    have mvC : Moved vm vm W := .inl rfl
    clear q0 q1 hBW k1 k2 k3 b4 cl
    have G1 := (own_ok G hi0 hk o.a).good
    by_cases hM : isM o.a X
    · rw [decide_eq_true hM, Bool.not_true]
      have hm1 : m = ownM i0 k o.a m := by unfold ownM; rw [if_pos (by rw [← HX.out]; exact hM)]
      rw [← hm1] at G1
      have HM := hide hm1
      clear hM hm1
      have y0 := (J1.cell 0).trans (rfl : _ = some (Value.slice (some ⟨gv, 0, none⟩) n c))
      have y1 := (J1.cell 1).trans (rfl : _ = some (Value.pointer (some ⟨pm, 0, none⟩)))
      have z0 := (J2.cell 0).trans (rfl : _ = some (Value.int .i64 o.k))
      have z1 := (J2.cell 1).trans (rfl : _ = some (Value.int .i64 o.a))
      have z2 := (J2.cell 2).trans (rfl : _ = some (Value.int .i64 o.v))
      have x0 := (J3.cell 0).trans (rfl : _ = some (Value.slice (some ⟨b, 0, none⟩) L cu))
      have x1 := (J3.cell 1).trans (rfl : _ = some (Value.pointer (some ⟨pm, 0, none⟩)))
      by_cases hok : o.k = 0
      · have HD := hide (show pDo m i0 o = (loadM i0 k o.a m, (ln (loadM i0 k o.a m).cs i0 k).v) by unfold pDo; rw [if_pos hok, ← HK.out, ← HM.out])
        have LD := hide (load_any bC G1 hi0 hk hu ha hp)
        have f0 : (o.k == 0) = true := beq_iff_eq.2 hok
        clear hok
        go_wp2_with fail
        refine LD.out.mono ?_
        rintro e w9 ⟨rfl, v9, b9, mv9, bt9⟩
        go_wp2
        go_ret
        exact ⟨ret_int (by rw [HD.out]), v9, by rw [HD.out]; exact b9, moved_trans (moved_trans (v1 := vm) (.inl rfl) mvC B0.size) mv9 (Nat.le_trans B0.size btC.size), ((But.of_below B0).trans (btC.trans bt9 fun x hx => BusS.moved mvC hx) fun x hx => .inl hx)⟩
      · have HD := hide (show pDo m i0 o = (storeM i0 k o.a o.v m, o.v) by unfold pDo; rw [if_neg hok, ← HK.out, ← HM.out])
        have SD := hide (store_any (v := o.v) bC G1 hi0 hk hu ha hp)
        have f0 : (o.k == 0) = false := beq_eq_false_iff_ne.2 hok
        clear hok
        go_wp2_with fail
        refine SD.out.mono ?_
        rintro e w9 ⟨rfl, v9, b9, mv9, bt9⟩
        go_wp2
        go_ret
        exact ⟨ret_int (by rw [HD.out]), v9, by rw [HD.out]; exact b9, moved_trans (moved_trans (v1 := vm) (.inl rfl) mvC B0.size) mv9 (Nat.le_trans B0.size btC.size), ((But.of_below B0).trans (btC.trans bt9 fun x hx => BusS.moved mvC hx) fun x hx => .inl hx)⟩
    · rw [decide_eq_false hM, Bool.not_false]
      have hm1 : letM i0 k m = ownM i0 k o.a m := by unfold ownM; rw [if_neg (by rw [← HX.out]; exact hM)]
      rw [← hm1] at G1
      have HM := hide hm1
      have x0 := (J3.cell 0).trans (rfl : _ = some (Value.slice (some ⟨b, 0, none⟩) L cu))
      have x1 := (J3.cell 1).trans (rfl : _ = some (Value.pointer (some ⟨pm, 0, none⟩)))
      have z1 := (J2.cell 1).trans (rfl : _ = some (Value.int .i64 o.a))
      have LG := hide (letGo_any bC G hi0 hk hu ha hp)
      clear hM hm1
      go_wp2_with fail
      refine LG.out.mono ?_
      rintro e w5 ⟨rfl, v5, b5, mv5, bt5⟩
      clear x0 x1 z1
      replace J1 := bt5.bk J1 nS0
      replace J2 := bt5.bk J2 nS1
      replace J3 := bt5.bk J3 nS2
      have btD := btC.trans bt5 fun x hx => .inl hx
      have mvD := moved_trans mvC mv5 btC.size
      clear btC mvC bC bt5 mv5
      have y0 := (J1.cell 0).trans (rfl : _ = some (Value.slice (some ⟨gv, 0, none⟩) n c))
      have y1 := (J1.cell 1).trans (rfl : _ = some (Value.pointer (some ⟨pm, 0, none⟩)))
      have z0 := (J2.cell 0).trans (rfl : _ = some (Value.int .i64 o.k))
      have z1 := (J2.cell 1).trans (rfl : _ = some (Value.int .i64 o.a))
      have z2 := (J2.cell 2).trans (rfl : _ = some (Value.int .i64 o.v))
      have x0 := (J3.cell 0).trans (rfl : _ = some (Value.slice (some ⟨b, 0, none⟩) L cu))
      have x1 := (J3.cell 1).trans (rfl : _ = some (Value.pointer (some ⟨pm, 0, none⟩)))
      by_cases hok : o.k = 0
      · have HD := hide (show pDo m i0 o = (loadM i0 k o.a (letM i0 k m), (ln (loadM i0 k o.a (letM i0 k m)).cs i0 k).v) by unfold pDo; rw [if_pos hok, ← HK.out, ← HM.out])
        have LD := hide (load_any b5 G1 hi0 hk hu ha hp)
        have f0 : (o.k == 0) = true := beq_iff_eq.2 hok
        clear hok
        go_wp2_with fail
        refine LD.out.mono ?_
        rintro e w9 ⟨rfl, v9, b9, mv9, bt9⟩
        go_wp2
        go_ret
        exact ⟨ret_int (by rw [HD.out]), v9, by rw [HD.out]; exact b9, moved_trans (moved_trans (v1 := vm) (.inl rfl) mvD B0.size) mv9 (Nat.le_trans B0.size btD.size), ((But.of_below B0).trans (btD.trans bt9 fun x hx => BusS.moved mvD hx) fun x hx => .inl hx)⟩
      · have HD := hide (show pDo m i0 o = (storeM i0 k o.a o.v (letM i0 k m), o.v) by unfold pDo; rw [if_neg hok, ← HK.out, ← HM.out])
        have SD := hide (store_any (v := o.v) b5 G1 hi0 hk hu ha hp)
        have f0 : (o.k == 0) = false := beq_eq_false_iff_ne.2 hok
        clear hok
        go_wp2_with fail
        refine SD.out.mono ?_
        rintro e w9 ⟨rfl, v9, b9, mv9, bt9⟩
        go_wp2
        go_ret
        exact ⟨ret_int (by rw [HD.out]), v9, by rw [HD.out]; exact b9, moved_trans (moved_trans (v1 := vm) (.inl rfl) mvD B0.size) mv9 (Nat.le_trans B0.size btD.size), ((But.of_below B0).trans (btD.trans bt9 fun x hx => BusS.moved mvD hx) fun x hx => .inl hx)⟩
end Go.Proofs.YtnnfkmjhaljplaaGreat
