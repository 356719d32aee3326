/- A bus in memory: its caches, each with its lines, and the memory behind a pointer. Plain lemmas. -/
import Derived.Test.YtifijhfeeammkaaWri
namespace Go.Proofs.Ytifijhfeeammkaa
open Go.RowKit

/-- A line as a state. -/
def stV (x : Ev) : Value := if x.k = 1 then .iface 202 (.agg #[.int .i64 x.a, .int .i64 x.v]) else if x.k = 2 then .iface 203 (.agg #[.int .i64 x.a, .int .i64 x.v]) else .iface 205 (.agg #[])
theorem stV_1 {x : Ev} (h : x.k = 1) : stV x = .iface 202 (.agg #[.int .i64 x.a, .int .i64 x.v]) := if_pos h
theorem stV_2 {x : Ev} (h : x.k = 2) : stV x = .iface 203 (.agg #[.int .i64 x.a, .int .i64 x.v]) := by unfold stV; rw [if_neg (by omega), if_pos h]
theorem stV_0 {x : Ev} (h : x.k = 0) : stV x = .iface 205 (.agg #[]) := by unfold stV; rw [if_neg (by omega), if_neg (by omega)]
def lnsV (l : List Ev) : List Value := l.map stV
def cchV (pm : Nat) : List Value → List Value
  | [] => []
  | u :: r => u :: .pointer (some ⟨pm, 0, none⟩) :: cchV pm r
theorem cchV_length (pm : Nat) : ∀ us, (cchV pm us).length = us.length * 2
  | [] => rfl
  | u :: r => by simp only [cchV, List.length_cons, cchV_length pm r]; omega
theorem cchV_get (pm : Nat) : ∀ (us : List Value) (i : Nat) (h : i < us.length), (cchV pm us)[i * 2]? = some us[i] ∧ (cchV pm us)[i * 2 + 1]? = some (.pointer (some ⟨pm, 0, none⟩))
  | [], i, h => absurd h (Nat.not_lt_zero _)
  | u :: r, 0, _ => ⟨rfl, rfl⟩
  | u :: r, i + 1, h => by
    have ih := cchV_get pm r i (by simpa using h)
    rw [show (i + 1) * 2 = i * 2 + 1 + 1 by omega]
    simp only [cchV, List.getElem?_cons_succ, List.getElem_cons_succ]
    exact ih
/-- A bus: base bounds its blocks from below; its caches lie in gv, its memory's cell in pm. -/
structure Bus (w : World) (base gv c pm : Nat) (m : Mac) (vm : Value) (us : List Value) : Prop where
  row : w.ownsRow base 167 2 (.slice (some ⟨gv, 0, none⟩) m.cs.length c) m.cs.length (cchV pm us)
  len : us.length = m.cs.length
  rows : ∀ (i : Nat) (u : Value) (h : i < m.cs.length), us[i]? = some u → w.ownsRow base 169 1 u m.cs[i].length (lnsV m.cs[i])
  mem : w.ownsRow base 120 2 vm m.mem.length (cels m.mem)
  cell : Bk w pm #[vm] 116
  pmg : base ≤ pm
  apart : ∀ (i j : Nat) (u u' : Value), i ≠ j → us[i]? = some u → us[j]? = some u' → ∀ b, u.ownBlock = some b → u'.ownBlock ≠ some b
  far : ∀ u ∈ us, ∀ b, u.ownBlock = some b → b ≠ gv ∧ b ≠ pm ∧ vm.ownBlock ≠ some b
  farM : pm ≠ gv ∧ vm.ownBlock ≠ some gv ∧ vm.ownBlock ≠ some pm
/-- The blocks that it turns. -/
def BusS (pm : Nat) (vm : Value) (us : List Value) (k : Nat) : Prop := k = pm ∨ vm.ownBlock = some k ∨ ∃ u ∈ us, u.ownBlock = some k
section
variable {w w' : World} {base gv c pm n L : Nat} {m : Mac} {vm vm' : Value} {us : List Value}
theorem Bus.gv_lt (h : Bus w base gv c pm m vm us) : base ≤ gv ∧ gv < w.heap.size := h.row.lt gv rfl
theorem Bus.low (h : Bus w base gv c pm m vm us) {k : Nat} (hk : BusS pm vm us k) : base ≤ k ∧ k < w.heap.size := by
  rcases hk with rfl | e | ⟨u, hu, e⟩
  · exact ⟨h.pmg, h.cell.lt⟩
  · exact h.mem.lt k e
  · obtain ⟨i, hi, rfl⟩ := List.getElem_of_mem hu
    exact (h.rows i _ (by rw [← h.len]; exact hi) (List.getElem?_eq_getElem hi)).lt k e
theorem Bus.not_gv (h : Bus w base gv c pm m vm us) : ¬ BusS pm vm us gv := by
  rintro (e | e | ⟨u, hu, e⟩)
  · exact h.farM.1 e.symm
  · exact h.farM.2.1 e
  · exact (h.far u hu gv e).1 rfl
/-- What the bus does not turn is turned: it stays. -/
theorem Bus.but {S : Nat → Prop} (h : Bus w base gv c pm m vm us) (hb : But S w w') (hs : ∀ k, S k → ¬ BusS pm vm us k ∧ k ≠ gv) : Bus w' base gv c pm m vm us :=
  ⟨hb.own h.row fun b e hS => by cases e; exact (hs gv hS).2 rfl, h.len, fun i u hi hu => hb.own (h.rows i u hi hu) fun b e hS => (hs b hS).1 (.inr (.inr ⟨u, List.mem_of_getElem? hu, e⟩)),
   hb.own h.mem fun b e hS => (hs b hS).1 (.inr (.inl e)), hb.bk h.cell fun hS => (hs pm hS).1 (.inl rfl), h.pmg, h.apart, h.far, h.farM⟩
theorem Bus.below (h : Bus w base gv c pm m vm us) (hb : Below w.heap.size w w') : Bus w' base gv c pm m vm us := h.but (S := fun _ => False) (But.of_below hb) (fun _ e => e.elim)
theorem Bus.alloc (h : Bus w base gv c pm m vm us) (o : Obj) : Bus (w.alloc o) base gv c pm m vm us := h.below ((Below.refl _ _).alloc (Nat.le_refl _) o)
/-- The memory is another one. -/
theorem Bus.wrote (h : Bus w base gv c pm m vm us) {mem' : List Cel} {e : Ending} (hp : WrPost base pm vm mem' w e w') : ∃ vm', e = .returned (.tuple #[]) ∧ Bus w' base gv c pm ⟨m.cs, mem'⟩ vm' us ∧ Moved vm vm' w ∧ But (BusS pm vm us) w w' := by
  obtain ⟨v', he, hk, ho, hm, hne, hb⟩ := hp
  have hlt : ∀ b, vm.ownBlock = some b → b < w.heap.size := fun b e => (h.mem.lt b e).2
  have hfarv : ∀ b, b < w.heap.size → vm.ownBlock ≠ some b → v'.ownBlock ≠ some b := fun b hb1 hb2 e => by
    rcases hm with e2 | ⟨x, e2, hx⟩
    · rw [e2] at e; exact hb2 e
    · rw [e2] at e; simp only [Option.some.injEq] at e; omega
  refine ⟨v', he, ⟨hb.own h.row fun b e hS => ?_, h.len, fun i u hi hu => hb.own (h.rows i u hi hu) fun b e hS => ?_, ho, hk, h.pmg, h.apart, fun u hu b e => ?_, h.farM.1, hfarv gv h.gv_lt.2 h.farM.2.1, hne⟩, hm, hb.mono fun x _ hx => ?_⟩
  · cases e
    rcases hS with e | e
    · exact h.farM.1 e.symm
    · exact h.farM.2.1 e
  · have hf := h.far u (List.mem_of_getElem? hu) b e
    rcases hS with e2 | e2
    · exact hf.2.1 e2
    · exact hf.2.2 e2
  · have hf := h.far u hu b e
    exact ⟨hf.1, hf.2.1, hfarv b (h.low (.inr (.inr ⟨u, hu, e⟩))).2 hf.2.2⟩
  · rcases hx with e | e
    · exact .inl e
    · exact .inr (.inl e)
theorem Bus.get (h : Bus w base gv c pm m vm us) (hs : Shp7 n L m.cs) (hL : 0 < L) {i : Nat} (hi : i < n) : ∃ b cu, us[i]? = some (.slice (some ⟨b, 0, none⟩) L cu) ∧ L ≤ cu ∧ cu ≤ maxLen ∧ base ≤ b ∧ b < w.heap.size ∧ w.cell? ⟨gv, i * 2, none⟩ = some (.slice (some ⟨b, 0, none⟩) L cu) ∧ w.cell? ⟨gv, i * 2 + 1, none⟩ = some (.pointer (some ⟨pm, 0, none⟩)) ∧ w.ownsRow base 169 1 (.slice (some ⟨b, 0, none⟩) L cu) L (lnsV (m.cs.getD i [])) := by
  have hi' : i < m.cs.length := by rw [hs.1]; exact hi
  have hiu : i < us.length := by rw [h.len]; exact hi'
  have ho := h.rows i _ hi' (List.getElem?_eq_getElem hiu)
  have hLi : m.cs[i].length = L := hs.2 _ (List.getElem_mem hi')
  rw [hLi] at ho
  obtain ⟨b, cu, cur, hu, hbb, hbk, hLc, hcm, _, _⟩ := own_open ho hL
  obtain ⟨g1, g2⟩ := cchV_get pm us i hiu
  refine ⟨b, cu, by rw [List.getElem?_eq_getElem hiu, hu], hLc, hcm, hbb, (show Bk w b cur _ from hbk).lt, ?_, ?_, ?_⟩
  · rw [h.row.cellAt (i * 2) (by omega), g1, hu]
  · rw [h.row.cellAt (i * 2 + 1) (by omega), g2]
  · rw [← hu, show m.cs.getD i [] = m.cs[i] by simp [hi']]
    exact ho
theorem lnsV_get {l : List Ev} {k : Nat} (hk : k < l.length) : (lnsV l)[k]? = some (stV (l.getD k lnZ)) := by
  unfold lnsV
  rw [List.getElem?_map, List.getElem?_eq_getElem hk]
  simp [hk]
/-- One line, read. -/
theorem Bus.line (h : Bus w base gv c pm m vm us) (hs : Shp7 n L m.cs) {i k : Nat} (hi : i < n) (hk : k < L) {b cu : Nat} (hu : us[i]? = some (.slice (some ⟨b, 0, none⟩) L cu)) : w.cell? ⟨b, k, none⟩ = some (stV (ln m.cs i k)) ∧ w.frozen? ⟨b, k, none⟩ = false := by
  have hi' : i < m.cs.length := by rw [hs.1]; exact hi
  have ho := h.rows i _ hi' hu
  rw [hs.2 _ (List.getElem_mem hi')] at ho
  refine ⟨?_, ho.frozenAt k⟩
  rw [ho.cellAt k (by omega), lnsV_get (by rw [hs.2 _ (List.getElem_mem hi')]; exact hk)]
  unfold ln
  rw [show m.cs.getD i [] = m.cs[i] by simp [hi']]
/-- One line, put. -/
theorem Bus.put (h : Bus w base gv c pm m vm us) (hs : Shp7 n L m.cs) {i k : Nat} (hi : i < n) {b cu : Nat} (hu : us[i]? = some (.slice (some ⟨b, 0, none⟩) L cu)) (y : Ev) : Bus (w.setCell ⟨b, k, none⟩ (stV y)) base gv c pm ⟨setL m.cs i k y, m.mem⟩ vm us ∧ But (BusS pm vm us) w (w.setCell ⟨b, k, none⟩ (stV y)) := by
  have hi' : i < m.cs.length := by rw [hs.1]; exact hi
  have hum := List.mem_of_getElem? hu
  have hf := h.far _ hum b rfl
  have ho := h.rows i _ hi' hu
  have hLi : m.cs[i].length = L := hs.2 _ (List.getElem_mem hi')
  rw [hLi] at ho
  have hst := ho.stored k (stV y)
  have hgr := grown_set w b k (stV y)
  have hB : But (fun x => x = b) w (w.setCell ⟨b, k, none⟩ (stV y)) := But.of_grown hgr fun x e => by cases e; rfl
  have hlen : (setL m.cs i k y).length = m.cs.length := setL_length _ _ _ _
  refine ⟨⟨?_, by simp only [hlen]; exact h.len, fun j u hj huj => ?_, hB.own h.mem fun x e hx => hf.2.2 (by rw [e, hx]), hB.bk h.cell fun e => hf.2.1 e.symm, h.pmg, h.apart, h.far, h.farM⟩, But.of_grown hgr fun x e => by cases e; exact .inr (.inr ⟨_, hum, rfl⟩)⟩
  · simp only [hlen]
    exact hB.own h.row fun x e hx => by cases e; exact hf.1 hx.symm
  · simp only [hlen] at hj
    have hjl : j < m.cs.length := hj
    by_cases hji : j = i
    · subst hji
      rw [hu] at huj
      cases huj
      have e : (setL m.cs j k y)[j]'(by rw [hlen]; exact hjl) = m.cs[j].set k y := by
        unfold setL
        rw [List.getElem_set_self, show m.cs.getD j [] = m.cs[j] by simp [hjl]]
      simp only [e, List.length_set, hLi]
      have e2 : lnsV (m.cs[j].set k y) = (lnsV m.cs[j]).set k (stV y) := by unfold lnsV; rw [List.map_set]
      rw [e2]
      exact hst.1
    · have e : (setL m.cs i k y)[j]'(by rw [hlen]; exact hjl) = m.cs[j] := by
        unfold setL
        rw [List.getElem_set_ne (fun e => hji e.symm)]
      simp only [e]
      exact hB.own (h.rows j u hjl huj) fun x ex hx => h.apart i j _ _ (fun e => hji e.symm) hu huj b rfl (by rw [ex, hx])
/-- It turns on in its own blocks. -/
theorem BusS.moved {k : Nat} (hm : Moved vm vm' w) (hk : BusS pm vm' us k) : BusS pm vm us k ∨ w.heap.size ≤ k := by
  rcases hk with e | e | e
  · exact .inl (.inl e)
  · rcases hm with e2 | ⟨x, e2, hx⟩
    · exact .inl (.inr (.inl (by rw [← e2]; exact e)))
    · rw [e2] at e; cases e; exact .inr hx
  · exact .inl (.inr (.inr e))
end
end Go.Proofs.Ytifijhfeeammkaa
