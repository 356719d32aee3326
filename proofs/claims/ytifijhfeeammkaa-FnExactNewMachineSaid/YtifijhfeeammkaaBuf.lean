/- Rows of two-cell elements in a block that is known whole: appended to in place, copied into, cleared, cut. Plain lemmas but for the cuts. -/
import Derived.Test.YtifijhfeeammkaaCelS
import Derived.Laws.CopyRow
import Derived.ArgAppend
import Derived.Laws.IdiomCopy
import Derived.Lib.AppendZeros
import Derived.Lib.AppendZerosOnto
namespace Go.Proofs.Ytifijhfeeammkaa
open Go.RowKit

theorem setRow_bk {w : World} {g : Nat} {cur : Array Value} {t : TypeId} (h : Bk w g cur t) (cs : Array Value) : Bk (w.setRow g cs) g cs t := setRow_heap w g cur cs t (0, 0) h
theorem setRow_grown (w : World) (g : Nat) (cs : Array Value) : w.grownBy (w.setRow g cs) (some g) :=
  ⟨rfl, rfl, rfl, by simp [World.setRow], fun k hk hne => by
    have hkg : ¬ g = k := fun e => hne (by rw [e])
    unfold World.setRow
    simp only
    rw [Array.getElem?_modify, if_neg hkg]⟩
theorem cels_eq {mem mem' : List Cel} (h : mem = mem') : cels mem = cels mem' := by rw [h]
theorem cels_take : ∀ (l : List Cel) (k : Nat), (cels l).take (k * 2) = cels (l.take k)
  | [], k => by simp [cels]
  | c :: r, 0 => by simp [cels]
  | c :: r, k + 1 => by
    rw [show (k + 1) * 2 = k * 2 + 1 + 1 by omega]
    simp only [cels, List.take_succ_cons, cels_take r k]
theorem cels_drop : ∀ (l : List Cel) (k : Nat), (cels l).drop (k * 2) = cels (l.drop k)
  | [], k => by simp [cels]
  | c :: r, 0 => by simp [cels]
  | c :: r, k + 1 => by
    rw [show (k + 1) * 2 = k * 2 + 1 + 1 by omega]
    simp only [cels, List.drop_succ_cons, cels_drop r k]
section
variable {P : Program} (w : World)
/-- append in place, where there is room: the block is known whole. -/
theorem run_append_row2 (t ty e : TypeId) (i : TypeInfo) (ht : P.underlying t = some (.slice e)) (hi : P.info? e = some i) (hsz : i.size = 2)
    (g sLen sCap : Nat) (cur : Array Value) (T : TypeId) (hg : Bk w g cur T) (a : Addr) (m c : Nat) (news : List Value) (hl : news.length = m * 2) (hnews : ∀ j u, news[j]? = some u → w.cell? (a.add j) = some u) (h1 : ∀ u ∈ news, u.oneCell' = true)
    (hroom : sLen + m ≤ sCap) (hfit : sLen * 2 + m * 2 ≤ cur.size) :
    (Builtin.append_ #[t, t] ty #[.slice (some ⟨g, 0, none⟩) sLen sCap, .slice (some a) m c]).run P w = .ok (.slice (some ⟨g, 0, none⟩) (sLen + m) sCap) (w.setRow g (cur.toList.take (sLen * 2) ++ news ++ cur.toList.drop (sLen * 2 + news.length)).toArray) := by
  have hfc := run_firstCells_some (P := P) w i.size m a m c news (by rw [hsz]; exact hl) hnews
  have hst := run_storeCells_at P g (sLen * 2) T news 0 cur w hg (by omega) h1
  simp only [Nat.add_zero] at hst
  rw [hsz] at hfc
  simp [Builtin.append_, run_underlying ht, sizeOf, typeInfo, hi, Builtin.lenOf, hroom, hsz, hfc, Addr.add_lit, hst]
theorem run_copy_row2 (dT sT ty elem : TypeId) (i : TypeInfo) (g o dLen dCap : Nat) (a : Addr) (sLen sCap : Nat) (cur : Array Value) (t : TypeId) (cs : List Value) (k : Nat)
    (hu : P.underlying dT = some (.slice elem)) (hi : P.info? elem = some i) (hsz : i.size = 2)
    (hg : Bk w g cur t) (hk : k = Nat.min sLen dLen) (hn : cs.length = k * 2)
    (hsrc : ∀ j v, cs[j]? = some v → w.cell? (a.add j) = some v) (hfit : o + cs.length ≤ cur.size) (h1 : ∀ v ∈ cs, v.oneCell' = true) :
    (Builtin.copy_ #[dT, sT] ty #[.slice (some ⟨g, o, none⟩) dLen dCap, .slice (some a) sLen sCap]).run P w =
      .ok (goInt k) (w.setRow g (cur.toList.take o ++ cs ++ cur.toList.drop (o + cs.length)).toArray) := by
  have hl := run_loadCells_list (P := P) w a cs hsrc
  have hst := run_storeCells_at P g o t cs 0 cur w hg (by simpa using hfit) h1
  simp only [Nat.add_zero] at hst
  rw [hn] at hl
  simp [Builtin.copy_, run_underlying hu, Builtin.lenOf, Builtin.firstCells, sizeOf, typeInfo, hi, hsz, ← hk, hl, hst]
theorem run_clear_row2 (t e ty : TypeId) (z : Value) (ht : P.underlying t = some (.slice e)) (hv : ∀ w, (zeroValue e).run P w = .ok z w) (hz : z.cells.size = 2) (h1 : ∀ n, ∀ v ∈ (Builtin.zeroCells z.cells n).toList, v.oneCell' = true) (g o n c : Nat) (cur : Array Value) (T : TypeId) (hg : Bk w g cur T) (hn : 0 < n) (hfit : o + n * 2 ≤ cur.size) :
    ∃ cs : Array Value, cs.size = cur.size ∧ cs.toList.take o = cur.toList.take o ∧ (Builtin.clear_ #[t] ty #[.slice (some ⟨g, o, none⟩) n c]).run P w = .ok (.tuple #[]) (w.setRow g cs) := by
  have hl : (Builtin.zeroCells z.cells n).toList.length = n * 2 := by rw [Array.length_toList, size_zeroCells, hz]
  have hst := run_storeCells_at P g o T (Builtin.zeroCells z.cells n).toList 0 cur w hg (by rw [hl]; omega) (h1 n)
  simp only [Nat.add_zero] at hst
  obtain ⟨m, rfl⟩ : ∃ m, n = m + 1 := ⟨n - 1, by omega⟩
  refine ⟨(cur.toList.take o ++ (Builtin.zeroCells z.cells (m + 1)).toList ++ cur.toList.drop (o + (Builtin.zeroCells z.cells (m + 1)).toList.length)).toArray, ?_, ?_, ?_⟩
  · simp only [List.size_toArray, List.length_append, List.length_take, List.length_drop, Array.length_toList] at hl ⊢
    omega
  · show List.take o (cur.toList.take o ++ _ ++ _) = _
    rw [List.append_assoc, List.take_append_of_le_length (by rw [List.length_take, Array.length_toList]; omega), List.take_take, Nat.min_self]
  · simp only [Builtin.clear_]
    simp [run_underlying ht, hv, hst]

/-- A builtin whose run is known: clear and copy. -/
theorem wpList_clear_run {ops : Array Oper} {rest : List Oper} {o : Oper} {a : Act} {Q : Exit → Act → World → Prop} (hgd : o.guard = none) (s : Operand) (t : TypeId)
    (ho : o.op = .call { callee := .builtin .clear, args := #[s], argTypes := #[t] }) (vs : Value) (hs : a.eval s = vs)
    (v' : Value) (w' : World) (hr : (Builtin.clear_ #[t] o.type #[vs]).run P w = .ok v' w') (h : wpList P ops Q rest (a.put o.dst v') w') : wpList P ops Q (o :: rest) a w := by
  refine wpList_plain hgd fun K hK => ?_
  unfold Oper.wp execOp
  simp only [ho, resolve, invoke, builtin, Sem.run_bind, Sem.run_pure, Result.andThen_ok, List.map_toArray, List.map_cons, List.map_nil, hs, hr]
  exact hK _ _ h
theorem wpList_copy_run2 {ops : Array Oper} {rest : List Oper} {o : Oper} {a : Act} {Q : Exit → Act → World → Prop} (hgd : o.guard = none) (d s : Operand) (t t' : TypeId)
    (ho : o.op = .call { callee := .builtin .copy, args := #[d, s], argTypes := #[t, t'] }) (v u : Value) (hd : a.eval d = v) (hs : a.eval s = u) {v' : Value} {w' : World}
    (hr : (Builtin.copy_ #[t, t'] o.type #[v, u]).run P w = .ok v' w') (h : wpList P ops Q rest (a.put o.dst v') w') : wpList P ops Q (o :: rest) a w := by
  refine wpList_plain hgd fun K hK => ?_
  unfold Oper.wp execOp
  simp only [ho, resolve, invoke, builtin, Sem.run_bind, Sem.run_pure, Result.andThen_ok, List.map_toArray, List.map_cons, List.map_nil, hd, hs, hr]
  exact hK _ _ h
end
/-- A row of the call's own, opened. -/
theorem own_open {w : World} {base : Nat} {e : TypeId} {size n : Nat} {v : Value} {xs : List Value} (h : w.ownsRow base e size v n xs) (hn : 0 < n) : ∃ g cap cur, v = .slice (some ⟨g, 0, none⟩) n cap ∧ base ≤ g ∧ Bk w g cur e ∧ n ≤ cap ∧ cap ≤ maxLen ∧ cur.size = cap * size ∧ cur.toList.take (n * size) = xs := by
  rcases h.2 with ⟨_, h0⟩ | h'
  · omega
  · exact h'
theorem own_mk {w : World} {base g n cap size : Nat} {e : TypeId} {cur : Array Value} (hb : base ≤ g) (hg : Bk w g cur e) (hn : n ≤ cap) (hc : cap ≤ maxLen) (hs : cur.size = cap * size) {xs : List Value} (hx : cur.toList.take (n * size) = xs) : w.ownsRow base e size (.slice (some ⟨g, 0, none⟩) n cap) n xs :=
  ⟨by rw [← hx, List.length_take, Array.length_toList, hs]; exact Nat.min_eq_left (Nat.mul_le_mul_right _ hn), .inr ⟨g, cap, cur, rfl, hb, hg, hn, hc, hs, hx⟩⟩
theorem cells_row {w : World} {g : Nat} {cur : Array Value} {e : TypeId} (hg : Bk w g cur e) (o : Nat) (l : List Value) (hl : ∀ j (hj : j < l.length), cur.toList[o + j]? = some l[j]) : ∀ j v, l[j]? = some v → w.cell? ((⟨g, o, none⟩ : Addr).add j) = some v := by
  intro j v hj
  have hjl : j < l.length := by
    rcases Nat.lt_or_ge j l.length with h | h
    · exact h
    · rw [List.getElem?_eq_none h] at hj; cases hj
  rw [Go.WideShapes.add_plain, hg.cell (o + j)]
  have := hl j hjl
  rw [List.getElem?_eq_getElem hjl] at hj
  cases hj
  rw [← this]
  simp
def cutC (g k c : Nat) : Addr := if c = k then ⟨g, 0, none⟩ else ⟨g, k * 2, none⟩
theorem run_cutC (g n k c : Nat) (l : Int) (w : World) (hl : l = k) (h : k ≤ n) : (Instr.slice 116 (.slice (some ⟨g, 0, none⟩) n c) (some (.int .i64 l)) none none).run Try.prog w = .ok (.slice (some (cutC g k c)) (n - k) (c - k)) w := by
  subst hl
  by_cases hc : c = k <;> simp [go_sem, h, cutC, hc]
theorem run_headC (g n k c : Nat) (l : Int) (w : World) (hl : l = k) (h : k ≤ c) : (Instr.slice 116 (.slice (some ⟨g, 0, none⟩) n c) none (some (.int .i64 l)) none).run Try.prog w = .ok (.slice (some ⟨g, 0, none⟩) k c) w := by
  subst hl
  simp [go_sem, h]
end Go.Proofs.Ytifijhfeeammkaa
