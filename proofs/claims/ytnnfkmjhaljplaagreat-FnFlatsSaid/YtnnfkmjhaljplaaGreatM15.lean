/- What the laws' walks rest upon, part 15. -/
import Derived.Test.YtnnfkmjhaljplaaGreatM02
import Derived.Test.YtnnfkmjhaljplaaGreatM03
import Derived.StillTailTactics
import Derived.Lib.Hide
import Derived.OwnWalkIn
import Derived.TacticsInMore
import Derived.Maps.AppendAt
import Derived.Maps.Range
import Derived.OwnWalk
import Derived.RegionTactic
import Derived.Laws.CopyRow
import Derived.ArgAppend
import Derived.Laws.IdiomCopy
import Derived.Lib.AppendZeros
import Derived.Lib.AppendZerosOnto
import Derived.Test.YtnnfkmjhaljplaaGreatM04
import Derived.Test.YtnnfkmjhaljplaaGreatM05
import Derived.Test.YtnnfkmjhaljplaaGreatM01
import Derived.Test.YtnnfkmjhaljplaaGreatProg
namespace Go.Proofs.YtnnfkmjhaljplaaGreat
open Go.RowKit
def cels : List Cel → List Value
  | [] => []
  | s :: r => .int .i64 s.a :: .int .i64 s.v :: cels r
theorem cels_length : ∀ ss : List Cel, (cels ss).length = ss.length * 2
  | [] => rfl
  | s :: r => by simp only [cels, List.length_cons, cels_length r]; omega
theorem cels_append : ∀ (l m : List Cel), cels (l ++ m) = cels l ++ cels m
  | [], _ => rfl
  | s :: r, m => by simp only [cels, List.cons_append, cels_append r m]
theorem cels_get : ∀ (ss : List Cel) (i : Nat) (h : i < ss.length), (cels ss)[i * 2]? = some (.int .i64 ss[i].a) ∧ (cels ss)[i * 2 + 1]? = some (.int .i64 ss[i].v)
  | [], i, h => absurd h (Nat.not_lt_zero _)
  | s :: r, 0, _ => ⟨rfl, rfl⟩
  | s :: r, i + 1, h => by
    have ih := cels_get r i (by simpa using h)
    rw [show (i + 1) * 2 = i * 2 + 1 + 1 by omega]
    simp only [cels, List.getElem?_cons_succ, List.getElem_cons_succ]
    exact ih
theorem cels_one : ∀ (l : List Cel), ∀ u ∈ cels l, u.oneCell' = true
  | [], u, h => by simp [cels] at h
  | x :: r, u, h => by
    simp only [cels, List.mem_cons] at h
    rcases h with rfl | rfl | h
    · rfl
    · rfl
    · exact cels_one r u h
/-- The slice address A leads to the cells ss, in a block below B. -/
def RdC (w : World) (B : Nat) (A : Option Addr) (ss : List Cel) : Prop := RdV w B A (cels ss)
section
variable {w w' : World} {B B' : Nat} {A : Option Addr} {ss : List Cel}
theorem RdC.nil_ : RdC w B A [] := RdV.nil_
theorem RdC.keep (h : RdC w B A ss) (hk : ∀ p : Addr, p.block < B → w'.cell? p = w.cell? p) : RdC w' B A ss := RdV.keep h hk
theorem RdC.more (h : RdC w B A ss) (hB : B ≤ B') : RdC w B' A ss := RdV.more h hB
theorem RdC.below (h : RdC w B A ss) (hb : Below B w w') : RdC w' B A ss := RdV.below h hb
theorem RdC.drew (h : RdC w B A ss) : RdC w.drew B A ss := h
theorem RdC.drewN (h : RdC w B A ss) (n : Nat) : RdC (w.drewN n) B A ss := h
theorem RdC.alloc (h : RdC w B A ss) (hB : B ≤ w.heap.size) (o : Obj) : RdC (w.alloc o) B A ss := RdV.alloc h hB o
theorem RdC.lt (h : RdC w B A ss) : RdC w w.heap.size A ss := RdV.lt h
theorem RdC.of_own {base : Nat} {e : TypeId} {n c : Nat} (h : w.ownsRow base e 2 (.slice A n c) n (cels ss)) : RdC w w.heap.size A ss := RdV.of_own h
theorem RdC.get (h : RdC w B A ss) {i : Nat} (hi : i < ss.length) : ∃ b off, A = some ⟨b, off, none⟩ ∧ b < B ∧ w.cell? ⟨b, off + i * 2, none⟩ = some (.int .i64 ss[i].a) ∧ w.cell? ⟨b, off + i * 2 + 1, none⟩ = some (.int .i64 ss[i].v) := by
  have hl := cels_length ss
  obtain ⟨b, off, e, hb, hc⟩ := h (by omega)
  obtain ⟨g0, g1⟩ := cels_get ss i hi
  have k0 := hc (i * 2) (by omega)
  have k1 := hc (i * 2 + 1) (by omega)
  rw [List.getElem?_eq_getElem (by omega)] at g0 g1
  rw [Option.some.inj g0] at k0
  rw [Option.some.inj g1] at k1
  exact ⟨b, off, e, hb, k0, by rw [Nat.add_assoc]; exact k1⟩
theorem RdC.grown {g : Nat} (h : RdC w g A ss) (hg : w.grownBy w' (some g)) : RdC w' g A ss := RdV.grown h hg
end
theorem RdC.one_new (w : World) (e : Cel) (T : TypeId) : RdC (w.alloc (.cells #[.int .i64 e.a, .int .i64 e.v] T)) (w.heap.size + 1) (some ⟨w.heap.size, 0, none⟩) [e] := fun _ =>
  ⟨w.heap.size, 0, rfl, Nat.lt_succ_self _, fun i hi => by
    rw [Nat.zero_add, (Bk.new w #[.int .i64 e.a, .int .i64 e.v] T).cell i]
    simp only [List.getElem?_toArray]
    exact List.getElem?_eq_getElem hi⟩
theorem info_cell : (Tryz.prog.info? 139).map (fun i => (i.zero, i.size, i.bytes)) = some (some (.agg #[.int .i64 0, .int .i64 0]), 2, 16) := by kernel_rfl
end Go.Proofs.YtnnfkmjhaljplaaGreat
namespace Go.Proofs.YtnnfkmjhaljplaaGreat
open Go.RowKit
theorem cells_of_rc {w : World} {B : Nat} {ad : Addr} {l : List Cel} (h : RdC w B (some ad) l) : ∀ j u, (cels l)[j]? = some u → w.cell? (ad.add j) = some u := by
  intro j u hj
  have hjl : j < (cels l).length := by
    rcases Nat.lt_or_ge j (cels l).length with a | a
    · exact a
    · rw [List.getElem?_eq_none a] at hj; exact absurd hj (by simp)
  obtain ⟨b, off, e, _, hc⟩ := h (by omega)
  cases e
  rw [Go.WideShapes.add_plain, hc j hjl]
  rw [List.getElem?_eq_getElem hjl] at hj
  exact hj
section
variable {P : Program} (w : World)
theorem run_append_rc (base : Nat) (t ty e : TypeId) (i : TypeInfo) (z : Value) (bytes : Nat) (ht : P.underlying t = some (.slice e)) (hi : P.info? e = some i) (hz : i.zero = some z)
    (hsize : i.size = 2) (hby : i.bytes = bytes) (hzs : z.cells.size = 2)
    (v : Value) (n : Nat) (xs : List Value) (hown : w.ownsRow base e 2 v n xs) (A : Option Addr) (l : List Cel) (c B : Nat) (hR : RdC w B A l)
    (h63 : n + l.length ≤ maxLen) (hbytes : (n + l.length) * bytes ≤ 140737488355328) (hbase : base ≤ w.heap.size) :
    ∃ v' w', (Builtin.append_ #[t, t] ty #[v, .slice A l.length c]).run P w = .ok v' w' ∧ w'.ownsRow base e 2 v' (n + l.length) (xs ++ cels l) ∧ w.grownBy w' v.ownBlock ∧ (v'.ownBlock = v.ownBlock ∨ v'.ownBlock = some w.heap.size) := by
  rcases A with _ | ad
  · have hl : l = [] := by
      rcases l with _ | ⟨x, l⟩
      · rfl
      · obtain ⟨b, off, e, _⟩ := hR.get (i := 0) (by simp)
        cases e
    subst hl
    refine ⟨v, w, ?_, by simpa [cels] using hown, World.grownBy.refl w _, .inl rfl⟩
    rcases hown.2 with ⟨rfl, rfl⟩ | ⟨g, cap, cur, rfl, _, _, hnc, _⟩
    · simp [Builtin.append_, run_underlying ht, sizeOf, typeInfo, hi, Builtin.lenOf, Builtin.firstCells]
    · simp [Builtin.append_, run_underlying ht, sizeOf, typeInfo, hi, Builtin.lenOf, Builtin.firstCells, hnc, storeCells]
  · obtain ⟨v', w', hr, h2, h3, _, h5⟩ := run_append_own_at (P := P) w base t ty e i z 2 bytes ht hi hz hsize hby hzs (by omega) v n xs hown ad l.length c (cels l) (cels_length l) (cells_of_rc hR) (cels_one l) h63 hbytes hbase
    exact ⟨v', w', hr, h2, h3, h5⟩
theorem wp_append_rc {o : Oper} {a : Act} {K : Act → World → Prop} {Q : Exit → Act → World → Prop} (s x : Operand) (t : TypeId)
    (ho : o.op = .call { callee := .builtin .append, args := #[s, x], argTypes := #[t, t] })
    (base : Nat) (e : TypeId) (i : TypeInfo) (z : Value) (bytes : Nat) (ht : P.underlying t = some (.slice e)) (hi : P.info? e = some i) (hz : i.zero = some z)
    (hsize : i.size = 2) (hby : i.bytes = bytes) (hzs : z.cells.size = 2)
    (v : Value) (n : Nat) (xs : List Value) (hs : a.eval s = v) (hown : w.ownsRow base e 2 v n xs) (A : Option Addr) (l : List Cel) (c B : Nat) (hx : a.eval x = .slice A l.length c) (hR : RdC w B A l)
    (h63 : n + l.length ≤ maxLen) (hbytes : (n + l.length) * bytes ≤ 140737488355328) (hbase : base ≤ w.heap.size)
    (h : ∀ v' w', w'.ownsRow base e 2 v' (n + l.length) (xs ++ cels l) → w.grownBy w' v.ownBlock → (v'.ownBlock = v.ownBlock ∨ v'.ownBlock = some w.heap.size) → K (a.put o.dst v') w') : o.wp P a w K Q := by
  obtain ⟨v', w', hr, h2, h3, h5⟩ := run_append_rc (P := P) w base t o.type e i z bytes ht hi hz hsize hby hzs v n xs hown A l c B hR h63 hbytes hbase
  unfold Oper.wp execOp
  simp only [ho, resolve, invoke, builtin, Sem.run_bind, Sem.run_pure, Result.andThen_ok, List.map_toArray, List.map_cons, List.map_nil, hs, hx, hr]
  exact h v' w' h2 h3 h5
/-- The same at a guarded operation of a region that draws its order. -/
theorem step_append_rc {ops : Array Oper} {o : Oper} {a : Act} {K : Act → World → Prop} {Q : Exit → Act → World → Prop} {E : Prop} (hw : Region.wanted o (yielded ops a.tmps) = true) (s x : Operand) (t : TypeId)
    (ho : o.op = .call { callee := .builtin .append, args := #[s, x], argTypes := #[t, t] })
    (base : Nat) (e : TypeId) (i : TypeInfo) (z : Value) (bytes : Nat) (ht : P.underlying t = some (.slice e)) (hi : P.info? e = some i) (hz : i.zero = some z)
    (hsize : i.size = 2) (hby : i.bytes = bytes) (hzs : z.cells.size = 2)
    (v : Value) (n : Nat) (xs : List Value) (hs : a.eval s = v) (hown : w.ownsRow base e 2 v n xs) (A : Option Addr) (l : List Cel) (c B : Nat) (hx : a.eval x = .slice A l.length c) (hR : RdC w B A l)
    (h63 : n + l.length ≤ maxLen) (hbytes : (n + l.length) * bytes ≤ 140737488355328) (hbase : base ≤ w.heap.size)
    (h : ∀ v' w', w'.ownsRow base e 2 v' (n + l.length) (xs ++ cels l) → w.grownBy w' v.ownBlock → (v'.ownBlock = v.ownBlock ∨ v'.ownBlock = some w.heap.size) → K (a.put o.dst v') w') :
    if Region.wanted o (yielded ops a.tmps) = true then Oper.wp P o a w K Q else E := by
  rw [if_pos hw]
  exact wp_append_rc w s x t ho base e i z bytes ht hi hz hsize hby hzs v n xs hs hown A l c B hx hR h63 hbytes hbase h
theorem wpList_append_rc {ops : Array Oper} {rest : List Oper} {o : Oper} {a : Act} {Q : Exit → Act → World → Prop} (hgd : o.guard = none) (s x : Operand) (t : TypeId)
    (ho : o.op = .call { callee := .builtin .append, args := #[s, x], argTypes := #[t, t] })
    (base : Nat) (e : TypeId) (i : TypeInfo) (z : Value) (bytes : Nat) (ht : P.underlying t = some (.slice e)) (hi : P.info? e = some i) (hz : i.zero = some z)
    (hsize : i.size = 2) (hby : i.bytes = bytes) (hzs : z.cells.size = 2)
    (v : Value) (n : Nat) (xs : List Value) (hs : a.eval s = v) (hown : w.ownsRow base e 2 v n xs) (A : Option Addr) (l : List Cel) (c B : Nat) (hx : a.eval x = .slice A l.length c) (hR : RdC w B A l)
    (h63 : n + l.length ≤ maxLen) (hbytes : (n + l.length) * bytes ≤ 140737488355328) (hbase : base ≤ w.heap.size)
    (h : ∀ v' w', w'.ownsRow base e 2 v' (n + l.length) (xs ++ cels l) → w.grownBy w' v.ownBlock → (v'.ownBlock = v.ownBlock ∨ v'.ownBlock = some w.heap.size) → wpList P ops Q rest (a.put o.dst v') w') : wpList P ops Q (o :: rest) a w := by
  refine wpList_plain hgd fun K hK => ?_
  obtain ⟨v', w', hr, h2, h3, h5⟩ := run_append_rc (P := P) w base t o.type e i z bytes ht hi hz hsize hby hzs v n xs hown A l c B hR h63 hbytes hbase
  unfold Oper.wp execOp
  simp only [ho, resolve, invoke, builtin, Sem.run_bind, Sem.run_pure, Result.andThen_ok, List.map_toArray, List.map_cons, List.map_nil, hs, hx, hr]
  exact hK _ _ (h v' w' h2 h3 h5)
end
end Go.Proofs.YtnnfkmjhaljplaaGreat
namespace Go.Proofs.YtnnfkmjhaljplaaGreat
open Go.RowKit
theorem setRow_bk {w : World} {g : Nat} {cur : Array Value} {t : TypeId} (h : Bk w g cur t) (cs : Array Value) : Bk (w.setRow g cs) g cs t := setRow_heap w g cur cs t (0, 0) h
theorem setRow_grown (w : World) (g : Nat) (cs : Array Value) : w.grownBy (w.setRow g cs) (some g) :=
  ⟨rfl, rfl, rfl, by simp [World.setRow], fun k hk hne => by
    have hkg : ¬ g = k := fun e => hne (by rw [e])
    unfold World.setRow
    simp only
    rw [Array.getElem?_modify, if_neg hkg]⟩
theorem cels_take : ∀ (l : List Cel) (k : Nat), (cels l).take (k * 2) = cels (l.take k)
  | [], k => by simp [cels]
  | c :: r, 0 => by simp [cels]
  | c :: r, k + 1 => by
    rw [show (k + 1) * 2 = k * 2 + 1 + 1 by omega]
    simp only [cels, List.take_succ_cons, cels_take r k]
theorem cels_drop : ∀ (l : List Cel) (k : Nat), (cels l).drop (k * 2) = cels (l.drop k)
  | [], k => by simp [cels]
  | c :: r, 0 => by simp [cels]
  | c :: r, k + 1 => by
    rw [show (k + 1) * 2 = k * 2 + 1 + 1 by omega]
    simp only [cels, List.drop_succ_cons, cels_drop r k]
section
variable {P : Program} (w : World)
/-- append in place, where there is room: the block is known whole. -/
theorem run_append_row2 (t ty e : TypeId) (i : TypeInfo) (ht : P.underlying t = some (.slice e)) (hi : P.info? e = some i) (hsz : i.size = 2)
    (g sLen sCap : Nat) (cur : Array Value) (T : TypeId) (hg : Bk w g cur T) (a : Addr) (m c : Nat) (news : List Value) (hl : news.length = m * 2) (hnews : ∀ j u, news[j]? = some u → w.cell? (a.add j) = some u) (h1 : ∀ u ∈ news, u.oneCell' = true)
    (hroom : sLen + m ≤ sCap) (hfit : sLen * 2 + m * 2 ≤ cur.size) :
    (Builtin.append_ #[t, t] ty #[.slice (some ⟨g, 0, none⟩) sLen sCap, .slice (some a) m c]).run P w = .ok (.slice (some ⟨g, 0, none⟩) (sLen + m) sCap) (w.setRow g (cur.toList.take (sLen * 2) ++ news ++ cur.toList.drop (sLen * 2 + news.length)).toArray) := by
  have hfc := run_firstCells_some (P := P) w i.size m a m c news (by rw [hsz]; exact hl) hnews
  have hst := run_storeCells_at P g (sLen * 2) T news 0 cur w hg (by omega) h1
  simp only [Nat.add_zero] at hst
  rw [hsz] at hfc
  simp [Builtin.append_, run_underlying ht, sizeOf, typeInfo, hi, Builtin.lenOf, hroom, hsz, hfc, Addr.add_lit, hst]
theorem run_copy_row2 (dT sT ty elem : TypeId) (i : TypeInfo) (g o dLen dCap : Nat) (a : Addr) (sLen sCap : Nat) (cur : Array Value) (t : TypeId) (cs : List Value) (k : Nat)
    (hu : P.underlying dT = some (.slice elem)) (hi : P.info? elem = some i) (hsz : i.size = 2)
    (hg : Bk w g cur t) (hk : k = Nat.min sLen dLen) (hn : cs.length = k * 2)
    (hsrc : ∀ j v, cs[j]? = some v → w.cell? (a.add j) = some v) (hfit : o + cs.length ≤ cur.size) (h1 : ∀ v ∈ cs, v.oneCell' = true) :
    (Builtin.copy_ #[dT, sT] ty #[.slice (some ⟨g, o, none⟩) dLen dCap, .slice (some a) sLen sCap]).run P w =
      .ok (goInt k) (w.setRow g (cur.toList.take o ++ cs ++ cur.toList.drop (o + cs.length)).toArray) := by
  have hl := run_loadCells_list (P := P) w a cs hsrc
  have hst := run_storeCells_at P g o t cs 0 cur w hg (by simpa using hfit) h1
  simp only [Nat.add_zero] at hst
  rw [hn] at hl
  simp [Builtin.copy_, run_underlying hu, Builtin.lenOf, Builtin.firstCells, sizeOf, typeInfo, hi, hsz, ← hk, hl, hst]
theorem run_clear_row2 (t e ty : TypeId) (z : Value) (ht : P.underlying t = some (.slice e)) (hv : ∀ w, (zeroValue e).run P w = .ok z w) (hz : z.cells.size = 2) (h1 : ∀ n, ∀ v ∈ (Builtin.zeroCells z.cells n).toList, v.oneCell' = true) (g o n c : Nat) (cur : Array Value) (T : TypeId) (hg : Bk w g cur T) (hn : 0 < n) (hfit : o + n * 2 ≤ cur.size) :
    ∃ cs : Array Value, cs.size = cur.size ∧ cs.toList.take o = cur.toList.take o ∧ (Builtin.clear_ #[t] ty #[.slice (some ⟨g, o, none⟩) n c]).run P w = .ok (.tuple #[]) (w.setRow g cs) := by
  have hl : (Builtin.zeroCells z.cells n).toList.length = n * 2 := by rw [Array.length_toList, size_zeroCells, hz]
  have hst := run_storeCells_at P g o T (Builtin.zeroCells z.cells n).toList 0 cur w hg (by rw [hl]; omega) (h1 n)
  simp only [Nat.add_zero] at hst
  obtain ⟨m, rfl⟩ : ∃ m, n = m + 1 := ⟨n - 1, by omega⟩
  refine ⟨(cur.toList.take o ++ (Builtin.zeroCells z.cells (m + 1)).toList ++ cur.toList.drop (o + (Builtin.zeroCells z.cells (m + 1)).toList.length)).toArray, ?_, ?_, ?_⟩
  · simp only [List.size_toArray, List.length_append, List.length_take, List.length_drop, Array.length_toList] at hl ⊢
    omega
  · show List.take o (cur.toList.take o ++ _ ++ _) = _
    rw [List.append_assoc, List.take_append_of_le_length (by rw [List.length_take, Array.length_toList]; omega), List.take_take, Nat.min_self]
  · simp only [Builtin.clear_]
    simp [run_underlying ht, hv, hst]
/-- A builtin whose run is known: clear and copy. -/
theorem wpList_clear_run {ops : Array Oper} {rest : List Oper} {o : Oper} {a : Act} {Q : Exit → Act → World → Prop} (hgd : o.guard = none) (s : Operand) (t : TypeId)
    (ho : o.op = .call { callee := .builtin .clear, args := #[s], argTypes := #[t] }) (vs : Value) (hs : a.eval s = vs)
    (v' : Value) (w' : World) (hr : (Builtin.clear_ #[t] o.type #[vs]).run P w = .ok v' w') (h : wpList P ops Q rest (a.put o.dst v') w') : wpList P ops Q (o :: rest) a w := by
  refine wpList_plain hgd fun K hK => ?_
  unfold Oper.wp execOp
  simp only [ho, resolve, invoke, builtin, Sem.run_bind, Sem.run_pure, Result.andThen_ok, List.map_toArray, List.map_cons, List.map_nil, hs, hr]
  exact hK _ _ h
theorem wpList_copy_run2 {ops : Array Oper} {rest : List Oper} {o : Oper} {a : Act} {Q : Exit → Act → World → Prop} (hgd : o.guard = none) (d s : Operand) (t t' : TypeId)
    (ho : o.op = .call { callee := .builtin .copy, args := #[d, s], argTypes := #[t, t'] }) (v u : Value) (hd : a.eval d = v) (hs : a.eval s = u) {v' : Value} {w' : World}
    (hr : (Builtin.copy_ #[t, t'] o.type #[v, u]).run P w = .ok v' w') (h : wpList P ops Q rest (a.put o.dst v') w') : wpList P ops Q (o :: rest) a w := by
  refine wpList_plain hgd fun K hK => ?_
  unfold Oper.wp execOp
  simp only [ho, resolve, invoke, builtin, Sem.run_bind, Sem.run_pure, Result.andThen_ok, List.map_toArray, List.map_cons, List.map_nil, hd, hs, hr]
  exact hK _ _ h
end
/-- A row of the call's own, opened. -/
theorem own_open {w : World} {base : Nat} {e : TypeId} {size n : Nat} {v : Value} {xs : List Value} (h : w.ownsRow base e size v n xs) (hn : 0 < n) : ∃ g cap cur, v = .slice (some ⟨g, 0, none⟩) n cap ∧ base ≤ g ∧ Bk w g cur e ∧ n ≤ cap ∧ cap ≤ maxLen ∧ cur.size = cap * size ∧ cur.toList.take (n * size) = xs := by
  rcases h.2 with ⟨_, h0⟩ | h'
  · omega
  · exact h'
theorem own_mk {w : World} {base g n cap size : Nat} {e : TypeId} {cur : Array Value} (hb : base ≤ g) (hg : Bk w g cur e) (hn : n ≤ cap) (hc : cap ≤ maxLen) (hs : cur.size = cap * size) {xs : List Value} (hx : cur.toList.take (n * size) = xs) : w.ownsRow base e size (.slice (some ⟨g, 0, none⟩) n cap) n xs :=
  ⟨by rw [← hx, List.length_take, Array.length_toList, hs]; exact Nat.min_eq_left (Nat.mul_le_mul_right _ hn), .inr ⟨g, cap, cur, rfl, hb, hg, hn, hc, hs, hx⟩⟩
theorem cells_row {w : World} {g : Nat} {cur : Array Value} {e : TypeId} (hg : Bk w g cur e) (o : Nat) (l : List Value) (hl : ∀ j (hj : j < l.length), cur.toList[o + j]? = some l[j]) : ∀ j v, l[j]? = some v → w.cell? ((⟨g, o, none⟩ : Addr).add j) = some v := by
  intro j v hj
  have hjl : j < l.length := by
    rcases Nat.lt_or_ge j l.length with h | h
    · exact h
    · rw [List.getElem?_eq_none h] at hj; cases hj
  rw [Go.WideShapes.add_plain, hg.cell (o + j)]
  have := hl j hjl
  rw [List.getElem?_eq_getElem hjl] at hj
  cases hj
  rw [← this]
  simp
def cutC (g k c : Nat) : Addr := if c = k then ⟨g, 0, none⟩ else ⟨g, k * 2, none⟩
theorem run_cutC (g n k c : Nat) (l : Int) (w : World) (hl : l = k) (h : k ≤ n) : (Instr.slice 123 (.slice (some ⟨g, 0, none⟩) n c) (some (.int .i64 l)) none none).run Tryz.prog w = .ok (.slice (some (cutC g k c)) (n - k) (c - k)) w := by
  subst hl
  by_cases hc : c = k <;> simp [go_sem, h, cutC, hc]
theorem run_headC (g n k c : Nat) (l : Int) (w : World) (hl : l = k) (h : k ≤ c) : (Instr.slice 123 (.slice (some ⟨g, 0, none⟩) n c) none (some (.int .i64 l)) none).run Tryz.prog w = .ok (.slice (some ⟨g, 0, none⟩) k c) w := by
  subst hl
  simp [go_sem, h]
end Go.Proofs.YtnnfkmjhaljplaaGreat
namespace Go.Proofs.YtnnfkmjhaljplaaGreat
open Go.RowKit
/-- Three cells' blocks, laid one behind the other: what of them is known. -/
theorem three_new (w : World) (c0 c1 c2 : Array Value) (t0 t1 t2 : TypeId) (W : World) (hW : W = ((w.alloc (Obj.cells c0 t0)).alloc (Obj.cells c1 t1)).alloc (Obj.cells c2 t2)) :
    Bk W w.heap.size c0 t0 ∧ Bk W (w.heap.size + 1) c1 t1 ∧ Bk W (w.heap.size + 1 + 1) c2 t2 ∧ W.heap.size = w.heap.size + 1 + 1 + 1 ∧ Below w.heap.size w W := by
  have e1 : (w.alloc (Obj.cells c0 t0)).heap.size = w.heap.size + 1 := by simp
  have e2 : ((w.alloc (Obj.cells c0 t0)).alloc (Obj.cells c1 t1)).heap.size = w.heap.size + 1 + 1 := by simp
  have k0 := ((Bk.new w c0 t0).alloc (Obj.cells c1 t1)).alloc (Obj.cells c2 t2)
  have k1 := (Bk.new (w.alloc (Obj.cells c0 t0)) c1 t1).alloc (Obj.cells c2 t2)
  have k2 := Bk.new ((w.alloc (Obj.cells c0 t0)).alloc (Obj.cells c1 t1)) c2 t2
  rw [e1] at k1
  rw [e2] at k2
  subst hW
  exact ⟨k0, k1, k2, by simp, (((Below.refl w.heap.size w).alloc (Nat.le_refl _) _).alloc (by omega) _).alloc (by omega) _⟩
theorem two_new (w : World) (c0 c1 : Array Value) (t0 t1 : TypeId) (W : World) (hW : W = (w.alloc (Obj.cells c0 t0)).alloc (Obj.cells c1 t1)) :
    Bk W w.heap.size c0 t0 ∧ Bk W (w.heap.size + 1) c1 t1 ∧ W.heap.size = w.heap.size + 1 + 1 ∧ Below w.heap.size w W := by
  have e1 : (w.alloc (Obj.cells c0 t0)).heap.size = w.heap.size + 1 := by simp
  have k0 := (Bk.new w c0 t0).alloc (Obj.cells c1 t1)
  have k1 := Bk.new (w.alloc (Obj.cells c0 t0)) c1 t1
  rw [e1] at k1
  subst hW
  exact ⟨k0, k1, by simp, ((Below.refl w.heap.size w).alloc (Nat.le_refl _) _).alloc (by omega) _⟩
end Go.Proofs.YtnnfkmjhaljplaaGreat
namespace Go.Proofs.YtnnfkmjhaljplaaGreat
open Go.RowKit
/-- A machine as a value. -/
abbrev macV (A : Option Addr) (n c : Nat) (A' : Option Addr) (n' c' : Nat) : Value := .agg #[.slice A n c, .slice A' n' c']
/-- An answer with a machine, and one of a simulation, as values. -/
abbrev mrV (a : Int) (A : Option Addr) (n c : Nat) (A' : Option Addr) (n' c' : Nat) (v : Int) : Value := .agg #[.int .i64 a, .slice A n c, .slice A' n' c', .int .i64 v]
structure RdMac (w : World) (B : Nat) (A A' : Option Addr) (m : Mac) : Prop where
  cs : RdT w B A m.cs
  mem : RdC w B A' m.mem
section
variable {w w' : World} {B B' : Nat} {A A' : Option Addr} {m : Mac}
theorem RdMac.keep (h : RdMac w B A A' m) (hk : ∀ p : Addr, p.block < B → w'.cell? p = w.cell? p) : RdMac w' B A A' m := ⟨h.cs.keep hk, h.mem.keep hk⟩
theorem RdMac.more (h : RdMac w B A A' m) (hB : B ≤ B') : RdMac w B' A A' m := ⟨h.cs.more hB, h.mem.more hB⟩
theorem RdMac.below (h : RdMac w B A A' m) (hb : Below B w w') : RdMac w' B A A' m := ⟨h.cs.below hb, h.mem.below hb⟩
theorem RdMac.alloc (h : RdMac w B A A' m) (hB : B ≤ w.heap.size) (o : Obj) : RdMac (w.alloc o) B A A' m := ⟨h.cs.alloc hB o, h.mem.alloc hB o⟩
theorem RdMac.lt (h : RdMac w B A A' m) : RdMac w w.heap.size A A' m := ⟨h.cs.lt, h.mem.lt⟩
end
/-- A machine of the call's own: its rows and its memory apart. -/
structure OwnMac (w : World) (base : Nat) (v v' : Value) (m : Mac) (us : List Value) : Prop where
  cs : OwnTLine w base v m.cs us
  mem : w.ownsRow base 139 2 v' m.mem.length (cels m.mem)
  far : ∀ b, v'.ownBlock = some b → v.ownBlock ≠ some b ∧ ∀ u ∈ us, u.ownBlock ≠ some b
theorem OwnTLine.only {w w' : World} {base : Nat} {v : Value} {t : List (List Ev)} {us vs : List Value} (h : OwnTLine w base v t us) (ho : Only vs w w') (hf : ∀ x ∈ vs, ∀ b, x.ownBlock = some b → v.ownBlock ≠ some b ∧ ∀ u ∈ us, u.ownBlock ≠ some b) : OwnTLine w' base v t us :=
  ⟨ho.own _ _ _ _ _ _ h.row fun b hb x hx e => (hf x hx b e).1 hb, fun i hi => by
    obtain ⟨u, h1, h2, h3⟩ := h.rows i hi
    exact ⟨u, h1, ho.own _ _ _ _ _ _ h2 fun b hb x hx e => (hf x hx b e).2 u (List.mem_of_getElem? h1) hb, h3⟩, h.apart⟩
theorem OwnMac.alloc {w : World} {base : Nat} {v v' : Value} {m : Mac} {us : List Value} (h : OwnMac w base v v' m us) (o : Obj) : OwnMac (w.alloc o) base v v' m us := ⟨h.cs.alloc o, h.mem.alloc o, h.far⟩
theorem OwnMac.below {w w' : World} {base : Nat} {v v' : Value} {m : Mac} {us : List Value} (h : OwnMac w base v v' m us) (hb : Below w.heap.size w w') : OwnMac w' base v v' m us := ⟨h.cs.below hb, own_below h.mem hb (Nat.le_refl _), h.far⟩
theorem OwnMac.set_ {w : World} {base b i : Nat} {v v' : Value} {m : Mac} {us : List Value} (h : OwnMac w base v v' m us) (hb : b < base) (u : Value) : OwnMac (w.setCell ⟨b, i, none⟩ u) base v v' m us :=
  ⟨h.cs.kept (grown_set w b i u) (fun x e => by cases e; exact hb), ownsRow_setCell_below h.mem (a := ⟨b, i, none⟩) hb u, h.far⟩
theorem OwnMac.mono {w : World} {base b' : Nat} {v v' : Value} {m : Mac} {us : List Value} (h : OwnMac w base v v' m us) (hb : b' ≤ base) : OwnMac w b' v v' m us := ⟨h.cs.mono hb, own_mono h.mem hb, h.far⟩
theorem OwnMac.rd {w : World} {base : Nat} {A A' : Option Addr} {c c' : Nat} {m : Mac} {us : List Value} (h : OwnMac w base (.slice A m.cs.length c) (.slice A' m.mem.length c') m us) : RdMac w w.heap.size A A' m := ⟨h.cs.rd, RdC.of_own h.mem⟩
end Go.Proofs.YtnnfkmjhaljplaaGreat
namespace Go.Proofs.YtnnfkmjhaljplaaGreat
open Go.RowKit
/-- An answer of a simulation as a value. -/
abbrev siV (a : Int) (L : Option Addr) (nl cl : Nat) (A : Option Addr) (n c : Nat) (A' : Option Addr) (n' c' : Nat) : Value := .agg #[.int .i64 a, .slice L nl cl, .slice A n c, .slice A' n' c']
theorem OwnMac.only {w w' : World} {base : Nat} {v v' : Value} {m : Mac} {us vs : List Value} (h : OwnMac w base v v' m us) (ho : Only vs w w') (hf : ∀ x ∈ vs, ∀ b, x.ownBlock = some b → v.ownBlock ≠ some b ∧ v'.ownBlock ≠ some b ∧ ∀ u ∈ us, u.ownBlock ≠ some b) : OwnMac w' base v v' m us :=
  ⟨h.cs.only ho fun x hx b hb => ⟨(hf x hx b hb).1, (hf x hx b hb).2.2⟩, ho.own _ _ _ _ _ _ h.mem fun b hb x hx e => (hf x hx b e).2.1 hb, h.far⟩
end Go.Proofs.YtnnfkmjhaljplaaGreat
namespace Go.Proofs.YtnnfkmjhaljplaaGreat
open Go.RowKit
def cmpI (x y : Int) : Int := if x < y then -1 else if y < x then 1 else 0
theorem cmpI_lt {x y : Int} : cmpI x y < 0 ↔ x < y := by unfold cmpI; split <;> (try split) <;> omega
theorem cmpI_eq {x y : Int} : cmpI x y = 0 ↔ x = y := by unfold cmpI; split <;> (try split) <;> omega
theorem isNaN_any (x : Int) (w : World) :
    Calls Tryz.prog 102 #[.int .i64 x] w fun e w' => e = .returned (.bool false) ∧ w = w' := by
  go_enter Tryz.func102, Tryz.ntmps102
  go_wp2
  go_ret
  exact ⟨by simp, rfl⟩
theorem compare_any (x y : Int) (w : World) :
    Calls Tryz.prog 93 #[.int .i64 x, .int .i64 y] w fun e w' => e = .returned (.int .i64 (cmpI x y)) ∧ w = w' := by
  by_cases h1 : x < y
  · rw [show cmpI x y = -1 by unfold cmpI; rw [if_pos h1]]
    go_enter Tryz.func93, Tryz.ntmps93
    go_wp2_with fail
    refine (isNaN_any x w).mono ?_
    rintro e w1 ⟨rfl, rfl⟩
    go_wp2_with fail
    refine (isNaN_any y w).mono ?_
    rintro e w1 ⟨rfl, rfl⟩
    go_wp2
    go_ret
    exact ⟨rfl, rfl⟩
  · by_cases h2 : y < x
    · rw [show cmpI x y = 1 by unfold cmpI; rw [if_neg h1, if_pos h2]]
      go_enter Tryz.func93, Tryz.ntmps93
      go_wp2_with fail
      refine (isNaN_any x w).mono ?_
      rintro e w1 ⟨rfl, rfl⟩
      go_wp2_with fail
      refine (isNaN_any y w).mono ?_
      rintro e w1 ⟨rfl, rfl⟩
      go_wp2
      go_ret
      exact ⟨rfl, rfl⟩
    · rw [show cmpI x y = 0 by unfold cmpI; rw [if_neg h1, if_neg h2]]
      go_enter Tryz.func93, Tryz.ntmps93
      go_wp2_with fail
      refine (isNaN_any x w).mono ?_
      rintro e w1 ⟨rfl, rfl⟩
      go_wp2_with fail
      refine (isNaN_any y w).mono ?_
      rintro e w1 ⟨rfl, rfl⟩
      go_wp2
      go_ret
      exact ⟨rfl, rfl⟩
end Go.Proofs.YtnnfkmjhaljplaaGreat
