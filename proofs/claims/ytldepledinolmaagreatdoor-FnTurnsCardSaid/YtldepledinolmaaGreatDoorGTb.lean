/- Cells of a memory: what a slice of them reads as; the exact laws' own helpers on slices of cells: measured, copied, compared, marked, held. Rows of two-cell elements in a block that is known whole: appended to in place, copied into, cleared, cut. Plain lemmas but for the cuts. The contract of TurnBit in the model. The contract of TurnBit in the program. -/
import Derived.Test.YtldepledinolmaaGreatDoorGEv
import Derived.Test.YtldepledinolmaaGreatDoorGMsi
import Derived.StillTailTactics
import Derived.Lib.Hide
import Derived.Laws.CopyRow
import Derived.ArgAppend
import Derived.Laws.IdiomCopy
import Derived.Lib.AppendZeros
import Derived.Lib.AppendZerosOnto
import Derived.Test.YtldepledinolmaaGreatDoorGCrc
import Derived.Test.YtldepledinolmaaGreatDoorGDraw
import Derived.Lib.SliceRun
import Derived.Deep.Cut
namespace Go.Proofs.YtldepledinolmaaGreatDoor
open Go.RowKit

def cels : List Cel → List Value
  | [] => []
  | s :: r => .int .i64 s.a :: .int .i64 s.v :: cels r
theorem cels_length : ∀ ss : List Cel, (cels ss).length = ss.length * 2
  | [] => rfl
  | s :: r => by simp only [cels, List.length_cons, cels_length r]; omega
theorem cels_append : ∀ (l m : List Cel), cels (l ++ m) = cels l ++ cels m
  | [], _ => rfl
  | s :: r, m => by simp only [cels, List.cons_append, cels_append r m]
theorem cels_get : ∀ (ss : List Cel) (i : Nat) (h : i < ss.length), (cels ss)[i * 2]? = some (.int .i64 ss[i].a) ∧ (cels ss)[i * 2 + 1]? = some (.int .i64 ss[i].v)
  | [], i, h => absurd h (Nat.not_lt_zero _)
  | s :: r, 0, _ => ⟨rfl, rfl⟩
  | s :: r, i + 1, h => by
    have ih := cels_get r i (by simpa using h)
    rw [show (i + 1) * 2 = i * 2 + 1 + 1 by omega]
    simp only [cels, List.getElem?_cons_succ, List.getElem_cons_succ]
    exact ih
theorem cels_one : ∀ (l : List Cel), ∀ u ∈ cels l, u.oneCell' = true
  | [], u, h => by simp [cels] at h
  | x :: r, u, h => by
    simp only [cels, List.mem_cons] at h
    rcases h with rfl | rfl | h
    · rfl
    · rfl
    · exact cels_one r u h
/-- The slice address A leads to the cells ss, in a block below B. -/
def RdC (w : World) (B : Nat) (A : Option Addr) (ss : List Cel) : Prop := RdV w B A (cels ss)
section
variable {w w' : World} {B B' : Nat} {A : Option Addr} {ss : List Cel}
theorem RdC.nil_ : RdC w B A [] := RdV.nil_
theorem RdC.keep (h : RdC w B A ss) (hk : ∀ p : Addr, p.block < B → w'.cell? p = w.cell? p) : RdC w' B A ss := RdV.keep h hk
theorem RdC.more (h : RdC w B A ss) (hB : B ≤ B') : RdC w B' A ss := RdV.more h hB
theorem RdC.below (h : RdC w B A ss) (hb : Below B w w') : RdC w' B A ss := RdV.below h hb
theorem RdC.drew (h : RdC w B A ss) : RdC w.drew B A ss := h
theorem RdC.drewN (h : RdC w B A ss) (n : Nat) : RdC (w.drewN n) B A ss := h
theorem RdC.alloc (h : RdC w B A ss) (hB : B ≤ w.heap.size) (o : Obj) : RdC (w.alloc o) B A ss := RdV.alloc h hB o
theorem RdC.lt (h : RdC w B A ss) : RdC w w.heap.size A ss := RdV.lt h
theorem RdC.of_own {base : Nat} {e : TypeId} {n c : Nat} (h : w.ownsRow base e 2 (.slice A n c) n (cels ss)) : RdC w w.heap.size A ss := RdV.of_own h
theorem RdC.get (h : RdC w B A ss) {i : Nat} (hi : i < ss.length) : ∃ b off, A = some ⟨b, off, none⟩ ∧ b < B ∧ w.cell? ⟨b, off + i * 2, none⟩ = some (.int .i64 ss[i].a) ∧ w.cell? ⟨b, off + i * 2 + 1, none⟩ = some (.int .i64 ss[i].v) := by
  have hl := cels_length ss
  obtain ⟨b, off, e, hb, hc⟩ := h (by omega)
  obtain ⟨g0, g1⟩ := cels_get ss i hi
  have k0 := hc (i * 2) (by omega)
  have k1 := hc (i * 2 + 1) (by omega)
  rw [List.getElem?_eq_getElem (by omega)] at g0 g1
  rw [Option.some.inj g0] at k0
  rw [Option.some.inj g1] at k1
  exact ⟨b, off, e, hb, k0, by rw [Nat.add_assoc]; exact k1⟩
theorem RdC.grown {g : Nat} (h : RdC w g A ss) (hg : w.grownBy w' (some g)) : RdC w' g A ss := RdV.grown h hg
end
theorem RdC.one_new (w : World) (e : Cel) (T : TypeId) : RdC (w.alloc (.cells #[.int .i64 e.a, .int .i64 e.v] T)) (w.heap.size + 1) (some ⟨w.heap.size, 0, none⟩) [e] := fun _ =>
  ⟨w.heap.size, 0, rfl, Nat.lt_succ_self _, fun i hi => by
    rw [Nat.zero_add, (Bk.new w #[.int .i64 e.a, .int .i64 e.v] T).cell i]
    simp only [List.getElem?_toArray]
    exact List.getElem?_eq_getElem hi⟩

/-- A cell as a value. -/
abbrev celV (a v : Int) : Value := .agg #[.int .i64 a, .int .i64 v]
def zeroC : Cel := ⟨0, 0⟩
theorem cels_zero : ∀ n : Nat, cels (List.replicate n zeroC) = List.replicate (n * 2) (.int .i64 0)
  | 0 => rfl
  | n + 1 => by
    rw [List.replicate_succ, cels, cels_zero n, show (n + 1) * 2 = n * 2 + 1 + 1 by omega, List.replicate_succ, List.replicate_succ]
    rfl
theorem made_cell (n : Nat) : (madeCells (Value.agg #[.int .i64 0, .int .i64 0]).cells (n * 2)).toList = List.replicate (n * 2) (Value.int .i64 0) := by
  apply List.ext_getElem
  · simp [madeCells]
  · intro i h1 h2
    simp only [madeCells, Value.cells, Array.getElem_toList, List.getElem_replicate]
    rcases (show i % 2 = 0 ∨ i % 2 = 1 by omega) with h | h <;> simp [h]
/-- After k rounds of a copy: the first k are there, the rest as it was made. -/
def halfC (es : List Cel) (k : Nat) : List Value := cels (es.take k ++ List.replicate (es.length - k) zeroC)
theorem halfC_zero (es : List Cel) : halfC es 0 = List.replicate (es.length * 2) (Value.int .i64 0) := by simp [halfC, cels_zero]
theorem halfC_all (es : List Cel) : halfC es es.length = cels es := by simp [halfC]
theorem halfC_length (es : List Cel) (k : Nat) (hk : k ≤ es.length) : (halfC es k).length = es.length * 2 := by
  unfold halfC
  rw [cels_length, List.length_append, List.length_take, List.length_replicate]
  congr 1
  omega
theorem set2 {α : Type} (p s : List α) (a b x y : α) (n : Nat) (h : p.length = n) : ((p ++ a :: b :: s).set n x).set (n + 1) y = p ++ x :: y :: s := by
  subst h
  simp
theorem halfC_set (es : List Cel) (k : Nat) (hk : k < es.length) : ((halfC es k).set (k * 2) (.int .i64 es[k].a)).set (k * 2 + 1) (.int .i64 es[k].v) = halfC es (k + 1) := by
  unfold halfC
  rw [show es.length - k = (es.length - (k + 1)) + 1 by omega, List.replicate_succ, List.take_succ_eq_append_getElem hk, cels_append, cels_append, cels_append]
  simp only [cels]
  rw [set2 _ _ _ _ _ _ _ (by rw [cels_length, List.length_take]; omega)]
  simp

/-- The marks that are laid from k on. -/
def mkC (k n : Nat) : List Cel := (List.range n).map fun i => ⟨((k + i * 2 : Nat) : Int), ((k + i * 2 + 1 : Nat) : Int)⟩
theorem mkC_length (k n : Nat) : (mkC k n).length = n := by simp [mkC]
theorem mkC_succ (k n : Nat) : mkC k (n + 1) = mkC k n ++ [⟨((k + n * 2 : Nat) : Int), ((k + n * 2 + 1 : Nat) : Int)⟩] := by simp [mkC, List.range_succ]
/-- After j rounds of marking. -/
def markedC (xs : List Value) (k j : Nat) : List Value := cels (mkC k j) ++ xs.drop (j * 2)
theorem markedC_zero (xs : List Value) (k : Nat) : markedC xs k 0 = xs := by simp [markedC, mkC, cels]
theorem markedC_all (xs : List Value) (k n : Nat) (h : xs.length = n * 2) : markedC xs k n = cels (mkC k n) := by
  unfold markedC
  rw [List.drop_eq_nil_of_le (by omega), List.append_nil]
theorem markedC_set (xs : List Value) (k j n : Nat) (h : xs.length = n * 2) (hj : j < n) :
    ((markedC xs k j).set (j * 2) (.int .i64 ((k + j * 2 : Nat) : Int))).set (j * 2 + 1) (.int .i64 ((k + j * 2 + 1 : Nat) : Int)) = markedC xs k (j + 1) := by
  unfold markedC
  rw [List.drop_eq_getElem_cons (by omega), List.drop_eq_getElem_cons (by omega)]
  rw [set2 _ _ _ _ _ _ _ (by rw [cels_length, mkC_length]), mkC_succ, cels_append]
  simp only [cels, List.append_assoc, List.cons_append, List.nil_append]
  rw [show (j + 1) * 2 = j * 2 + 1 + 1 by omega]

end Go.Proofs.YtldepledinolmaaGreatDoor
namespace Go.Proofs.YtldepledinolmaaGreatDoor
open Go.RowKit

theorem setRow_bk {w : World} {g : Nat} {cur : Array Value} {t : TypeId} (h : Bk w g cur t) (cs : Array Value) : Bk (w.setRow g cs) g cs t := setRow_heap w g cur cs t (0, 0) h
theorem setRow_grown (w : World) (g : Nat) (cs : Array Value) : w.grownBy (w.setRow g cs) (some g) :=
  ⟨rfl, rfl, rfl, by simp [World.setRow], fun k hk hne => by
    have hkg : ¬ g = k := fun e => hne (by rw [e])
    unfold World.setRow
    simp only
    rw [Array.getElem?_modify, if_neg hkg]⟩
theorem cels_eq {mem mem' : List Cel} (h : mem = mem') : cels mem = cels mem' := by rw [h]
theorem cels_take : ∀ (l : List Cel) (k : Nat), (cels l).take (k * 2) = cels (l.take k)
  | [], k => by simp [cels]
  | c :: r, 0 => by simp [cels]
  | c :: r, k + 1 => by
    rw [show (k + 1) * 2 = k * 2 + 1 + 1 by omega]
    simp only [cels, List.take_succ_cons, cels_take r k]
theorem cels_drop : ∀ (l : List Cel) (k : Nat), (cels l).drop (k * 2) = cels (l.drop k)
  | [], k => by simp [cels]
  | c :: r, 0 => by simp [cels]
  | c :: r, k + 1 => by
    rw [show (k + 1) * 2 = k * 2 + 1 + 1 by omega]
    simp only [cels, List.drop_succ_cons, cels_drop r k]
section
variable {P : Program} (w : World)
/-- append in place, where there is room: the block is known whole. -/
theorem run_append_row2 (t ty e : TypeId) (i : TypeInfo) (ht : P.underlying t = some (.slice e)) (hi : P.info? e = some i) (hsz : i.size = 2)
    (g sLen sCap : Nat) (cur : Array Value) (T : TypeId) (hg : Bk w g cur T) (a : Addr) (m c : Nat) (news : List Value) (hl : news.length = m * 2) (hnews : ∀ j u, news[j]? = some u → w.cell? (a.add j) = some u) (h1 : ∀ u ∈ news, u.oneCell' = true)
    (hroom : sLen + m ≤ sCap) (hfit : sLen * 2 + m * 2 ≤ cur.size) :
    (Builtin.append_ #[t, t] ty #[.slice (some ⟨g, 0, none⟩) sLen sCap, .slice (some a) m c]).run P w = .ok (.slice (some ⟨g, 0, none⟩) (sLen + m) sCap) (w.setRow g (cur.toList.take (sLen * 2) ++ news ++ cur.toList.drop (sLen * 2 + news.length)).toArray) := by
  have hfc := run_firstCells_some (P := P) w i.size m a m c news (by rw [hsz]; exact hl) hnews
  have hst := run_storeCells_at P g (sLen * 2) T news 0 cur w hg (by omega) h1
  simp only [Nat.add_zero] at hst
  rw [hsz] at hfc
  simp [Builtin.append_, run_underlying ht, sizeOf, typeInfo, hi, Builtin.lenOf, hroom, hsz, hfc, Addr.add_lit, hst]
theorem run_copy_row2 (dT sT ty elem : TypeId) (i : TypeInfo) (g o dLen dCap : Nat) (a : Addr) (sLen sCap : Nat) (cur : Array Value) (t : TypeId) (cs : List Value) (k : Nat)
    (hu : P.underlying dT = some (.slice elem)) (hi : P.info? elem = some i) (hsz : i.size = 2)
    (hg : Bk w g cur t) (hk : k = Nat.min sLen dLen) (hn : cs.length = k * 2)
    (hsrc : ∀ j v, cs[j]? = some v → w.cell? (a.add j) = some v) (hfit : o + cs.length ≤ cur.size) (h1 : ∀ v ∈ cs, v.oneCell' = true) :
    (Builtin.copy_ #[dT, sT] ty #[.slice (some ⟨g, o, none⟩) dLen dCap, .slice (some a) sLen sCap]).run P w =
      .ok (goInt k) (w.setRow g (cur.toList.take o ++ cs ++ cur.toList.drop (o + cs.length)).toArray) := by
  have hl := run_loadCells_list (P := P) w a cs hsrc
  have hst := run_storeCells_at P g o t cs 0 cur w hg (by simpa using hfit) h1
  simp only [Nat.add_zero] at hst
  rw [hn] at hl
  simp [Builtin.copy_, run_underlying hu, Builtin.lenOf, Builtin.firstCells, sizeOf, typeInfo, hi, hsz, ← hk, hl, hst]
theorem run_clear_row2 (t e ty : TypeId) (z : Value) (ht : P.underlying t = some (.slice e)) (hv : ∀ w, (zeroValue e).run P w = .ok z w) (hz : z.cells.size = 2) (h1 : ∀ n, ∀ v ∈ (Builtin.zeroCells z.cells n).toList, v.oneCell' = true) (g o n c : Nat) (cur : Array Value) (T : TypeId) (hg : Bk w g cur T) (hn : 0 < n) (hfit : o + n * 2 ≤ cur.size) :
    ∃ cs : Array Value, cs.size = cur.size ∧ cs.toList.take o = cur.toList.take o ∧ (Builtin.clear_ #[t] ty #[.slice (some ⟨g, o, none⟩) n c]).run P w = .ok (.tuple #[]) (w.setRow g cs) := by
  have hl : (Builtin.zeroCells z.cells n).toList.length = n * 2 := by rw [Array.length_toList, size_zeroCells, hz]
  have hst := run_storeCells_at P g o T (Builtin.zeroCells z.cells n).toList 0 cur w hg (by rw [hl]; omega) (h1 n)
  simp only [Nat.add_zero] at hst
  obtain ⟨m, rfl⟩ : ∃ m, n = m + 1 := ⟨n - 1, by omega⟩
  refine ⟨(cur.toList.take o ++ (Builtin.zeroCells z.cells (m + 1)).toList ++ cur.toList.drop (o + (Builtin.zeroCells z.cells (m + 1)).toList.length)).toArray, ?_, ?_, ?_⟩
  · simp only [List.size_toArray, List.length_append, List.length_take, List.length_drop, Array.length_toList] at hl ⊢
    omega
  · show List.take o (cur.toList.take o ++ _ ++ _) = _
    rw [List.append_assoc, List.take_append_of_le_length (by rw [List.length_take, Array.length_toList]; omega), List.take_take, Nat.min_self]
  · simp only [Builtin.clear_]
    simp [run_underlying ht, hv, hst]

/-- A builtin whose run is known: clear and copy. -/
theorem wpList_clear_run {ops : Array Oper} {rest : List Oper} {o : Oper} {a : Act} {Q : Exit → Act → World → Prop} (hgd : o.guard = none) (s : Operand) (t : TypeId)
    (ho : o.op = .call { callee := .builtin .clear, args := #[s], argTypes := #[t] }) (vs : Value) (hs : a.eval s = vs)
    (v' : Value) (w' : World) (hr : (Builtin.clear_ #[t] o.type #[vs]).run P w = .ok v' w') (h : wpList P ops Q rest (a.put o.dst v') w') : wpList P ops Q (o :: rest) a w := by
  refine wpList_plain hgd fun K hK => ?_
  unfold Oper.wp execOp
  simp only [ho, resolve, invoke, builtin, Sem.run_bind, Sem.run_pure, Result.andThen_ok, List.map_toArray, List.map_cons, List.map_nil, hs, hr]
  exact hK _ _ h
theorem wpList_copy_run2 {ops : Array Oper} {rest : List Oper} {o : Oper} {a : Act} {Q : Exit → Act → World → Prop} (hgd : o.guard = none) (d s : Operand) (t t' : TypeId)
    (ho : o.op = .call { callee := .builtin .copy, args := #[d, s], argTypes := #[t, t'] }) (v u : Value) (hd : a.eval d = v) (hs : a.eval s = u) {v' : Value} {w' : World}
    (hr : (Builtin.copy_ #[t, t'] o.type #[v, u]).run P w = .ok v' w') (h : wpList P ops Q rest (a.put o.dst v') w') : wpList P ops Q (o :: rest) a w := by
  refine wpList_plain hgd fun K hK => ?_
  unfold Oper.wp execOp
  simp only [ho, resolve, invoke, builtin, Sem.run_bind, Sem.run_pure, Result.andThen_ok, List.map_toArray, List.map_cons, List.map_nil, hd, hs, hr]
  exact hK _ _ h
end
/-- A row of the call's own, opened. -/
theorem own_open {w : World} {base : Nat} {e : TypeId} {size n : Nat} {v : Value} {xs : List Value} (h : w.ownsRow base e size v n xs) (hn : 0 < n) : ∃ g cap cur, v = .slice (some ⟨g, 0, none⟩) n cap ∧ base ≤ g ∧ Bk w g cur e ∧ n ≤ cap ∧ cap ≤ maxLen ∧ cur.size = cap * size ∧ cur.toList.take (n * size) = xs := by
  rcases h.2 with ⟨_, h0⟩ | h'
  · omega
  · exact h'
theorem own_mk {w : World} {base g n cap size : Nat} {e : TypeId} {cur : Array Value} (hb : base ≤ g) (hg : Bk w g cur e) (hn : n ≤ cap) (hc : cap ≤ maxLen) (hs : cur.size = cap * size) {xs : List Value} (hx : cur.toList.take (n * size) = xs) : w.ownsRow base e size (.slice (some ⟨g, 0, none⟩) n cap) n xs :=
  ⟨by rw [← hx, List.length_take, Array.length_toList, hs]; exact Nat.min_eq_left (Nat.mul_le_mul_right _ hn), .inr ⟨g, cap, cur, rfl, hb, hg, hn, hc, hs, hx⟩⟩
theorem cells_row {w : World} {g : Nat} {cur : Array Value} {e : TypeId} (hg : Bk w g cur e) (o : Nat) (l : List Value) (hl : ∀ j (hj : j < l.length), cur.toList[o + j]? = some l[j]) : ∀ j v, l[j]? = some v → w.cell? ((⟨g, o, none⟩ : Addr).add j) = some v := by
  intro j v hj
  have hjl : j < l.length := by
    rcases Nat.lt_or_ge j l.length with h | h
    · exact h
    · rw [List.getElem?_eq_none h] at hj; cases hj
  rw [Go.WideShapes.add_plain, hg.cell (o + j)]
  have := hl j hjl
  rw [List.getElem?_eq_getElem hjl] at hj
  cases hj
  rw [← this]
  simp
def cutC (g k c : Nat) : Addr := if c = k then ⟨g, 0, none⟩ else ⟨g, k * 2, none⟩
end Go.Proofs.YtldepledinolmaaGreatDoor
namespace Go.Proofs.YtldepledinolmaaGreatDoor
open Go.RowKit

/-- What TurnBit tells. -/
def TbPost (l : List Int) (a b : Int) (w : World) (e : Ending) (w' : World) : Prop := ∃ D d, e = .returned (.agg #[.int .i64 (tbC l a b), .slice D (tbB l a b).length d]) ∧ w'.ownsRow w.heap.size 5 1 (.slice D (tbB l a b).length d) (tbB l a b).length ((tbB l a b).map (Value.int .u8)) ∧ Below w.heap.size w w'
theorem wrap_u8 (n : Int) (h0 : 0 ≤ n) (h1 : n < 256) : IntKind.u8.wrap n = n := by rw [IntKind.wrap_u8]; omega
theorem map_set_u8 (l : List Int) (i : Nat) (y : Int) : (l.map (Value.int .u8)).set i (.int .u8 y) = (l.set i y).map (Value.int .u8) := by rw [List.map_set]

set_option maxRecDepth 100000 in
set_option maxHeartbeats 800000 in
theorem l9Turn_any (l : List Int) (a b : Int) (A : Option Addr) (c : Nat) (w : World) (hl : l.length ≤ 1048576) (hk : tbOk l.length a b) (h : Rd .u8 w w.heap.size A l) :
    Calls Tryz.prog 38 #[.slice A l.length c, .int .i64 a, .int .i64 b] w fun e w' => ∃ D d, e = .returned (.slice D (tbL l a b).length d) ∧ w'.ownsRow w.heap.size 5 1 (.slice D (tbL l a b).length d) (tbL l a b).length ((tbL l a b).map (Value.int .u8)) ∧ Below w.heap.size w w' := by
  obtain ⟨B, rfl⟩ := Int.eq_ofNat_of_zero_le hk.2.1
  have hB : B ≤ 7 := by have := hk.2.2; omega
  obtain ⟨i, rfl⟩ := Int.eq_ofNat_of_zero_le hk.1.1
  have hi : i < l.length := by have := hk.1.2; omega
  have HG := hide (show l.getD i 0 = l[i] by rw [List.getD_eq_getElem?_getD, List.getElem?_eq_getElem hi]; rfl)
  have CP := hide (l1Copy_any l A c w hl h)
  clear hk
  go_enter Tryz.func38, Tryz.ntmps38
  go_wp2_with fail
  refine CP.out.mono ?_
  rintro e w1 ⟨D, d, rfl, o1, b1⟩
  go_wp2
  go_loop [2, 8] (fun x m => ∃ k : Nat, k ≤ B ∧ x = .int .i64 ((B - k : Nat) : Int) ∧ m = .int .u8 ((2 ^ k : Nat) : Int)) (fun x _ => (intOf x).toNat)
  case atStart => exact ⟨0, Nat.zero_le _, rfl, rfl⟩
  case round =>
    obtain ⟨k, hk, rfl, rfl⟩ := hrel
    by_cases hlt : k < B
    · have hp : (2 : Nat) ^ k ≤ 2 ^ 6 := Nat.pow_le_pow_right (by omega) (by omega)
      have hp6 : (2 : Nat) ^ 6 = 64 := rfl
      have e1 : (2 : Nat) ^ (k + 1) = 2 ^ k * 2 := Nat.pow_succ 2 k
      obtain ⟨m, hm⟩ : ∃ m, m = 2 ^ k := ⟨_, rfl⟩
      rw [← hm] at hp e1 ⊢
      have HE := hide e1
      have w1 : IntKind.u8.wrap ((m : Int) * 2) = (m : Int) * 2 := wrap_u8 _ (by omega) (by omega)
      have w2 : IntKind.i64.wrap (((B - k : Nat) : Int) - 1) = ((B - k : Nat) : Int) - 1 := by rw [IntKind.wrap_i64]; omega
      have g0 : (0 : Int) < ((B - k : Nat) : Int) := by omega
      clear hm e1
      go_wp2
      go_round
      case rel => exact ⟨k + 1, by omega, by go_num, by rw [HE.out]; go_num⟩
      case measure => simp [intOf]; omega
    · obtain rfl : k = B := by omega
      obtain ⟨g, cap, cur, hv, hgb, _⟩ := own_open o1 (by omega)
      simp only [Value.slice.injEq] at hv
      obtain ⟨hv1, _, hv3⟩ := hv
      subst hv1
      subst hv3
      have hc : w1.cell? ⟨g, i, none⟩ = some (.int .u8 l[i]) := by
        rw [o1.cellAt i (by omega), List.getElem?_map, List.getElem?_eq_getElem hi]
        rfl
      have hf := o1.frozenAt i
      have g0 : ¬ (0 : Int) < ((k - k : Nat) : Int) := by omega
      have hs := (o1.stored i (.int .u8 (bits .xor .u8 l[i] ((2 ^ k : Nat) : Int)))).1
      have e2 : ((l.map (Value.int .u8)).set i (.int .u8 (bits .xor .u8 l[i] ((2 ^ k : Nat) : Int)))) = (tbL l (i : Int) (k : Int)).map (Value.int .u8) := by
        rw [map_set_u8]
        unfold tbL tbY
        rw [Int.toNat_natCast, Int.toNat_natCast, HG.out, show ((2 ^ k : Nat) : Int) = 2 ^ k by push_cast; rfl]
      rw [e2] at hs
      have HS := hide hs
      have HB := hide (b1.setCell (p := ⟨g, i, none⟩) hgb (.int .u8 (bits .xor .u8 l[i] ((2 ^ k : Nat) : Int))))
      obtain ⟨x, hx⟩ : ∃ x, x = l[i] := ⟨_, rfl⟩
      rw [← hx] at hc HS HB
      obtain ⟨m, hm⟩ : ∃ m, m = 2 ^ k := ⟨_, rfl⟩
      rw [← hm] at HS HB ⊢
      have i0 : (0 : Int) ≤ (i : Int) := by omega
      have i1 : (i : Int) < (l.length : Int) := by omega
      have i2 : ((i : Int)).toNat = i := by omega
      clear hs e2 hx hm o1
      go_wp2
      go_ret
      rw [tbL_len]
      exact ⟨some ⟨g, 0, none⟩, _, rfl, HS.out, HB.out⟩

set_option maxRecDepth 100000 in
set_option maxHeartbeats 1600000 in
theorem specTb_any (l : List Int) (a b : Int) (A : Option Addr) (c : Nat) (w : World) (hl : l.length ≤ 1048576) (h : Rd .u8 w w.heap.size A l) :
    Calls Tryz.prog 15 #[.slice A l.length c, .int .i64 a, .int .i64 b] w (TbPost l a b w) := by
  unfold TbPost
  obtain ⟨W, hW⟩ : ∃ W, W = w.alloc (Obj.cells #[.int .i64 0, .slice none 0 0] 35) := ⟨_, rfl⟩
  have B0 : Below w.heap.size w W := by rw [hW]; exact (Below.refl _ _).alloc (Nat.le_refl _) _
  have hR := (h.below B0).lt
  have HW := hide hW
  clear hW
  have q0 := W_cell HW.out (Below.refl _ _) 0
  have q1 := W_cell HW.out (Below.refl _ _) 1
  have f0 := W_frozen HW.out (Below.refl _ _) 0
  have f1 := W_frozen HW.out (Below.refl _ _) 1
  simp at q0 q1
  by_cases h1 : l.length ≤ 4000
  · have w1 : IntKind.i64.wrap ((l.length : Int) - 1) = (l.length : Int) - 1 := by rw [IntKind.wrap_i64]; omega
    by_cases hk : tbOk l.length a b
    · have HC := hide (tb_ok h1 hk)
      have HB := hide (tbB_ok h1 hk)
      have ha := hk.1
      have hb := hk.2
      have TU := hide (l9Turn_any l a b A c W hl hk hR)
      have hlen := tbL_len l a b
      obtain ⟨T, hT⟩ : ∃ T, T = tbL l a b := ⟨_, rfl⟩
      rw [← hT] at TU HB hlen
      rw [HC.out, HB.out]
      clear hT hk q0 q1 f0 f1
      go_enter Tryz.func15, Tryz.ntmps15
      go_wp2_with (rw [← HW.out])
      refine (l1In_yes _ _ _ _ ha).mono ?_
      rintro e w2 ⟨rfl, rfl⟩
      go_wp2_with fail
      refine (l1In_yes _ _ _ _ hb).mono ?_
      rintro e w2 ⟨rfl, rfl⟩
      go_wp2_with fail
      refine TU.out.mono ?_
      rintro e w2 ⟨D, d, rfl, o2, b2⟩
      have q0 := W_cell HW.out b2 0
      have q1 := W_cell HW.out b2 1
      have f0 := W_frozen HW.out b2 0
      have f1 := W_frozen HW.out b2 1
      simp at q0 q1
      have hz := W_size HW.out
      rw [hlen] at o2
      have O1 := hide ((o2.kept (grown_set w2 w.heap.size 0 (.int .i64 0)) (own_sep fun z hz e => by have := (o2.lt z hz).1; simp only [Option.some.injEq] at e; omega)).kept (grown_set _ w.heap.size 1 (.slice D l.length d)) (own_sep fun z hz e => by have := (o2.lt z hz).1; simp only [Option.some.injEq] at e; omega))
      have HBB := hide (((W_below HW.out b2).setCell (p := ⟨w.heap.size, 0, none⟩) (Nat.le_refl _) (.int .i64 0)).setCell (p := ⟨w.heap.size, 1, none⟩) (Nat.le_refl _) (.slice D l.length d))
      have HZ := hide (show w.heap.size ≤ W.heap.size by omega)
      clear o2 b2 hz
      go_wp2
      refine bodyPost_ret (v := .agg #[.int .i64 0, .slice D l.length d]) (by simp [results, Tryz.results15, go_sem, q0, q1]) rfl ?_
      rw [hlen]
      exact ⟨D, d, rfl, own_mono O1.out HZ.out, HBB.out⟩
    · have HC := hide (tb_range h1 hk)
      have HB := hide (tbB_no (l := l) (a := a) (b := b) (by rw [HC.out]; omega))
      rw [HC.out, HB.out]
      unfold tbOk at hk
      by_cases ha : 0 ≤ a ∧ a ≤ (l.length : Int) - 1
      · have hb : b < 0 ∨ 7 < b := by omega
        clear hk
        go_enter Tryz.func15, Tryz.ntmps15
        go_wp2_with (rw [← HW.out])
        refine (l1In_yes _ _ _ _ ha).mono ?_
        rintro e w2 ⟨rfl, rfl⟩
        go_wp2_with fail
        refine (l1In_no _ _ _ _ hb).mono ?_
        rintro e w2 ⟨rfl, rfl⟩
        go_wp2
        refine bodyPost_ret (v := .agg #[.int .i64 3, .slice none 0 0]) (by simp [results, Tryz.results15, go_sem, q0, q1]) rfl ?_
        exact ⟨none, 0, rfl, World.ownsRow_nil _ _ _ _, (B0.setCell (Nat.le_refl _) _).setCell (Nat.le_refl _) _⟩
      · have ha2 : a < 0 ∨ (l.length : Int) - 1 < a := by omega
        clear hk ha
        go_enter Tryz.func15, Tryz.ntmps15
        go_wp2_with (rw [← HW.out])
        refine (l1In_no _ _ _ _ ha2).mono ?_
        rintro e w2 ⟨rfl, rfl⟩
        go_wp2
        refine bodyPost_ret (v := .agg #[.int .i64 3, .slice none 0 0]) (by simp [results, Tryz.results15, go_sem, q0, q1]) rfl ?_
        exact ⟨none, 0, rfl, World.ownsRow_nil _ _ _ _, (B0.setCell (Nat.le_refl _) _).setCell (Nat.le_refl _) _⟩
  · have HC := hide (tb_many (a := a) (b := b) h1)
    have HB := hide (tbB_no (l := l) (a := a) (b := b) (by rw [HC.out]; omega))
    rw [HC.out, HB.out]
    go_enter Tryz.func15, Tryz.ntmps15
    go_wp2_with (rw [← HW.out])
    refine bodyPost_ret (v := .agg #[.int .i64 2, .slice none 0 0]) (by simp [results, Tryz.results15, go_sem, q0, q1]) rfl ?_
    exact ⟨none, 0, rfl, World.ownsRow_nil _ _ _ _, (B0.setCell (Nat.le_refl _) _).setCell (Nat.le_refl _) _⟩
end Go.Proofs.YtldepledinolmaaGreatDoor
namespace Go.Proofs.YtldepledinolmaaGreatDoor
open Go.RowKit

set_option maxRecDepth 100000 in
set_option maxHeartbeats 400000 in
theorem cloneB_any (l : List Int) (A : Option Addr) (c : Nat) (w : World) (hl : l.length ≤ 1048576) (h0 : 0 < l.length) (hR : Rd .u8 w w.heap.size A l) :
    Calls Tryz.prog 35 #[.slice A l.length c] w fun e w' => ∃ D d, e = .returned (.slice D l.length d) ∧ w'.ownsRow w.heap.size 5 1 (.slice D l.length d) l.length (l.map (Value.int .u8)) ∧ Below w.heap.size w w' := by
  obtain ⟨i0, hi, hz0, hz1, hz2⟩ := info_parts info_u8
  obtain ⟨b, off, rfl, hbg, _⟩ := hR.all h0
  have q22 : ∀ (w : World) (a : Option Addr) (n c n' c' : Nat), (binOp .eql 22 (.slice a n c) (.slice none n' c')).run Tryz.prog w = .ok (.bool a.isNone) w := fun w a n c n' c' => Go.Lib.run_eql_slice_nil w _ _ a n c n' c' Tryz.underlying22
  go_enter Tryz.func35, Tryz.ntmps35
  go_wp2_with (at_builtin; go_loud (refine wpList_append_rd _ rfl _ _ 22 rfl w.heap.size 5 i0 (.int .u8 0) 1 Tryz.underlying22 hi hz0 hz1 hz2 rfl .u8 _ _ _ rfl (World.ownsRow_lit w #[] 0 (Nat.le_refl _) (by simp) rfl) (some ⟨b, off, none⟩) l c w.heap.size rfl (hR.alloc (Nat.le_refl _) _) (by unfold maxLen; omega) (by omega) (by simp) ?_); intro v' w1 hown' hgrow hat)
  simp only [Nat.zero_add, List.nil_append] at hown'
  obtain ⟨D, d, hv⟩ := own_shape hown'
  have hb : Below w.heap.size w w1 := ((Below.refl _ _).alloc (Nat.le_refl _) _).grown hgrow (by simp) (fun k hk => by simp [Act.eval, Value.ownBlock] at hk; omega)
  go_ret
  have ho := hown'
  rw [hv] at ho
  exact ⟨D, d, congrArg Ending.returned hv, ho, hb⟩

set_option maxRecDepth 100000 in
set_option maxHeartbeats 1600000 in
theorem implTb_any (l : List Int) (a b : Int) (A : Option Addr) (c : Nat) (w : World) (hl : l.length ≤ 1048576) (h : Rd .u8 w w.heap.size A l) :
    Calls Tryz.prog 10 #[.slice A l.length c, .int .i64 a, .int .i64 b] w (TbPost l a b w) := by
  unfold TbPost
  obtain ⟨W, hW⟩ : ∃ W, W = w.alloc (Obj.cells #[.int .i64 0, .slice none 0 0] 35) := ⟨_, rfl⟩
  have B0 : Below w.heap.size w W := by rw [hW]; exact (Below.refl _ _).alloc (Nat.le_refl _) _
  have hR := (h.below B0).lt
  have HW := hide hW
  clear hW
  by_cases h1 : l.length ≤ 4000
  · have w1 : IntKind.i64.wrap ((l.length : Int) - 1) = (l.length : Int) - 1 := by rw [IntKind.wrap_i64]; omega
    by_cases hk : tbOk l.length a b
    · have HC := hide (tb_ok h1 hk)
      have HB := hide (tbB_ok h1 hk)
      have ha := hk.1
      have hb := hk.2
      have hi := tb_at hk
      rw [HC.out, HB.out, tbL_len]
      obtain ⟨B, rfl⟩ := Int.eq_ofNat_of_zero_le hb.1
      have hB : B ≤ 7 := by omega
      obtain ⟨i, rfl⟩ := Int.eq_ofNat_of_zero_le ha.1
      rw [Int.toNat_natCast] at hi
      have HG := hide (show l.getD i 0 = l[i] by rw [List.getD_eq_getElem?_getD, List.getElem?_eq_getElem hi]; rfl)
      clear hk
      go_enter Tryz.func10, Tryz.ntmps10
      go_wp2_with (rw [← HW.out])
      refine (allWithin_one _ _ _ _ _ _ (by simp [go_sem]) ha).mono ?_
      rintro e w2 ⟨rfl, rfl⟩
      go_wp2_with fail
      refine (allWithin_one _ _ _ _ _ _ (by simp [go_sem]) hb).mono ?_
      rintro e w2 ⟨rfl, rfl⟩
      have bA : Below W.heap.size W ((W.alloc (Obj.cells #[.int .i64 (i : Nat)] 2)).alloc (Obj.cells #[.int .i64 (B : Nat)] 2)) := ((Below.refl _ _).alloc (Nat.le_refl _) _).alloc (by simp) _
      generalize (W.alloc (Obj.cells #[.int .i64 (i : Nat)] 2)).alloc (Obj.cells #[.int .i64 (B : Nat)] 2) = V at *
      go_wp2_with fail
      refine (cloneB_any l A c V hl (by omega) ((hR.below bA).lt)).mono ?_
      rintro e w2 ⟨D, d, rfl, o2, b2⟩
      have b3 := bA.trans (b2.mono bA.size)
      have zW := W_size HW.out
      have zV := bA.size
      obtain ⟨g, cap, cur, hv, hgb, _⟩ := own_open o2 (by omega)
      simp only [Value.slice.injEq] at hv
      obtain ⟨hv1, _, hv3⟩ := hv
      subst hv1
      subst hv3
      have hc : w2.cell? ⟨g, i, none⟩ = some (.int .u8 l[i]) := by
        rw [o2.cellAt i (by omega), List.getElem?_map, List.getElem?_eq_getElem hi]
        rfl
      have hf := o2.frozenAt i
      have HS := hide (o2.stored i (.int .u8 (bits .xor .u8 l[i] ((2 ^ B : Nat) : Int)))).1
      have HBB := hide (b3.setCell (p := ⟨g, i, none⟩) (by simp only; omega) (.int .u8 (bits .xor .u8 l[i] ((2 ^ B : Nat) : Int))))
      have HE := hide (show ((l.map (Value.int .u8)).set i (.int .u8 (bits .xor .u8 l[i] ((2 ^ B : Nat) : Int)))) = (tbL l (i : Int) (B : Int)).map (Value.int .u8) by
        rw [map_set_u8]
        unfold tbL tbY
        rw [Int.toNat_natCast, Int.toNat_natCast, HG.out, show ((2 ^ B : Nat) : Int) = 2 ^ B by push_cast; rfl])
      obtain ⟨x, hx⟩ : ∃ x, x = l[i] := ⟨_, rfl⟩
      rw [← hx] at hc HS HBB HE
      have i0 : (0 : Int) ≤ (i : Int) := by omega
      have i1 : (i : Int) < (l.length : Int) := by omega
      have i2 : ((i : Int)).toNat = i := by omega
      clear hx o2 b3 b2 bA HG
      obtain ⟨M, hM⟩ : ∃ M : Int, M = ((2 ^ B : Nat) : Int) := ⟨_, rfl⟩
      have hM2 : (2 : Int) ^ B = M := by rw [hM]; push_cast; rfl
      have hb8 := two_pow8 hb.1 hb.2
      rw [Int.toNat_natCast, hM2] at hb8
      have ws : IntKind.u8.wrap M = M := wrap_u8 _ (by omega) (by omega)
      have ws1 : IntKind.u8.wrap (1 * M) = M := by rw [Int.one_mul]; exact ws
      rw [← hM] at HS HBB HE
      clear hM
      go_upto_region 6 with fail
      go_region
      have hS := HS.out
      rw [HE.out] at hS
      have bY := HBB.out.drew
      have oY := own_mono (base' := W.heap.size) (own_below hS (Below.refl _ _).drew (Nat.le_refl _)) zV
      clear hS HS HBB HE hf hc
      generalize (w2.setCell ⟨g, i, none⟩ (.int .u8 (bits .xor .u8 x M))).drew = Y at *
      have q0 := W_cell HW.out bY 0
      have q1 := W_cell HW.out bY 1
      have f0 := W_frozen HW.out bY 0
      have f1 := W_frozen HW.out bY 1
      simp at q0 q1
      have O1 := hide ((oY.kept (grown_set Y w.heap.size 0 (.int .i64 0)) (own_sep fun z hz e => by have := (oY.lt z hz).1; simp only [Option.some.injEq] at e; omega)).kept (grown_set _ w.heap.size 1 (.slice (some ⟨g, 0, none⟩) l.length d)) (own_sep fun z hz e => by have := (oY.lt z hz).1; simp only [Option.some.injEq] at e; omega))
      have HB2 := hide (((W_below HW.out bY).setCell (p := ⟨w.heap.size, 0, none⟩) (Nat.le_refl _) (.int .i64 0)).setCell (p := ⟨w.heap.size, 1, none⟩) (Nat.le_refl _) (.slice (some ⟨g, 0, none⟩) l.length d))
      clear oY
      go_wp2
      refine bodyPost_ret (v := .agg #[.int .i64 0, .slice (some ⟨g, 0, none⟩) l.length d]) (by simp [results, Tryz.results10, go_sem, q0, q1]) rfl ?_
      exact ⟨some ⟨g, 0, none⟩, d, rfl, own_mono O1.out (by omega), HB2.out⟩
    · have HC := hide (tb_range h1 hk)
      have HB := hide (tbB_no (l := l) (a := a) (b := b) (by rw [HC.out]; omega))
      rw [HC.out, HB.out]
      unfold tbOk at hk
      by_cases ha : 0 ≤ a ∧ a ≤ (l.length : Int) - 1
      · have hb : b < 0 ∨ 7 < b := by omega
        clear hk
        go_enter Tryz.func10, Tryz.ntmps10
        go_wp2_with (rw [← HW.out])
        refine (allWithin_one _ _ _ _ _ _ (by simp [go_sem]) ha).mono ?_
        rintro e w2 ⟨rfl, rfl⟩
        go_wp2_with fail
        refine (allWithin_not _ _ _ _ _ _ (by simp [go_sem]) hb).mono ?_
        rintro e w2 ⟨rfl, rfl⟩
        have bA : Below W.heap.size W ((W.alloc (Obj.cells #[.int .i64 a] 2)).alloc (Obj.cells #[.int .i64 b] 2)) := ((Below.refl _ _).alloc (Nat.le_refl _) _).alloc (by simp) _
        generalize (W.alloc (Obj.cells #[.int .i64 a] 2)).alloc (Obj.cells #[.int .i64 b] 2) = V at *
        have q0 := W_cell HW.out bA 0
        have q1 := W_cell HW.out bA 1
        have f0 := W_frozen HW.out bA 0
        have f1 := W_frozen HW.out bA 1
        simp at q0 q1
        go_wp2
        refine bodyPost_ret (v := .agg #[.int .i64 3, .slice none 0 0]) (by simp [results, Tryz.results10, go_sem, q0, q1]) rfl ?_
        exact ⟨none, 0, rfl, World.ownsRow_nil _ _ _ _, ((W_below HW.out bA).setCell (Nat.le_refl _) _).setCell (Nat.le_refl _) _⟩
      · have ha2 : a < 0 ∨ (l.length : Int) - 1 < a := by omega
        clear hk ha
        go_enter Tryz.func10, Tryz.ntmps10
        go_wp2_with (rw [← HW.out])
        refine (allWithin_not _ _ _ _ _ _ (by simp [go_sem]) ha2).mono ?_
        rintro e w2 ⟨rfl, rfl⟩
        have bA : Below W.heap.size W (W.alloc (Obj.cells #[.int .i64 a] 2)) := (Below.refl _ _).alloc (Nat.le_refl _) _
        generalize W.alloc (Obj.cells #[.int .i64 a] 2) = V at *
        have q0 := W_cell HW.out bA 0
        have q1 := W_cell HW.out bA 1
        have f0 := W_frozen HW.out bA 0
        have f1 := W_frozen HW.out bA 1
        simp at q0 q1
        go_wp2
        refine bodyPost_ret (v := .agg #[.int .i64 3, .slice none 0 0]) (by simp [results, Tryz.results10, go_sem, q0, q1]) rfl ?_
        exact ⟨none, 0, rfl, World.ownsRow_nil _ _ _ _, ((W_below HW.out bA).setCell (Nat.le_refl _) _).setCell (Nat.le_refl _) _⟩
  · have HC := hide (tb_many (a := a) (b := b) h1)
    have HB := hide (tbB_no (l := l) (a := a) (b := b) (by rw [HC.out]; omega))
    rw [HC.out, HB.out]
    have q0 := W_cell HW.out (Below.refl _ _) 0
    have q1 := W_cell HW.out (Below.refl _ _) 1
    have f0 := W_frozen HW.out (Below.refl _ _) 0
    have f1 := W_frozen HW.out (Below.refl _ _) 1
    simp at q0 q1
    go_enter Tryz.func10, Tryz.ntmps10
    go_wp2_with (rw [← HW.out])
    refine bodyPost_ret (v := .agg #[.int .i64 2, .slice none 0 0]) (by simp [results, Tryz.results10, go_sem, q0, q1]) rfl ?_
    exact ⟨none, 0, rfl, World.ownsRow_nil _ _ _ _, (B0.setCell (Nat.le_refl _) _).setCell (Nat.le_refl _) _⟩
end Go.Proofs.YtldepledinolmaaGreatDoor
