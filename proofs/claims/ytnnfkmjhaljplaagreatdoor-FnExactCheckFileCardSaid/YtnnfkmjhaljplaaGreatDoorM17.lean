/- What the laws' walks rest upon, part 17. -/
import Derived.Test.YtnnfkmjhaljplaaGreatDoorM02
import Derived.Test.YtnnfkmjhaljplaaGreatDoorM16
import Derived.StillTailTactics
import Derived.Lib.Hide
import Derived.OwnWalkIn
import Derived.TacticsInMore
import Derived.Maps.AppendAt
import Derived.Maps.Range
import Derived.OwnWalk
import Derived.RegionTactic
import Derived.Laws.CopyRow
import Derived.ArgAppend
import Derived.Laws.IdiomCopy
import Derived.Lib.AppendZeros
import Derived.Lib.AppendZerosOnto
namespace Go.Proofs.YtnnfkmjhaljplaaGreatDoor
open Go.RowKit
def cels : List Cel → List Value
  | [] => []
  | s :: r => .int .i64 s.a :: .int .i64 s.v :: cels r
theorem cels_length : ∀ ss : List Cel, (cels ss).length = ss.length * 2
  | [] => rfl
  | s :: r => by simp only [cels, List.length_cons, cels_length r]; omega
theorem cels_append : ∀ (l m : List Cel), cels (l ++ m) = cels l ++ cels m
  | [], _ => rfl
  | s :: r, m => by simp only [cels, List.cons_append, cels_append r m]
theorem cels_get : ∀ (ss : List Cel) (i : Nat) (h : i < ss.length), (cels ss)[i * 2]? = some (.int .i64 ss[i].a) ∧ (cels ss)[i * 2 + 1]? = some (.int .i64 ss[i].v)
  | [], i, h => absurd h (Nat.not_lt_zero _)
  | s :: r, 0, _ => ⟨rfl, rfl⟩
  | s :: r, i + 1, h => by
    have ih := cels_get r i (by simpa using h)
    rw [show (i + 1) * 2 = i * 2 + 1 + 1 by omega]
    simp only [cels, List.getElem?_cons_succ, List.getElem_cons_succ]
    exact ih
theorem cels_one : ∀ (l : List Cel), ∀ u ∈ cels l, u.oneCell' = true
  | [], u, h => by simp [cels] at h
  | x :: r, u, h => by
    simp only [cels, List.mem_cons] at h
    rcases h with rfl | rfl | h
    · rfl
    · rfl
    · exact cels_one r u h
/-- The slice address A leads to the cells ss, in a block below B. -/
def RdC (w : World) (B : Nat) (A : Option Addr) (ss : List Cel) : Prop := RdV w B A (cels ss)
section
variable {w w' : World} {B B' : Nat} {A : Option Addr} {ss : List Cel}
theorem RdC.nil_ : RdC w B A [] := RdV.nil_
theorem RdC.keep (h : RdC w B A ss) (hk : ∀ p : Addr, p.block < B → w'.cell? p = w.cell? p) : RdC w' B A ss := RdV.keep h hk
theorem RdC.more (h : RdC w B A ss) (hB : B ≤ B') : RdC w B' A ss := RdV.more h hB
theorem RdC.below (h : RdC w B A ss) (hb : Below B w w') : RdC w' B A ss := RdV.below h hb
theorem RdC.drew (h : RdC w B A ss) : RdC w.drew B A ss := h
theorem RdC.drewN (h : RdC w B A ss) (n : Nat) : RdC (w.drewN n) B A ss := h
theorem RdC.alloc (h : RdC w B A ss) (hB : B ≤ w.heap.size) (o : Obj) : RdC (w.alloc o) B A ss := RdV.alloc h hB o
theorem RdC.lt (h : RdC w B A ss) : RdC w w.heap.size A ss := RdV.lt h
theorem RdC.of_own {base : Nat} {e : TypeId} {n c : Nat} (h : w.ownsRow base e 2 (.slice A n c) n (cels ss)) : RdC w w.heap.size A ss := RdV.of_own h
theorem RdC.get (h : RdC w B A ss) {i : Nat} (hi : i < ss.length) : ∃ b off, A = some ⟨b, off, none⟩ ∧ b < B ∧ w.cell? ⟨b, off + i * 2, none⟩ = some (.int .i64 ss[i].a) ∧ w.cell? ⟨b, off + i * 2 + 1, none⟩ = some (.int .i64 ss[i].v) := by
  have hl := cels_length ss
  obtain ⟨b, off, e, hb, hc⟩ := h (by omega)
  obtain ⟨g0, g1⟩ := cels_get ss i hi
  have k0 := hc (i * 2) (by omega)
  have k1 := hc (i * 2 + 1) (by omega)
  rw [List.getElem?_eq_getElem (by omega)] at g0 g1
  rw [Option.some.inj g0] at k0
  rw [Option.some.inj g1] at k1
  exact ⟨b, off, e, hb, k0, by rw [Nat.add_assoc]; exact k1⟩
theorem RdC.grown {g : Nat} (h : RdC w g A ss) (hg : w.grownBy w' (some g)) : RdC w' g A ss := RdV.grown h hg
end
theorem RdC.one_new (w : World) (e : Cel) (T : TypeId) : RdC (w.alloc (.cells #[.int .i64 e.a, .int .i64 e.v] T)) (w.heap.size + 1) (some ⟨w.heap.size, 0, none⟩) [e] := fun _ =>
  ⟨w.heap.size, 0, rfl, Nat.lt_succ_self _, fun i hi => by
    rw [Nat.zero_add, (Bk.new w #[.int .i64 e.a, .int .i64 e.v] T).cell i]
    simp only [List.getElem?_toArray]
    exact List.getElem?_eq_getElem hi⟩
/-- A cell as a value. -/
abbrev celV (a v : Int) : Value := .agg #[.int .i64 a, .int .i64 v]
def zeroC : Cel := ⟨0, 0⟩
theorem cels_zero : ∀ n : Nat, cels (List.replicate n zeroC) = List.replicate (n * 2) (.int .i64 0)
  | 0 => rfl
  | n + 1 => by
    rw [List.replicate_succ, cels, cels_zero n, show (n + 1) * 2 = n * 2 + 1 + 1 by omega, List.replicate_succ, List.replicate_succ]
    rfl
theorem made_cell (n : Nat) : (madeCells (Value.agg #[.int .i64 0, .int .i64 0]).cells (n * 2)).toList = List.replicate (n * 2) (Value.int .i64 0) := by
  apply List.ext_getElem
  · simp [madeCells]
  · intro i h1 h2
    simp only [madeCells, Value.cells, Array.getElem_toList, List.getElem_replicate]
    rcases (show i % 2 = 0 ∨ i % 2 = 1 by omega) with h | h <;> simp [h]
/-- After k rounds of a copy: the first k are there, the rest as it was made. -/
def halfC (es : List Cel) (k : Nat) : List Value := cels (es.take k ++ List.replicate (es.length - k) zeroC)
theorem halfC_zero (es : List Cel) : halfC es 0 = List.replicate (es.length * 2) (Value.int .i64 0) := by simp [halfC, cels_zero]
theorem halfC_all (es : List Cel) : halfC es es.length = cels es := by simp [halfC]
theorem halfC_length (es : List Cel) (k : Nat) (hk : k ≤ es.length) : (halfC es k).length = es.length * 2 := by
  unfold halfC
  rw [cels_length, List.length_append, List.length_take, List.length_replicate]
  congr 1
  omega
theorem set2 {α : Type} (p s : List α) (a b x y : α) (n : Nat) (h : p.length = n) : ((p ++ a :: b :: s).set n x).set (n + 1) y = p ++ x :: y :: s := by
  subst h
  simp
theorem halfC_set (es : List Cel) (k : Nat) (hk : k < es.length) : ((halfC es k).set (k * 2) (.int .i64 es[k].a)).set (k * 2 + 1) (.int .i64 es[k].v) = halfC es (k + 1) := by
  unfold halfC
  rw [show es.length - k = (es.length - (k + 1)) + 1 by omega, List.replicate_succ, List.take_succ_eq_append_getElem hk, cels_append, cels_append, cels_append]
  simp only [cels]
  rw [set2 _ _ _ _ _ _ _ (by rw [cels_length, List.length_take]; omega)]
  simp
/-- The marks that are laid from k on. -/
def mkC (k n : Nat) : List Cel := (List.range n).map fun i => ⟨((k + i * 2 : Nat) : Int), ((k + i * 2 + 1 : Nat) : Int)⟩
theorem mkC_length (k n : Nat) : (mkC k n).length = n := by simp [mkC]
theorem mkC_succ (k n : Nat) : mkC k (n + 1) = mkC k n ++ [⟨((k + n * 2 : Nat) : Int), ((k + n * 2 + 1 : Nat) : Int)⟩] := by simp [mkC, List.range_succ]
/-- After j rounds of marking. -/
def markedC (xs : List Value) (k j : Nat) : List Value := cels (mkC k j) ++ xs.drop (j * 2)
theorem markedC_zero (xs : List Value) (k : Nat) : markedC xs k 0 = xs := by simp [markedC, mkC, cels]
theorem markedC_all (xs : List Value) (k n : Nat) (h : xs.length = n * 2) : markedC xs k n = cels (mkC k n) := by
  unfold markedC
  rw [List.drop_eq_nil_of_le (by omega), List.append_nil]
theorem markedC_set (xs : List Value) (k j n : Nat) (h : xs.length = n * 2) (hj : j < n) :
    ((markedC xs k j).set (j * 2) (.int .i64 ((k + j * 2 : Nat) : Int))).set (j * 2 + 1) (.int .i64 ((k + j * 2 + 1 : Nat) : Int)) = markedC xs k (j + 1) := by
  unfold markedC
  rw [List.drop_eq_getElem_cons (by omega), List.drop_eq_getElem_cons (by omega)]
  rw [set2 _ _ _ _ _ _ _ (by rw [cels_length, mkC_length]), mkC_succ, cels_append]
  simp only [cels, List.append_assoc, List.cons_append, List.nil_append]
  rw [show (j + 1) * 2 = j * 2 + 1 + 1 by omega]
end Go.Proofs.YtnnfkmjhaljplaaGreatDoor
namespace Go.Proofs.YtnnfkmjhaljplaaGreatDoor
open Go.RowKit
theorem cells_of_rc {w : World} {B : Nat} {ad : Addr} {l : List Cel} (h : RdC w B (some ad) l) : ∀ j u, (cels l)[j]? = some u → w.cell? (ad.add j) = some u := by
  intro j u hj
  have hjl : j < (cels l).length := by
    rcases Nat.lt_or_ge j (cels l).length with a | a
    · exact a
    · rw [List.getElem?_eq_none a] at hj; exact absurd hj (by simp)
  obtain ⟨b, off, e, _, hc⟩ := h (by omega)
  cases e
  rw [Go.WideShapes.add_plain, hc j hjl]
  rw [List.getElem?_eq_getElem hjl] at hj
  exact hj
section
variable {P : Program} (w : World)
theorem run_append_rc (base : Nat) (t ty e : TypeId) (i : TypeInfo) (z : Value) (bytes : Nat) (ht : P.underlying t = some (.slice e)) (hi : P.info? e = some i) (hz : i.zero = some z)
    (hsize : i.size = 2) (hby : i.bytes = bytes) (hzs : z.cells.size = 2)
    (v : Value) (n : Nat) (xs : List Value) (hown : w.ownsRow base e 2 v n xs) (A : Option Addr) (l : List Cel) (c B : Nat) (hR : RdC w B A l)
    (h63 : n + l.length ≤ maxLen) (hbytes : (n + l.length) * bytes ≤ 140737488355328) (hbase : base ≤ w.heap.size) :
    ∃ v' w', (Builtin.append_ #[t, t] ty #[v, .slice A l.length c]).run P w = .ok v' w' ∧ w'.ownsRow base e 2 v' (n + l.length) (xs ++ cels l) ∧ w.grownBy w' v.ownBlock ∧ (v'.ownBlock = v.ownBlock ∨ v'.ownBlock = some w.heap.size) := by
  rcases A with _ | ad
  · have hl : l = [] := by
      rcases l with _ | ⟨x, l⟩
      · rfl
      · obtain ⟨b, off, e, _⟩ := hR.get (i := 0) (by simp)
        cases e
    subst hl
    refine ⟨v, w, ?_, by simpa [cels] using hown, World.grownBy.refl w _, .inl rfl⟩
    rcases hown.2 with ⟨rfl, rfl⟩ | ⟨g, cap, cur, rfl, _, _, hnc, _⟩
    · simp [Builtin.append_, run_underlying ht, sizeOf, typeInfo, hi, Builtin.lenOf, Builtin.firstCells]
    · simp [Builtin.append_, run_underlying ht, sizeOf, typeInfo, hi, Builtin.lenOf, Builtin.firstCells, hnc, storeCells]
  · obtain ⟨v', w', hr, h2, h3, _, h5⟩ := run_append_own_at (P := P) w base t ty e i z 2 bytes ht hi hz hsize hby hzs (by omega) v n xs hown ad l.length c (cels l) (cels_length l) (cells_of_rc hR) (cels_one l) h63 hbytes hbase
    exact ⟨v', w', hr, h2, h3, h5⟩
theorem wp_append_rc {o : Oper} {a : Act} {K : Act → World → Prop} {Q : Exit → Act → World → Prop} (s x : Operand) (t : TypeId)
    (ho : o.op = .call { callee := .builtin .append, args := #[s, x], argTypes := #[t, t] })
    (base : Nat) (e : TypeId) (i : TypeInfo) (z : Value) (bytes : Nat) (ht : P.underlying t = some (.slice e)) (hi : P.info? e = some i) (hz : i.zero = some z)
    (hsize : i.size = 2) (hby : i.bytes = bytes) (hzs : z.cells.size = 2)
    (v : Value) (n : Nat) (xs : List Value) (hs : a.eval s = v) (hown : w.ownsRow base e 2 v n xs) (A : Option Addr) (l : List Cel) (c B : Nat) (hx : a.eval x = .slice A l.length c) (hR : RdC w B A l)
    (h63 : n + l.length ≤ maxLen) (hbytes : (n + l.length) * bytes ≤ 140737488355328) (hbase : base ≤ w.heap.size)
    (h : ∀ v' w', w'.ownsRow base e 2 v' (n + l.length) (xs ++ cels l) → w.grownBy w' v.ownBlock → (v'.ownBlock = v.ownBlock ∨ v'.ownBlock = some w.heap.size) → K (a.put o.dst v') w') : o.wp P a w K Q := by
  obtain ⟨v', w', hr, h2, h3, h5⟩ := run_append_rc (P := P) w base t o.type e i z bytes ht hi hz hsize hby hzs v n xs hown A l c B hR h63 hbytes hbase
  unfold Oper.wp execOp
  simp only [ho, resolve, invoke, builtin, Sem.run_bind, Sem.run_pure, Result.andThen_ok, List.map_toArray, List.map_cons, List.map_nil, hs, hx, hr]
  exact h v' w' h2 h3 h5
/-- The same at a guarded operation of a region that draws its order. -/
theorem step_append_rc {ops : Array Oper} {o : Oper} {a : Act} {K : Act → World → Prop} {Q : Exit → Act → World → Prop} {E : Prop} (hw : Region.wanted o (yielded ops a.tmps) = true) (s x : Operand) (t : TypeId)
    (ho : o.op = .call { callee := .builtin .append, args := #[s, x], argTypes := #[t, t] })
    (base : Nat) (e : TypeId) (i : TypeInfo) (z : Value) (bytes : Nat) (ht : P.underlying t = some (.slice e)) (hi : P.info? e = some i) (hz : i.zero = some z)
    (hsize : i.size = 2) (hby : i.bytes = bytes) (hzs : z.cells.size = 2)
    (v : Value) (n : Nat) (xs : List Value) (hs : a.eval s = v) (hown : w.ownsRow base e 2 v n xs) (A : Option Addr) (l : List Cel) (c B : Nat) (hx : a.eval x = .slice A l.length c) (hR : RdC w B A l)
    (h63 : n + l.length ≤ maxLen) (hbytes : (n + l.length) * bytes ≤ 140737488355328) (hbase : base ≤ w.heap.size)
    (h : ∀ v' w', w'.ownsRow base e 2 v' (n + l.length) (xs ++ cels l) → w.grownBy w' v.ownBlock → (v'.ownBlock = v.ownBlock ∨ v'.ownBlock = some w.heap.size) → K (a.put o.dst v') w') :
    if Region.wanted o (yielded ops a.tmps) = true then Oper.wp P o a w K Q else E := by
  rw [if_pos hw]
  exact wp_append_rc w s x t ho base e i z bytes ht hi hz hsize hby hzs v n xs hs hown A l c B hx hR h63 hbytes hbase h
end
end Go.Proofs.YtnnfkmjhaljplaaGreatDoor
namespace Go.Proofs.YtnnfkmjhaljplaaGreatDoor
open Go.RowKit
theorem setRow_bk {w : World} {g : Nat} {cur : Array Value} {t : TypeId} (h : Bk w g cur t) (cs : Array Value) : Bk (w.setRow g cs) g cs t := setRow_heap w g cur cs t (0, 0) h
theorem setRow_grown (w : World) (g : Nat) (cs : Array Value) : w.grownBy (w.setRow g cs) (some g) :=
  ⟨rfl, rfl, rfl, by simp [World.setRow], fun k hk hne => by
    have hkg : ¬ g = k := fun e => hne (by rw [e])
    unfold World.setRow
    simp only
    rw [Array.getElem?_modify, if_neg hkg]⟩
section
variable {P : Program} (w : World)
theorem run_copy_row2 (dT sT ty elem : TypeId) (i : TypeInfo) (g o dLen dCap : Nat) (a : Addr) (sLen sCap : Nat) (cur : Array Value) (t : TypeId) (cs : List Value) (k : Nat)
    (hu : P.underlying dT = some (.slice elem)) (hi : P.info? elem = some i) (hsz : i.size = 2)
    (hg : Bk w g cur t) (hk : k = Nat.min sLen dLen) (hn : cs.length = k * 2)
    (hsrc : ∀ j v, cs[j]? = some v → w.cell? (a.add j) = some v) (hfit : o + cs.length ≤ cur.size) (h1 : ∀ v ∈ cs, v.oneCell' = true) :
    (Builtin.copy_ #[dT, sT] ty #[.slice (some ⟨g, o, none⟩) dLen dCap, .slice (some a) sLen sCap]).run P w =
      .ok (goInt k) (w.setRow g (cur.toList.take o ++ cs ++ cur.toList.drop (o + cs.length)).toArray) := by
  have hl := run_loadCells_list (P := P) w a cs hsrc
  have hst := run_storeCells_at P g o t cs 0 cur w hg (by simpa using hfit) h1
  simp only [Nat.add_zero] at hst
  rw [hn] at hl
  simp [Builtin.copy_, run_underlying hu, Builtin.lenOf, Builtin.firstCells, sizeOf, typeInfo, hi, hsz, ← hk, hl, hst]
theorem wpList_copy_run2 {ops : Array Oper} {rest : List Oper} {o : Oper} {a : Act} {Q : Exit → Act → World → Prop} (hgd : o.guard = none) (d s : Operand) (t t' : TypeId)
    (ho : o.op = .call { callee := .builtin .copy, args := #[d, s], argTypes := #[t, t'] }) (v u : Value) (hd : a.eval d = v) (hs : a.eval s = u) {v' : Value} {w' : World}
    (hr : (Builtin.copy_ #[t, t'] o.type #[v, u]).run P w = .ok v' w') (h : wpList P ops Q rest (a.put o.dst v') w') : wpList P ops Q (o :: rest) a w := by
  refine wpList_plain hgd fun K hK => ?_
  unfold Oper.wp execOp
  simp only [ho, resolve, invoke, builtin, Sem.run_bind, Sem.run_pure, Result.andThen_ok, List.map_toArray, List.map_cons, List.map_nil, hd, hs, hr]
  exact hK _ _ h
end
/-- A row of the call's own, opened. -/
theorem own_open {w : World} {base : Nat} {e : TypeId} {size n : Nat} {v : Value} {xs : List Value} (h : w.ownsRow base e size v n xs) (hn : 0 < n) : ∃ g cap cur, v = .slice (some ⟨g, 0, none⟩) n cap ∧ base ≤ g ∧ Bk w g cur e ∧ n ≤ cap ∧ cap ≤ maxLen ∧ cur.size = cap * size ∧ cur.toList.take (n * size) = xs := by
  rcases h.2 with ⟨_, h0⟩ | h'
  · omega
  · exact h'
theorem own_mk {w : World} {base g n cap size : Nat} {e : TypeId} {cur : Array Value} (hb : base ≤ g) (hg : Bk w g cur e) (hn : n ≤ cap) (hc : cap ≤ maxLen) (hs : cur.size = cap * size) {xs : List Value} (hx : cur.toList.take (n * size) = xs) : w.ownsRow base e size (.slice (some ⟨g, 0, none⟩) n cap) n xs :=
  ⟨by rw [← hx, List.length_take, Array.length_toList, hs]; exact Nat.min_eq_left (Nat.mul_le_mul_right _ hn), .inr ⟨g, cap, cur, rfl, hb, hg, hn, hc, hs, hx⟩⟩
theorem cells_row {w : World} {g : Nat} {cur : Array Value} {e : TypeId} (hg : Bk w g cur e) (o : Nat) (l : List Value) (hl : ∀ j (hj : j < l.length), cur.toList[o + j]? = some l[j]) : ∀ j v, l[j]? = some v → w.cell? ((⟨g, o, none⟩ : Addr).add j) = some v := by
  intro j v hj
  have hjl : j < l.length := by
    rcases Nat.lt_or_ge j l.length with h | h
    · exact h
    · rw [List.getElem?_eq_none h] at hj; cases hj
  rw [Go.WideShapes.add_plain, hg.cell (o + j)]
  have := hl j hjl
  rw [List.getElem?_eq_getElem hjl] at hj
  cases hj
  rw [← this]
  simp
end Go.Proofs.YtnnfkmjhaljplaaGreatDoor
