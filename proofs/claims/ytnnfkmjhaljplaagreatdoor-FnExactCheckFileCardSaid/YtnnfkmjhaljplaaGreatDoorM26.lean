/- What the laws' walks rest upon, part 26. -/
import Derived.Test.YtnnfkmjhaljplaaGreatDoorM16
import Derived.OwnWalkIn
import Derived.TacticsInMore
import Derived.Maps.AppendAt
import Derived.Maps.Range
import Derived.OwnWalk
import Derived.RegionTactic
import Derived.RangeFuncNested
import Derived.RangeFuncBound
import Derived.RangeFuncCalls
import Derived.RangeFuncLeaves
import Derived.Shelf.Abstract
import Derived.Shelf.RegionOpen
import Derived.WalkKit
import Derived.Test.YtnnfkmjhaljplaaGreatDoorM01
namespace Go.Proofs.YtnnfkmjhaljplaaGreatDoor
open Go.RowKit
theorem cells_of_rp {w : World} {B : Nat} {ad : Addr} {l : List Stp} (h : RdP w B (some ad) l) : ∀ j u, (stps l)[j]? = some u → w.cell? (ad.add j) = some u := by
  intro j u hj
  have hjl : j < (stps l).length := by
    rcases Nat.lt_or_ge j (stps l).length with a | a
    · exact a
    · rw [List.getElem?_eq_none a] at hj; exact absurd hj (by simp)
  obtain ⟨b, off, e, _, hc⟩ := h (by omega)
  cases e
  rw [Go.WideShapes.add_plain, hc j hjl]
  rw [List.getElem?_eq_getElem hjl] at hj
  exact hj
section
variable {P : Program} (w : World)
theorem run_append_rp (base : Nat) (t ty e : TypeId) (i : TypeInfo) (z : Value) (bytes : Nat) (ht : P.underlying t = some (.slice e)) (hi : P.info? e = some i) (hz : i.zero = some z)
    (hsize : i.size = 4) (hby : i.bytes = bytes) (hzs : z.cells.size = 4)
    (v : Value) (n : Nat) (xs : List Value) (hown : w.ownsRow base e 4 v n xs) (A : Option Addr) (l : List Stp) (c B : Nat) (hR : RdP w B A l)
    (h63 : n + l.length ≤ maxLen) (hbytes : (n + l.length) * bytes ≤ 140737488355328) (hbase : base ≤ w.heap.size) :
    ∃ v' w', (Builtin.append_ #[t, t] ty #[v, .slice A l.length c]).run P w = .ok v' w' ∧ w'.ownsRow base e 4 v' (n + l.length) (xs ++ stps l) ∧ w.grownBy w' v.ownBlock ∧ (v'.ownBlock = v.ownBlock ∨ v'.ownBlock = some w.heap.size) := by
  rcases A with _ | ad
  · have hl : l = [] := by
      rcases l with _ | ⟨x, l⟩
      · rfl
      · obtain ⟨b, off, e, _⟩ := hR.get (i := 0) (by simp)
        cases e
    subst hl
    refine ⟨v, w, ?_, by simpa [stps] using hown, World.grownBy.refl w _, .inl rfl⟩
    rcases hown.2 with ⟨rfl, rfl⟩ | ⟨g, cap, cur, rfl, _, _, hnc, _⟩
    · simp [Builtin.append_, run_underlying ht, sizeOf, typeInfo, hi, Builtin.lenOf, Builtin.firstCells]
    · simp [Builtin.append_, run_underlying ht, sizeOf, typeInfo, hi, Builtin.lenOf, Builtin.firstCells, hnc, storeCells]
  · obtain ⟨v', w', hr, h2, h3, _, h5⟩ := run_append_own_at (P := P) w base t ty e i z 4 bytes ht hi hz hsize hby hzs (by omega) v n xs hown ad l.length c (stps l) (stps_length l) (cells_of_rp hR) (stps_one l) h63 hbytes hbase
    exact ⟨v', w', hr, h2, h3, h5⟩
theorem wpListIn_append_rp {F : Fence} {N : Nat} {ops : Array Oper} {rest : List Oper} {o : Oper} {a : Act} {Q : Exit → Act → World → Prop} (hgd : o.guard = none) (s x : Operand) (t : TypeId)
    (ho : o.op = .call { callee := .builtin .append, args := #[s, x], argTypes := #[t, t] })
    (base : Nat) (e : TypeId) (i : TypeInfo) (z : Value) (bytes : Nat) (ht : P.underlying t = some (.slice e)) (hi : P.info? e = some i) (hz : i.zero = some z)
    (hsize : i.size = 4) (hby : i.bytes = bytes) (hzs : z.cells.size = 4)
    (v : Value) (n : Nat) (xs : List Value) (hs : a.eval s = v) (hown : w.ownsRow base e 4 v n xs) (A : Option Addr) (l : List Stp) (c B : Nat) (hx : a.eval x = .slice A l.length c) (hR : RdP w B A l)
    (h63 : n + l.length ≤ maxLen) (hbytes : (n + l.length) * bytes ≤ 140737488355328) (hbase : base ≤ w.heap.size)
    (h : ∀ v' w', w'.ownsRow base e 4 v' (n + l.length) (xs ++ stps l) → w.grownBy w' v.ownBlock → (v'.ownBlock = v.ownBlock ∨ v'.ownBlock = some w.heap.size) → wpListIn F N P ops Q rest (a.put o.dst v') w') : wpListIn F N P ops Q (o :: rest) a w := by
  refine wpListIn_plain hgd fun K' hK' => ?_
  obtain ⟨v', w', hrun, h2, h3, h5⟩ := run_append_rp (P := P) w base t o.type e i z bytes ht hi hz hsize hby hzs v n xs hown A l c B hR h63 hbytes hbase
  unfold Oper.wpIn
  refine ⟨?_, ?_⟩
  · simp [Oper.about, ho, resolve, Target.leads, Sem.run_pure]
  · rw [Oper.semAt_plain F _ _ (by rw [ho]; intro c hc'; cases hc')]
    simp [execOp, ho, resolve, invoke, builtin, hs, hx, hrun, Result.andThen]
    exact hK' _ _ (h v' w' h2 h3 h5)
end
theorem RdP.one_new (w : World) (s : Stp) (T : TypeId) : RdP (w.alloc (.cells #[.int .i64 s.c, .int .i64 s.e.k, .int .i64 s.e.a, .int .i64 s.e.v] T)) (w.heap.size + 1) (some ⟨w.heap.size, 0, none⟩) [s] := fun _ =>
  ⟨w.heap.size, 0, rfl, Nat.lt_succ_self _, fun i hi => by
    rw [Nat.zero_add, (Bk.new w #[.int .i64 s.c, .int .i64 s.e.k, .int .i64 s.e.a, .int .i64 s.e.v] T).cell i]
    simp only [List.getElem?_toArray]
    exact List.getElem?_eq_getElem hi⟩
end Go.Proofs.YtnnfkmjhaljplaaGreatDoor
namespace Go.Proofs.YtnnfkmjhaljplaaGreatDoor
open Go.RowKit Go.Shelf
/-- The marks that ranges over functions have left, each from block B on. -/
def mark (D : Nat) : Deferred := { target := .collected D, args := #[] }
structure Mks (B : Nat) (Ds : List Nat) (w : World) : Prop where
  one : Ds.Nodup
  lie : ∀ D ∈ Ds, B ≤ D ∧ w.heap[D]? = some (.deferred (some []))
theorem Mks.lt {B : Nat} {Ds : List Nat} {w : World} (h : Mks B Ds w) : ∀ D ∈ Ds, D < w.heap.size := fun D hD => (Array.getElem?_eq_some_iff.1 (h.lie D hD).2).1
theorem Mks.kept {B : Nat} {Ds : List Nat} {w w' : World} (h : Mks B Ds w) (hb : Below w.heap.size w w') : Mks B Ds w' := ⟨h.one, fun D hD => ⟨(h.lie D hD).1, (hb.block D (h.lt D hD)).trans (h.lie D hD).2⟩⟩
theorem Mks.others {B : Nat} {Ds : List Nat} {w w' : World} (h : Mks B Ds w) (hb : KeepsOthers w w') : Mks B Ds w' := ⟨h.one, fun D hD => ⟨(h.lie D hD).1, hb.same D _ (h.lie D hD).2 rfl⟩⟩
/-- A body that is left by a return alone. -/
def retOnly (Q : Exit → Act → World → Prop) : Exit → Act → World → Prop
  | .ret, a, w => Q .ret a w
  | .normal, a, w => Q .normal a w
  | _, _, _ => False
theorem retOnly_up {Q : Exit → Act → World → Prop} : ∀ e a w, retOnly Q e a w → Q e a w
  | .ret, _, _, h => h
  | .normal, _, _, h => h
  | .exit _, _, _, h => h.elim
  | .goto _, _, _, h => h.elim
  | .panic _, _, _, h => h.elim
  | .outgrown, _, _, h => h.elim
/-- At the function's return the marks are taken, one behind the other. -/
theorem leaves_marks {F : Fence} {n : Nat} {P : Program} {fn : Func} {tmps : Array Value} {R : Ending → World → Prop} {B : Nat} {Φ : World → Prop} (hΦ : OwnFrom B (fun (_ : Unit) w => Φ w))
    (hend : ∀ w, Φ w → LeavesIn F n P fn tmps R [] .returning w) : ∀ (Ds : List Nat) (w : World), Mks B Ds w → Φ w → LeavesInM F n P fn tmps R (Ds.map mark) .returning w
  | [], w, _, h => hend w h
  | D :: Ds, w, hm, h => by
    obtain ⟨hB, hD⟩ := hm.lie D (List.mem_cons_self ..)
    refine ⟨by simp, .inl ⟨D, _, rfl, run_takeDeferred hD, ?_⟩⟩
    refine leaves_marks hΦ hend Ds _ ⟨(List.nodup_cons.1 hm.one).2, fun E hE => ?_⟩ (hΦ.putObj (s := ()) _ h hB hD rfl)
    have hne : E ≠ D := fun e => (List.nodup_cons.1 hm.one).1 (e ▸ hE)
    exact ⟨(hm.lie E (List.mem_cons_of_mem _ hE)).1, (World.putObj_heap_other hne).trans (hm.lie E (List.mem_cons_of_mem _ hE)).2⟩
end Go.Proofs.YtnnfkmjhaljplaaGreatDoor
