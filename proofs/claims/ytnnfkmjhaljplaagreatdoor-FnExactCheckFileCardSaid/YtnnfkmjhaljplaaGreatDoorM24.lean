/- What the laws' walks rest upon, part 24. -/
import Derived.Test.YtnnfkmjhaljplaaGreatDoorM02
import Derived.Test.YtnnfkmjhaljplaaGreatDoorM16
import Derived.StillTailTactics
import Derived.Test.YtnnfkmjhaljplaaGreatDoorM04
import Derived.Test.YtnnfkmjhaljplaaGreatDoorM06
import Derived.OneCell
import Derived.Maps.OwnSet
import Derived.Maps.OwnOps
import Derived.Carry
namespace Go.Proofs.YtnnfkmjhaljplaaGreatDoor
open Go.RowKit
theorem info_step : (Tryz.prog.info? 121).map (fun i => (i.zero, i.size, i.bytes)) = some (some (.agg #[.int .i64 0, .int .i64 0, .int .i64 0, .int .i64 0]), 4, 32) := by kernel_rfl
end Go.Proofs.YtnnfkmjhaljplaaGreatDoor
namespace Go.Proofs.YtnnfkmjhaljplaaGreatDoor
open Go.RowKit
theorem info_i64 : (Tryz.prog.info? 2).map (fun i => (i.zero, i.size, i.bytes)) = some (some (.int .i64 0), 1, 8) := by kernel_rfl
set_option maxHeartbeats 400000 in
theorem eqInt64S_same (l : List Int) (A A' : Option Addr) (c c' : Nat) (w : World) (hm : l.length ≤ maxLen) (h : Rd .i64 w w.heap.size A l) (h' : Rd .i64 w w.heap.size A' l) :
    Calls Tryz.prog 48 #[.slice A l.length c, .slice A' l.length c'] w fun e w' => e = .returned (.bool true) ∧ Below w.heap.size w w' := by
  unfold maxLen at hm
  go_enter Tryz.func48, Tryz.ntmps48
  go_wp2
  go_loopw [5] (fun i wr => ∃ k : Nat, k ≤ l.length ∧ i = .int .i64 k ∧ Below w.heap.size w wr) (fun i _ => l.length - (intOf i).toNat)
  case atStart => exact ⟨0, Nat.zero_le _, rfl, Below.refl _ _⟩
  case round =>
    obtain ⟨k, hk, rfl, hb⟩ := hrel
    by_cases hlt : k < l.length
    · obtain ⟨b, off, rfl, hbb, hc⟩ := (h.below hb).get hlt
      obtain ⟨b', off', rfl, hbb', hc'⟩ := (h'.below hb).get hlt
      go_wp2
      go_quiet (fail)
      go_wp2
      go_roundw
      case rel => exact ⟨k + 1, by omega, by go_num, below_drewN hb _⟩
      case measure => simp [intOf]; omega
    · go_wp2
      go_ret
      exact ⟨rfl, hb⟩
theorem made_i64 (n : Nat) : (madeCells (Value.int .i64 0).cells (n * 1)).toList = List.replicate n (Value.int .i64 0) := by
  apply List.ext_getElem
  · simp [madeCells]
  · intro i h1 h2
    simp [madeCells, Value.cells, Nat.mod_one]
/-- The marks that are laid from k on. -/
def mkI (k n : Nat) : List Int := (List.range n).map fun i => ((k + i : Nat) : Int)
theorem mkI_length (k n : Nat) : (mkI k n).length = n := by simp [mkI]
theorem mkI_get (k n i : Nat) (h : i < (mkI k n).length) : (mkI k n)[i] = ((k + i : Nat) : Int) := by simp [mkI]
/-- After j rounds of marking. -/
def markedI (xs : List Value) (k j : Nat) : List Value := (mkI k j).map (Value.int .i64) ++ xs.drop j
theorem markedI_zero (xs : List Value) (k : Nat) : markedI xs k 0 = xs := by simp [markedI, mkI]
theorem markedI_all (xs : List Value) (k : Nat) : markedI xs k xs.length = (mkI k xs.length).map (Value.int .i64) := by simp [markedI]
theorem markedI_set (xs : List Value) (k j : Nat) (h : j < xs.length) : (markedI xs k j).set j (.int .i64 ((k + j : Nat) : Int)) = markedI xs k (j + 1) := by
  unfold markedI
  rw [List.drop_eq_getElem_cons h]
  have e : j = ((mkI k j).map (Value.int IntKind.i64)).length := by simp [mkI]
  conv => lhs; arg 2; rw [e]
  rw [set_append]
  simp [mkI, List.range_succ]
set_option maxHeartbeats 400000 in
theorem markInt64S_any (base : Nat) (A : Option Addr) (n c k : Nat) (xs : List Value) (w : World) (hk : k + n ≤ 1073741824) (h : w.ownsRow base 2 1 (.slice A n c) n xs) :
    Calls Tryz.prog 50 #[.slice A n c, .int .i64 k] w fun e w' => e = .returned (.int .i64 ((k + n : Nat) : Int)) ∧ w'.ownsRow base 2 1 (.slice A n c) n ((mkI k n).map (Value.int .i64)) ∧ w.grownBy w' (Value.slice A n c).ownBlock := by
  have hl : xs.length = n := by simpa using h.1
  go_enter Tryz.func50, Tryz.ntmps50
  go_wp2
  go_loopw [1, 5] (fun q i wr => ∃ j : Nat, j ≤ n ∧ i = .int .i64 j ∧ q = .int .i64 ((k + j : Nat) : Int) ∧ wr.ownsRow base 2 1 (.slice A n c) n (markedI xs k j) ∧ w.grownBy wr (Value.slice A n c).ownBlock) (fun _ i _ => n - (intOf i).toNat)
  case atStart => exact ⟨0, Nat.zero_le _, rfl, rfl, by rw [markedI_zero]; exact h, ⟨rfl, rfl, rfl, Nat.le_refl _, fun _ _ _ => rfl⟩⟩
  case round =>
    obtain ⟨j, hj, rfl, rfl, ho, hg⟩ := hrel
    by_cases hlt : j < n
    · obtain ⟨g, rfl⟩ : ∃ g, A = some ⟨g, 0, none⟩ := by
        rcases ho.2 with ⟨h', h''⟩ | ⟨g, cap, cur, h', _⟩
        · omega
        · simp only [Value.slice.injEq, true_and] at h'
          exact ⟨g, h'.1⟩
      have hf := ho.frozenAt j
      obtain ⟨v, hx⟩ : ∃ v, wr.cell? ⟨g, j, none⟩ = some v := by
        rw [ho.cellAt j (by omega)]
        exact ⟨_, List.getElem?_eq_getElem (by rw [ho.1]; omega)⟩
      have HS := hide (ho.stored j (.int .i64 ((k + j : Nat) : Int)))
      go_wp2
      go_roundw
      case rel =>
        refine ⟨j + 1, by omega, by go_num, by go_num, ?_, ?_⟩
        · rw [← markedI_set xs k j (by omega)]
          exact HS.out.1
        · exact hg.trans HS.out.2
      case measure => simp [intOf]; omega
    · go_wp2
      go_ret
      obtain rfl : j = n := by omega
      refine ⟨rfl, ?_, hg⟩
      have := markedI_all xs k
      rw [hl] at this
      rw [← this]
      exact ho
set_option maxHeartbeats 400000 in
theorem heldInt64S_marked (B : Nat) (A : Option Addr) (n c k : Nat) (w : World) (hk : k + n ≤ 1073741824) (h : Rd .i64 w B A (mkI k n)) :
    Calls Tryz.prog 116 #[.slice A n c, .int .i64 k] w fun e w' => e = .returned (.int .i64 ((k + n : Nat) : Int)) ∧ w = w' := by
  go_enter Tryz.func116, Tryz.ntmps116
  go_wp2
  go_loop [1, 5] (fun q i => ∃ j : Nat, j ≤ n ∧ i = .int .i64 j ∧ q = .int .i64 ((k + j : Nat) : Int)) (fun _ i => n - (intOf i).toNat)
  case atStart => exact ⟨0, Nat.zero_le _, rfl, rfl⟩
  case round =>
    obtain ⟨j, hj, rfl, rfl⟩ := hrel
    by_cases hlt : j < n
    · obtain ⟨b, off, rfl, _, hc⟩ := h.get (i := j) (by rw [mkI_length]; exact hlt)
      rw [mkI_get] at hc
      go_wp2
      go_round
      case rel => exact ⟨j + 1, by omega, by go_num, by go_num⟩
      case measure => simp [intOf]; omega
    · go_wp2
      go_ret
      obtain rfl : j = n := by omega
      exact ⟨rfl, rfl⟩
end Go.Proofs.YtnnfkmjhaljplaaGreatDoor
namespace Go.Proofs.YtnnfkmjhaljplaaGreatDoor
open Go.RowKit
end Go.Proofs.YtnnfkmjhaljplaaGreatDoor
namespace Go.Proofs.YtnnfkmjhaljplaaGreatDoor
open Go.RowKit
end Go.Proofs.YtnnfkmjhaljplaaGreatDoor
namespace Go.Proofs.YtnnfkmjhaljplaaGreatDoor
open Go.RowKit
end Go.Proofs.YtnnfkmjhaljplaaGreatDoor
namespace Go.Proofs.YtnnfkmjhaljplaaGreatDoor
open Go.RowKit
/-- Numbers in a row of the call's own, from block base on; all that was there in W is as it was. -/
structure OwnI (W : World) (base : Nat) (xs : List Int) (v : Value) (w : World) : Prop where
  row : w.ownsRow base 2 1 v xs.length (xs.map (Value.int .i64))
  old : Below W.heap.size W w
  lo : W.heap.size ≤ base
section
variable {W w w' : World} {base : Nat} {xs : List Int} {v v' : Value} {x : Int}
theorem OwnI.below (h : OwnI W base xs v w) (hb : Below w.heap.size w w') : OwnI W base xs v w' := ⟨own_below h.row hb (Nat.le_refl _), h.old.trans (hb.mono h.old.size), h.lo⟩
theorem OwnI.alloc (h : OwnI W base xs v w) (o : Obj) : OwnI W base xs v (w.alloc o) := h.below ((Below.refl _ _).alloc (Nat.le_refl _) _)
theorem OwnI.drew (h : OwnI W base xs v w) : OwnI W base xs v w.drew := h.below (Below.refl _ _).drew
theorem OwnI.more (h : OwnI W base xs v w) (ho : w'.ownsRow base 2 1 v' (xs.length + [x].length) (xs.map (Value.int .i64) ++ [x].map (Value.int .i64))) (hg : w.grownBy w' v.ownBlock) : OwnI W base (xs ++ [x]) v' w' :=
  ⟨by rw [List.length_append, List.map_append]; exact ho, h.old.trans (grown_below h.row hg h.old.size h.lo), h.lo⟩
end
theorem Rd.one_new (w : World) (x : Int) (T : TypeId) : Rd .i64 (w.alloc (.cells #[.int .i64 x] T)) (w.heap.size + 1) (some ⟨w.heap.size, 0, none⟩) [x] := fun _ =>
  ⟨w.heap.size, 0, rfl, Nat.lt_succ_self _, fun i hi => by
    rw [Nat.zero_add, (Bk.new w #[.int .i64 x] T).cell i]
    simp only [List.map_cons, List.map_nil, List.getElem?_toArray]
    exact List.getElem?_eq_getElem hi⟩
end Go.Proofs.YtnnfkmjhaljplaaGreatDoor
namespace Go.Proofs.YtnnfkmjhaljplaaGreatDoor
open Go.RowKit Go.Maps
/-- The address of an event slice from place k on. -/
def cutM (A : Option Addr) (k c : Nat) : Option Addr := if c = k then A else A.map (·.add (k * 3))
theorem evs_dropM : ∀ (es : List Ev) (n : Nat), evs (es.drop n) = (evs es).drop (n * 3)
  | [], n => by simp [evs]
  | e :: r, 0 => by simp
  | e :: r, n + 1 => by
    rw [List.drop_succ_cons, evs_dropM r n, show (n + 1) * 3 = n * 3 + 1 + 1 + 1 by omega]
    rfl
theorem RdE.cutM {w : World} {B : Nat} {A : Option Addr} {es : List Ev} (h : RdE w B A es) {n c : Nat} (hc : es.length ≤ c) : RdE w B (cutM A n c) (es.drop n) := by
  intro h0
  have h1 : n < es.length := by rw [evs_length, List.length_drop] at h0; omega
  obtain ⟨b, off, rfl, hb, hx⟩ := h (by rw [evs_length]; omega)
  unfold Go.Proofs.YtnnfkmjhaljplaaGreatDoor.cutM
  rw [if_neg (by omega)]
  refine ⟨b, off + n * 3, by simp [Go.WideShapes.add_plain], hb, fun i hi => ?_⟩
  have hi' : n * 3 + i < (evs es).length := by rw [evs_length] at hi ⊢; rw [List.length_drop] at hi; omega
  have := hx (n * 3 + i) hi'
  rw [← Nat.add_assoc] at this
  rw [this]
  have e : (evs (es.drop n))[i]? = (evs es)[n * 3 + i]? := by rw [evs_dropM, List.getElem?_drop]
  rw [List.getElem?_eq_getElem hi, List.getElem?_eq_getElem hi'] at e
  exact e.symm
theorem run_tailM (A : Option Addr) (n k c : Nat) (l : Int) (w : World) (hl : l = k) (hk : k ≤ n) : (Instr.slice 45 (.slice A n c) (some (.int .i64 l)) none none).run Tryz.prog w = .ok (.slice (cutM A k c) (n - k) (c - k)) w := by
  subst hl
  have h2 : (0 : Int) ≤ (k : Int) ∧ (k : Int) ≤ (n : Int) := by omega
  simp [go_sem, h2, cutM]
theorem lawK : Keyed Tryz.prog 2 := int_keyed Tryz.underlying2
theorem zeroEs (w : World) : (zeroValue 45).run Tryz.prog w = .ok (.slice none 0 0) w := by kernel_rfl
/-- An element of a map reads as itself. -/
def rdH : Value → Option (DataW Value × List MemPlace) := fun v => some (.held v, [])
abbrev zH : DataW Value := .held (.slice none 0 0)
section
variable {P : Program} (w : World) {ops : Array Oper} {rest : List Oper} {o : Oper} {a : Act} {Q : Exit → Act → World → Prop}
theorem wpList_lookup_held (hg : o.guard = none) (m x : Operand) (t : TypeId) (hop : o.op = Op.lookup t m x true)
    (k e : TypeId) (K : Keyed P k) (ht : P.underlying t = some (.map k e)) {z : Value} (hz : (zeroValue e).run P w = .ok z w) (b n : Nat) (D : DataW Value)
    (hm : a.eval m = .map (some b)) (hown : w.ownsMap P k rdH b n D) (key : Value) (kl : Lit) (hx : a.eval x = key) (hkey : keyOf P k key = some kl) (v : Value) (hat : D.atKey kl (.held z) = .held v) (ok : Bool) (hok : Maps.has D kl = ok)
    (hK : wpList P ops Q rest (a.put o.dst (.tuple #[v, .bool ok])) w) :
    wpList P ops Q (o :: rest) a w := by
  subst hok
  refine wpList_lookup_own_ok w hg m x t hop k e K ht rdH hz (.held z) [] rfl b n D hm hown key kl hx hkey (fun v' ps hv => ?_)
  have : v' = v := by
    simp only [rdH, Option.some.injEq, Prod.mk.injEq] at hv
    rw [hat] at hv
    have := hv.1
    injection this
  rw [this]
  exact hK
end
/-- What is left of the cores of t behind the order O lies in the map in block M; the events lie below B. -/
def LeftM (w : World) (B M n : Nat) (t : List (List Ev)) (O : List Int) : Prop :=
  ∃ D : DataW Value, w.ownsMap Tryz.prog 2 rdH M n D ∧ ∀ p : Int, I64 p →
    (Maps.has D (.int .i64 p) = decide (cntO O p < lenT t p)) ∧
    (cntO O p < lenT t p → ∃ a d, D.atKey (.int .i64 p) zH = .held (.slice a (lenT t p - cntO O p) d) ∧ lenT t p - cntO O p ≤ d ∧ d ≤ maxLen ∧ RdE w B a ((t.getD p.toNat []).drop (cntO O p)))
section
variable {w w' : World} {B M n : Nat} {t : List (List Ev)} {O : List Int}
theorem LeftM.other {row : Option Nat} (h : LeftM w B M n t O) (hg : w.grownBy w' row) (hne : some M ≠ row) (hb : Below B w w') : LeftM w' B M n t O := by
  obtain ⟨D, h1, h2⟩ := h
  refine ⟨D, h1.kept hg hne, fun p hp => ⟨(h2 p hp).1, fun hc => ?_⟩⟩
  obtain ⟨a, d, e1, e2, e3, e4⟩ := (h2 p hp).2 hc
  exact ⟨a, d, e1, e2, e3, e4.below hb⟩
theorem LeftM.lt (h : LeftM w B M n t O) : M < w.heap.size := by obtain ⟨D, h1, _⟩ := h; exact h1.lt
theorem LeftM.below (h : LeftM w B M n t O) (hb : Below w.heap.size w w') (hB : B ≤ w.heap.size) : LeftM w' B M n t O :=
  h.other (row := none) ⟨hb.os, hb.tape, hb.output, hb.size, fun k hk _ => hb.block k hk⟩ (by simp) (hb.mono hB)
theorem LeftM.isMap (h : LeftM w B M n t O) : ∃ es clock, w.heap[M]? = some (.map es clock) := by obtain ⟨D, ⟨es, clock, hb, _⟩, _⟩ := h; exact ⟨es, clock, hb⟩
end
theorem keyI (p : Int) : Go.WideAt.IsKeyLit (.int .i64 p) := trivial
theorem lit_ne {p q : Int} (h : p ≠ q) : (Lit.int .i64 p) ≠ .int .i64 q := fun e => h (by injection e)
/-- A core put in. -/
theorem put_math {D : DataW Value} {t : List (List Ev)} {k : Nat} (hk : k < t.length) (hD : IsMap D) {w : World} {B : Nat} {a : Option Addr} {d : Nat} (h0 : 0 < t[k].length) (hd : t[k].length ≤ d) (hm : d ≤ maxLen) (hr : RdE w B a t[k])
    (h : ∀ p : Int, I64 p → (Maps.has D (.int .i64 p) = decide (cntO [] p < lenT (t.take k) p)) ∧ (cntO [] p < lenT (t.take k) p → ∃ a d, D.atKey (.int .i64 p) zH = .held (.slice a (lenT (t.take k) p - cntO [] p) d) ∧ lenT (t.take k) p - cntO [] p ≤ d ∧ d ≤ maxLen ∧ RdE w B a (((t.take k).getD p.toNat []).drop (cntO [] p)))) :
    ∀ p : Int, I64 p → (Maps.has (D.put (.int .i64 (k : Int)) (.held (.slice a t[k].length d))) (.int .i64 p) = decide (cntO [] p < lenT (t.take (k + 1)) p)) ∧
      (cntO [] p < lenT (t.take (k + 1)) p → ∃ a' d', (D.put (.int .i64 (k : Int)) (.held (.slice a t[k].length d))).atKey (.int .i64 p) zH = .held (.slice a' (lenT (t.take (k + 1)) p - cntO [] p) d') ∧ lenT (t.take (k + 1)) p - cntO [] p ≤ d' ∧ d' ≤ maxLen ∧ RdE w B a' (((t.take (k + 1)).getD p.toNat []).drop (cntO [] p))) := by
  intro p hp
  have hkt : k < (t.take (k + 1)).length := by rw [List.length_take]; omega
  have hgk : (t.take (k + 1))[k] = t[k] := List.getElem_take
  by_cases hpk : p = (k : Int)
  · subst hpk
    rw [has_put_same hD (keyI _), atKey_put_same hD (keyI _), lenT_at _ k hkt, hgk]
    refine ⟨by simp [cntO, h0], fun _ => ⟨a, d, by simp [cntO], by simp only [cntO]; omega, hm, ?_⟩⟩
    have e : (t.take (k + 1)).getD ((k : Int).toNat) [] = t[k] := by rw [Int.toNat_natCast, List.getD_eq_getElem?_getD, List.getElem?_eq_getElem hkt, hgk]; rfl
    rw [e]
    exact hr
  · rw [has_put_other (lit_ne hpk), atKey_put_other (lit_ne hpk)]
    have e1 : (t.take (k + 1)).getD p.toNat [] = (t.take k).getD p.toNat [] ∨ ¬ 0 ≤ p := by
      by_cases hp0 : 0 ≤ p
      · refine .inl ?_
        rw [List.getD_eq_getElem?_getD, List.getD_eq_getElem?_getD]
        congr 1
        by_cases hlt : p.toNat < k
        · rw [List.getElem?_take_of_lt (by omega), List.getElem?_take_of_lt hlt]
        · rw [List.getElem?_eq_none (by rw [List.length_take]; omega), List.getElem?_eq_none (by rw [List.length_take]; omega)]
      · exact .inr hp0
    have e2 : lenT (t.take (k + 1)) p = lenT (t.take k) p := by
      unfold lenT
      rcases e1 with e | e
      · rw [e]
      · rw [if_neg e, if_neg e]
    rw [e2]
    refine ⟨(h p hp).1, fun hc => ?_⟩
    rcases e1 with e | e
    · rw [e]; exact (h p hp).2 hc
    · have := lenT_in (t := t.take k) (p := p) (by omega)
      omega
/-- A core without events. -/
theorem skip_math {t : List (List Ev)} {k : Nat} (hk : k < t.length) (h0 : t[k].length = 0) (p : Int) : lenT (t.take (k + 1)) p = lenT (t.take k) p ∧ (0 < lenT (t.take k) p → (t.take (k + 1)).getD p.toNat [] = (t.take k).getD p.toNat []) := by
  have hkt : k < (t.take (k + 1)).length := by rw [List.length_take]; omega
  have hgk : (t.take (k + 1))[k] = t[k] := List.getElem_take
  by_cases hpk : p = (k : Int)
  · subst hpk
    have e : lenT (t.take k) (k : Int) = 0 := lenT_out _ _ (by rw [List.length_take]; omega)
    rw [lenT_at _ k hkt, hgk, e]
    exact ⟨h0, fun h => by omega⟩
  · by_cases hp0 : 0 ≤ p
    · have e1 : (t.take (k + 1)).getD p.toNat [] = (t.take k).getD p.toNat [] := by
        rw [List.getD_eq_getElem?_getD, List.getD_eq_getElem?_getD]
        congr 1
        by_cases hlt : p.toNat < k
        · rw [List.getElem?_take_of_lt (by omega), List.getElem?_take_of_lt hlt]
        · rw [List.getElem?_eq_none (by rw [List.length_take]; omega), List.getElem?_eq_none (by rw [List.length_take]; omega)]
      exact ⟨by unfold lenT; rw [e1], fun _ => e1⟩
    · refine ⟨by unfold lenT; rw [if_neg hp0, if_neg hp0], fun h => ?_⟩
      have := lenT_in (t := t.take k) (p := p) h
      omega
set_option maxRecDepth 100000 in
set_option maxHeartbeats 800000 in
theorem left_any (t : List (List Ev)) (A : Option Addr) (c : Nat) (w : World) (hm : t.length ≤ 4) (h8 : ∀ l ∈ t, l.length ≤ 8) (h : RdT w w.heap.size A t) :
    Calls Tryz.prog 203 #[.slice A t.length c] w fun e w' => e = .returned (.map (some w.heap.size)) ∧ LeftM w' w.heap.size w.heap.size 4 t [] ∧ Below w.heap.size w w' := by
  have hmm := @run_makeMap Tryz.prog
  have TE : t.take t.length = t := List.take_length
  go_enter Tryz.func203, Tryz.ntmps203
  go_wp2
  go_loopw [9] (fun i wr => ∃ k : Nat, k ≤ t.length ∧ i = .int .i64 k ∧ LeftM wr w.heap.size w.heap.size k (t.take k) [] ∧ Below w.heap.size w wr) (fun i _ => t.length - (intOf i).toNat)
  case atStart =>
    refine ⟨0, Nat.zero_le _, rfl, ⟨.map [], World.ownsMap_made _ _ _ _, fun p _ => ?_⟩, (Below.refl _ _).alloc (Nat.le_refl _) _⟩
    have e : lenT (t.take 0) p = 0 := by
      rw [List.take_zero]
      exact lenT_out [] p (by simp; omega)
    rw [e]
    exact ⟨by simp [Maps.has], fun h => by omega⟩
  case round =>
    obtain ⟨k, hk, rfl, hL, hb⟩ := hrel
    by_cases hlt : k < t.length
    · obtain ⟨b, off, a, d, rfl, hbb, hc0, hle, hcm, hr⟩ := (h.below hb).get hlt
      have hk8 := h8 _ (List.getElem_mem hlt)
      by_cases h0 : 0 < t[k].length
      · obtain ⟨D, hown, hD⟩ := hL
        have HP := hide (put_math hlt hown.isMap h0 hle hcm hr hD)
        have HR := hide (fun (p : Int) w2 (hb : Below w.heap.size wr w2) (a : Option Addr) (es : List Ev) (h : RdE wr w.heap.size a es) => h.below hb)
        obtain ⟨es, hes⟩ : ∃ es, es = t[k] := ⟨_, rfl⟩
        rw [← hes] at hc0 h0 HP hk8
        have hkey : keyOf Tryz.prog 2 (.int .i64 (k : Int)) = some (.int .i64 (k : Int)) := keyOf_int_mk Tryz.underlying2 (WalkArith.wf_i64 (by omega))
        clear hes hD hr hle
        go_wp2_with (first | (at_mapUpdate; refine wpList_mapUpdate_own _ rfl _ _ _ 273 rfl 2 45 lawK Tryz.underlying273 rdH w.heap.size k D rfl hown (by unfold maxLen; omega) _ _ _ rfl rfl hkey (.held (.slice a es.length d)) [] rfl ?_; intro w1 hown1 hgrow1) | go_in)
        have hb1 : Below w.heap.size wr w1 := (Below.refl _ _).grown hgrow1 hb.size (fun k e => by cases e; exact Nat.le_refl _)
        go_roundw
        case rel =>
          refine ⟨k + 1, by omega, by go_num, ⟨_, hown1, fun p hp => ⟨(HP.out p hp).1, fun hc => ?_⟩⟩, hb.trans hb1⟩
          obtain ⟨a', d', e1, e2, e3, e4⟩ := (HP.out p hp).2 hc
          exact ⟨a', d', e1, e2, e3, e4.below hb1⟩
        case measure => simp [intOf]; omega
      · have hz : t[k].length = 0 := by omega
        have HS := hide (skip_math hlt hz)
        rw [hz] at hc0
        clear hr hle hk8 h0
        go_wp2
        go_roundw
        case rel =>
          obtain ⟨D, hown, hD⟩ := hL
          refine ⟨k + 1, by omega, by go_num, ⟨D, hown.mono (Nat.le_succ k), fun p hp => ?_⟩, hb⟩
          obtain ⟨s1, s2⟩ := HS.out p
          rw [s1]
          refine ⟨(hD p hp).1, fun hc => ?_⟩
          rw [s2 (by omega)]
          exact (hD p hp).2 hc
        case measure => simp [intOf]; omega
    · obtain rfl : k = t.length := by omega
      rw [TE] at hL
      go_wp2
      go_ret
      obtain ⟨D, hown, hD⟩ := hL
      exact ⟨rfl, ⟨D, hown.mono hm, hD⟩, hb⟩
/-- A turn taken: the map behind it. -/
theorem take_math {D D' : DataW Value} {t : List (List Ev)} {O : List Int} {p : Int} {w : World} {B : Nat} {a : Option Addr} {d : Nat} (hD : IsMap D) (hlt : cntO O p < lenT t p)
    (hd : lenT t p - cntO O p ≤ d) (hm : d ≤ maxLen) (hr : RdE w B a ((t.getD p.toNat []).drop (cntO O p)))
    (hD' : D' = if lenT t p - cntO O p = 1 then (D.put (.int .i64 p) (.held (.slice (cutM a 1 d) (lenT t p - cntO O p - 1) (d - 1)))).del (.int .i64 p) else D.put (.int .i64 p) (.held (.slice (cutM a 1 d) (lenT t p - cntO O p - 1) (d - 1))))
    (h : ∀ q : Int, I64 q → (Maps.has D (.int .i64 q) = decide (cntO O q < lenT t q)) ∧ (cntO O q < lenT t q → ∃ a d, D.atKey (.int .i64 q) zH = .held (.slice a (lenT t q - cntO O q) d) ∧ lenT t q - cntO O q ≤ d ∧ d ≤ maxLen ∧ RdE w B a ((t.getD q.toNat []).drop (cntO O q)))) :
    ∀ q : Int, I64 q → (Maps.has D' (.int .i64 q) = decide (cntO (O ++ [p]) q < lenT t q)) ∧
      (cntO (O ++ [p]) q < lenT t q → ∃ a d, D'.atKey (.int .i64 q) zH = .held (.slice a (lenT t q - cntO (O ++ [p]) q) d) ∧ lenT t q - cntO (O ++ [p]) q ≤ d ∧ d ≤ maxLen ∧ RdE w B a ((t.getD q.toNat []).drop (cntO (O ++ [p]) q))) := by
  intro q hq
  have hlen : (t.getD p.toNat []).length = lenT t p := by
    have := lenT_in (t := t) (p := p) (by omega)
    unfold lenT
    rw [if_pos this.1]
  by_cases hqp : q = p
  · subst hqp
    rw [cntO_snoc, if_pos rfl]
    by_cases h1 : lenT t q - cntO O q = 1
    · rw [hD', if_pos h1, has_del_same]
      refine ⟨(decide_eq_false (by omega)).symm, fun hc => by omega⟩
    · rw [hD', if_neg h1, has_put_same hD (keyI _), atKey_put_same hD (keyI _)]
      refine ⟨(decide_eq_true (by omega)).symm, fun _ => ⟨cutM a 1 d, d - 1, by rw [Nat.sub_sub], by omega, by omega, ?_⟩⟩
      have := hr.cutM (n := 1) (c := d) (by rw [List.length_drop, hlen]; exact hd)
      rw [List.drop_drop] at this
      exact this
  · rw [cntO_snoc, if_neg (fun e => hqp e.symm), Nat.add_zero]
    have e1 : Maps.has D' (.int .i64 q) = Maps.has D (.int .i64 q) := by
      rw [hD']
      split
      · rw [has_del_other (lit_ne hqp), has_put_other (lit_ne hqp)]
      · rw [has_put_other (lit_ne hqp)]
    have e2 : D'.atKey (.int .i64 q) zH = D.atKey (.int .i64 q) zH := by
      rw [hD']
      split
      · rw [atKey_del_other (lit_ne hqp), atKey_put_other (lit_ne hqp)]
      · rw [atKey_put_other (lit_ne hqp)]
    rw [e1, e2]
    exact h q hq
end Go.Proofs.YtnnfkmjhaljplaaGreatDoor
