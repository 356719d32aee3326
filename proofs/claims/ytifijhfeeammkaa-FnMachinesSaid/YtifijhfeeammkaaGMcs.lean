/- Cells of a memory: what a slice of them reads as; the exact laws' own helpers on slices of cells: measured, copied, compared, marked, held. Contracts of the exact laws' own helpers on machines: measured, copied, compared, marked, held; and on answers with a machine. Contracts of the exact laws' own helpers on answers of a simulation: compared, marked, held. -/
import Derived.Test.YtifijhfeeammkaaGEv
import Derived.Test.YtifijhfeeammkaaGMsi
import Derived.StillTailTactics
import Derived.Lib.Hide
import Derived.Test.YtifijhfeeammkaaGLine
import Derived.Test.YtifijhfeeammkaaGFr
import Derived.Test.YtifijhfeeammkaaGStp
namespace Go.Proofs.Ytifijhfeeammkaa
open Go.RowKit

def cels : List Cel → List Value
  | [] => []
  | s :: r => .int .i64 s.a :: .int .i64 s.v :: cels r
theorem cels_length : ∀ ss : List Cel, (cels ss).length = ss.length * 2
  | [] => rfl
  | s :: r => by simp only [cels, List.length_cons, cels_length r]; omega
theorem cels_append : ∀ (l m : List Cel), cels (l ++ m) = cels l ++ cels m
  | [], _ => rfl
  | s :: r, m => by simp only [cels, List.cons_append, cels_append r m]
theorem cels_get : ∀ (ss : List Cel) (i : Nat) (h : i < ss.length), (cels ss)[i * 2]? = some (.int .i64 ss[i].a) ∧ (cels ss)[i * 2 + 1]? = some (.int .i64 ss[i].v)
  | [], i, h => absurd h (Nat.not_lt_zero _)
  | s :: r, 0, _ => ⟨rfl, rfl⟩
  | s :: r, i + 1, h => by
    have ih := cels_get r i (by simpa using h)
    rw [show (i + 1) * 2 = i * 2 + 1 + 1 by omega]
    simp only [cels, List.getElem?_cons_succ, List.getElem_cons_succ]
    exact ih
theorem cels_one : ∀ (l : List Cel), ∀ u ∈ cels l, u.oneCell' = true
  | [], u, h => by simp [cels] at h
  | x :: r, u, h => by
    simp only [cels, List.mem_cons] at h
    rcases h with rfl | rfl | h
    · rfl
    · rfl
    · exact cels_one r u h
/-- The slice address A leads to the cells ss, in a block below B. -/
def RdC (w : World) (B : Nat) (A : Option Addr) (ss : List Cel) : Prop := RdV w B A (cels ss)
section
variable {w w' : World} {B B' : Nat} {A : Option Addr} {ss : List Cel}
theorem RdC.nil_ : RdC w B A [] := RdV.nil_
theorem RdC.keep (h : RdC w B A ss) (hk : ∀ p : Addr, p.block < B → w'.cell? p = w.cell? p) : RdC w' B A ss := RdV.keep h hk
theorem RdC.more (h : RdC w B A ss) (hB : B ≤ B') : RdC w B' A ss := RdV.more h hB
theorem RdC.below (h : RdC w B A ss) (hb : Below B w w') : RdC w' B A ss := RdV.below h hb
theorem RdC.drew (h : RdC w B A ss) : RdC w.drew B A ss := h
theorem RdC.drewN (h : RdC w B A ss) (n : Nat) : RdC (w.drewN n) B A ss := h
theorem RdC.alloc (h : RdC w B A ss) (hB : B ≤ w.heap.size) (o : Obj) : RdC (w.alloc o) B A ss := RdV.alloc h hB o
theorem RdC.lt (h : RdC w B A ss) : RdC w w.heap.size A ss := RdV.lt h
theorem RdC.of_own {base : Nat} {e : TypeId} {n c : Nat} (h : w.ownsRow base e 2 (.slice A n c) n (cels ss)) : RdC w w.heap.size A ss := RdV.of_own h
theorem RdC.get (h : RdC w B A ss) {i : Nat} (hi : i < ss.length) : ∃ b off, A = some ⟨b, off, none⟩ ∧ b < B ∧ w.cell? ⟨b, off + i * 2, none⟩ = some (.int .i64 ss[i].a) ∧ w.cell? ⟨b, off + i * 2 + 1, none⟩ = some (.int .i64 ss[i].v) := by
  have hl := cels_length ss
  obtain ⟨b, off, e, hb, hc⟩ := h (by omega)
  obtain ⟨g0, g1⟩ := cels_get ss i hi
  have k0 := hc (i * 2) (by omega)
  have k1 := hc (i * 2 + 1) (by omega)
  rw [List.getElem?_eq_getElem (by omega)] at g0 g1
  rw [Option.some.inj g0] at k0
  rw [Option.some.inj g1] at k1
  exact ⟨b, off, e, hb, k0, by rw [Nat.add_assoc]; exact k1⟩
theorem RdC.grown {g : Nat} (h : RdC w g A ss) (hg : w.grownBy w' (some g)) : RdC w' g A ss := RdV.grown h hg
end
theorem RdC.one_new (w : World) (e : Cel) (T : TypeId) : RdC (w.alloc (.cells #[.int .i64 e.a, .int .i64 e.v] T)) (w.heap.size + 1) (some ⟨w.heap.size, 0, none⟩) [e] := fun _ =>
  ⟨w.heap.size, 0, rfl, Nat.lt_succ_self _, fun i hi => by
    rw [Nat.zero_add, (Bk.new w #[.int .i64 e.a, .int .i64 e.v] T).cell i]
    simp only [List.getElem?_toArray]
    exact List.getElem?_eq_getElem hi⟩

/-- A cell as a value. -/
abbrev celV (a v : Int) : Value := .agg #[.int .i64 a, .int .i64 v]
theorem toCell_any (a v : Int) (w : World) :
    Calls Try.prog 133 #[celV a v] w fun e w' => e = .returned (celV a v) ∧ Below w.heap.size w w' := by
  go_enter Try.func133, Try.ntmps133
  go_wp2
  refine bodyPost_ret (v := celV a v) (by simp [results, Try.results133, go_sem]) rfl ?_
  exact ⟨rfl, by go_grown⟩
theorem eqCell_same (a v : Int) (w : World) :
    Calls Try.prog 135 #[celV a v, celV a v] w fun e w' => e = .returned (.bool true) ∧ Below w.heap.size w w' := by
  go_enter Try.func135, Try.ntmps135
  go_wp2
  go_ret
  exact ⟨rfl, by go_grown⟩
theorem info_cell : (Try.prog.info? 120).map (fun i => (i.zero, i.size, i.bytes)) = some (some (.agg #[.int .i64 0, .int .i64 0]), 2, 16) := by kernel_rfl

theorem szCellS_fit (A : Option Addr) (n c m : Nat) (w : World) (hm : n ≤ m) (h : m ≤ 1048576) :
    Calls Try.prog 101 #[.slice A n c, .int .i64 m] w fun e w' => e = .returned (.int .i64 ((m - n : Nat) : Int)) ∧ w = w' := by
  go_enter Try.func101, Try.ntmps101
  go_wp2
  go_ret
  exact ⟨ret_int (by omega), rfl⟩
theorem szCellS_not (A : Option Addr) (n c m : Nat) (w : World) (hm : m < n) (h : m ≤ 1048576) (hn : n ≤ maxLen) :
    Calls Try.prog 101 #[.slice A n c, .int .i64 m] w fun e w' => e = .returned (.int .i64 (-1)) ∧ w = w' := by
  unfold maxLen at hn
  go_enter Try.func101, Try.ntmps101
  go_wp2
  go_ret
  exact ⟨rfl, rfl⟩

def zeroC : Cel := ⟨0, 0⟩
theorem cels_zero : ∀ n : Nat, cels (List.replicate n zeroC) = List.replicate (n * 2) (.int .i64 0)
  | 0 => rfl
  | n + 1 => by
    rw [List.replicate_succ, cels, cels_zero n, show (n + 1) * 2 = n * 2 + 1 + 1 by omega, List.replicate_succ, List.replicate_succ]
    rfl
theorem made_cell (n : Nat) : (madeCells (Value.agg #[.int .i64 0, .int .i64 0]).cells (n * 2)).toList = List.replicate (n * 2) (Value.int .i64 0) := by
  apply List.ext_getElem
  · simp [madeCells]
  · intro i h1 h2
    simp only [madeCells, Value.cells, Array.getElem_toList, List.getElem_replicate]
    rcases (show i % 2 = 0 ∨ i % 2 = 1 by omega) with h | h <;> simp [h]
/-- After k rounds of a copy: the first k are there, the rest as it was made. -/
def halfC (es : List Cel) (k : Nat) : List Value := cels (es.take k ++ List.replicate (es.length - k) zeroC)
theorem halfC_zero (es : List Cel) : halfC es 0 = List.replicate (es.length * 2) (Value.int .i64 0) := by simp [halfC, cels_zero]
theorem halfC_all (es : List Cel) : halfC es es.length = cels es := by simp [halfC]
theorem halfC_length (es : List Cel) (k : Nat) (hk : k ≤ es.length) : (halfC es k).length = es.length * 2 := by
  unfold halfC
  rw [cels_length, List.length_append, List.length_take, List.length_replicate]
  congr 1
  omega
theorem set2 {α : Type} (p s : List α) (a b x y : α) (n : Nat) (h : p.length = n) : ((p ++ a :: b :: s).set n x).set (n + 1) y = p ++ x :: y :: s := by
  subst h
  simp
theorem halfC_set (es : List Cel) (k : Nat) (hk : k < es.length) : ((halfC es k).set (k * 2) (.int .i64 es[k].a)).set (k * 2 + 1) (.int .i64 es[k].v) = halfC es (k + 1) := by
  unfold halfC
  rw [show es.length - k = (es.length - (k + 1)) + 1 by omega, List.replicate_succ, List.take_succ_eq_append_getElem hk, cels_append, cels_append, cels_append]
  simp only [cels]
  rw [set2 _ _ _ _ _ _ _ (by rw [cels_length, List.length_take]; omega)]
  simp

set_option maxRecDepth 100000 in
set_option maxHeartbeats 400000 in
theorem eqCellS_same (es : List Cel) (A A' : Option Addr) (c c' : Nat) (w : World) (hm : es.length ≤ maxLen) (h : RdC w w.heap.size A es) (h' : RdC w w.heap.size A' es) :
    Calls Try.prog 105 #[.slice A es.length c, .slice A' es.length c'] w fun e w' => e = .returned (.bool true) ∧ Below w.heap.size w w' := by
  unfold maxLen at hm
  go_enter Try.func105, Try.ntmps105
  go_wp2
  go_loopw [5] (fun i wr => ∃ k : Nat, k ≤ es.length ∧ i = .int .i64 k ∧ Below w.heap.size w wr) (fun i _ => es.length - (intOf i).toNat)
  case atStart => exact ⟨0, Nat.zero_le _, rfl, Below.refl _ _⟩
  case round =>
    obtain ⟨k, hk, rfl, hb⟩ := hrel
    by_cases hlt : k < es.length
    · obtain ⟨b, off, rfl, hbb, hc0, hc1⟩ := (h.below hb).get hlt
      obtain ⟨b', off', rfl, hbb', hd0, hd1⟩ := (h'.below hb).get hlt
      go_wp2
      go_still_tail 8, (by kernel_rfl)
      change wpList _ _ _ _ _ wr.drew
      generalize hw2 : wr.drew = w2
      have hb2 : Below w.heap.size w w2 := by rw [← hw2]; exact hb.drew
      clear hw2
      go_wp2_with fail
      refine (eqCell_same _ _ _).mono ?_
      rintro e w3 ⟨rfl, hb3⟩
      have hb4 := hb2.trans (hb3.mono hb2.size)
      go_wp2
      go_roundw
      case rel => exact ⟨k + 1, by omega, by go_num, hb4⟩
      case measure => simp [intOf]; omega
    · go_wp2
      go_ret
      exact ⟨rfl, hb⟩

set_option maxRecDepth 100000 in
set_option maxHeartbeats 400000 in
theorem toCellS_any (es : List Cel) (A : Option Addr) (c : Nat) (w : World) (hm : es.length ≤ 1048576) (h : RdC w w.heap.size A es) :
    Calls Try.prog 103 #[.slice A es.length c] w fun e w' => ∃ g, e = .returned (.slice (some ⟨g, 0, none⟩) es.length es.length) ∧ w'.ownsRow w.heap.size 120 2 (.slice (some ⟨g, 0, none⟩) es.length es.length) es.length (cels es) ∧ Below w.heap.size w w' := by
  obtain ⟨i0, hi, hz0, hz1, hz2⟩ := info_parts info_cell
  go_enter Try.func103, Try.ntmps103
  go_wp2_with (at_make; refine wpList_make_full _ rfl _ _ 25 rfl w.heap.size 120 i0 (.agg #[.int .i64 0, .int .i64 0]) 2 Try.underlying25 hi hz0 hz1 .i64 .i64 _ _ es.length rfl rfl rfl rfl (by rw [hz2]; omega) (by unfold maxLen; omega) (Nat.le_refl _) ?_; intro w1 hown hg)
  rw [made_cell, ← halfC_zero] at hown
  have hb1 : Below w.heap.size w w1 := (Below.refl _ _).grown hg (Nat.le_refl _) (by simp)
  clear hg
  go_loopw [4] (fun i wr => ∃ k : Nat, k ≤ es.length ∧ i = .int .i64 k ∧ wr.ownsRow w.heap.size 120 2 (.slice (some ⟨w.heap.size, 0, none⟩) es.length es.length) es.length (halfC es k) ∧ Below w.heap.size w wr) (fun i _ => es.length - (intOf i).toNat)
  case atStart => exact ⟨0, Nat.zero_le _, rfl, hown, hb1⟩
  case round =>
    obtain ⟨k, hk, rfl, ho, hb⟩ := hrel
    by_cases hlt : k < es.length
    · obtain ⟨b, off, rfl, hbb, hc0, hc1⟩ := (h.below hb).get hlt
      go_wp2_with fail
      refine (toCell_any _ _ _).mono ?_
      rintro e w2 ⟨rfl, hb2⟩
      have hb3 := hb.trans (hb2.mono hb.size)
      have ho2 := own_below ho hb2 (Nat.le_refl _)
      have hlen := halfC_length es k hk
      have hf0 := ho2.frozenAt (k * 2)
      have hf1 := ho2.frozenAt (k * 2 + 1)
      obtain ⟨v0, hx0⟩ : ∃ v, w2.cell? ⟨w.heap.size, k * 2, none⟩ = some v := by
        rw [ho2.cellAt (k * 2) (by omega)]
        exact ⟨_, List.getElem?_eq_getElem (by omega)⟩
      obtain ⟨v1, hx1⟩ : ∃ v, w2.cell? ⟨w.heap.size, k * 2 + 1, none⟩ = some v := by
        rw [ho2.cellAt (k * 2 + 1) (by omega)]
        exact ⟨_, List.getElem?_eq_getElem (by omega)⟩
      have HS := hide (((ho2.stored (k * 2) (.int .i64 es[k].a)).1.stored (k * 2 + 1) (.int .i64 es[k].v)).1)
      clear ho2 ho hlen
      go_wp2
      go_roundw
      case rel =>
        refine ⟨k + 1, by omega, by go_num, ?_, (hb3.setCell (Nat.le_refl _) _).setCell (Nat.le_refl _) _⟩
        rw [← halfC_set es k hlt]
        exact HS.out
      case measure => simp [intOf]; omega
    · go_wp2
      go_ret
      obtain rfl : k = es.length := by omega
      rw [halfC_all] at ho
      exact ⟨_, rfl, ho, hb⟩

/-- The marks that are laid from k on. -/
def mkC (k n : Nat) : List Cel := (List.range n).map fun i => ⟨((k + i * 2 : Nat) : Int), ((k + i * 2 + 1 : Nat) : Int)⟩
theorem mkC_length (k n : Nat) : (mkC k n).length = n := by simp [mkC]
theorem mkC_succ (k n : Nat) : mkC k (n + 1) = mkC k n ++ [⟨((k + n * 2 : Nat) : Int), ((k + n * 2 + 1 : Nat) : Int)⟩] := by simp [mkC, List.range_succ]
/-- After j rounds of marking. -/
def markedC (xs : List Value) (k j : Nat) : List Value := cels (mkC k j) ++ xs.drop (j * 2)
theorem markedC_zero (xs : List Value) (k : Nat) : markedC xs k 0 = xs := by simp [markedC, mkC, cels]
theorem markedC_all (xs : List Value) (k n : Nat) (h : xs.length = n * 2) : markedC xs k n = cels (mkC k n) := by
  unfold markedC
  rw [List.drop_eq_nil_of_le (by omega), List.append_nil]
theorem markedC_set (xs : List Value) (k j n : Nat) (h : xs.length = n * 2) (hj : j < n) :
    ((markedC xs k j).set (j * 2) (.int .i64 ((k + j * 2 : Nat) : Int))).set (j * 2 + 1) (.int .i64 ((k + j * 2 + 1 : Nat) : Int)) = markedC xs k (j + 1) := by
  unfold markedC
  rw [List.drop_eq_getElem_cons (by omega), List.drop_eq_getElem_cons (by omega)]
  rw [set2 _ _ _ _ _ _ _ (by rw [cels_length, mkC_length]), mkC_succ, cels_append]
  simp only [cels, List.append_assoc, List.cons_append, List.nil_append]
  rw [show (j + 1) * 2 = j * 2 + 1 + 1 by omega]

set_option maxRecDepth 100000 in
set_option maxHeartbeats 800000 in
theorem markCellS_any (base : Nat) (A : Option Addr) (n c k : Nat) (xs : List Value) (w : World) (hk : k + n * 2 ≤ 1073741824) (h : w.ownsRow base 120 2 (.slice A n c) n xs) :
    Calls Try.prog 108 #[.slice A n c, .int .i64 k] w fun e w' => e = .returned (.int .i64 ((k + n * 2 : Nat) : Int)) ∧ w'.ownsRow base 120 2 (.slice A n c) n (cels (mkC k n)) ∧ w.grownBy w' (Value.slice A n c).ownBlock := by
  have hl : xs.length = n * 2 := h.1
  go_enter Try.func108, Try.ntmps108
  go_wp2
  go_loopw [1, 5] (fun q i wr => ∃ j : Nat, j ≤ n ∧ i = .int .i64 j ∧ q = .int .i64 ((k + j * 2 : Nat) : Int) ∧ wr.ownsRow base 120 2 (.slice A n c) n (markedC xs k j) ∧ w.grownBy wr (Value.slice A n c).ownBlock) (fun _ i _ => n - (intOf i).toNat)
  case atStart => exact ⟨0, Nat.zero_le _, rfl, rfl, by rw [markedC_zero]; exact h, ⟨rfl, rfl, rfl, Nat.le_refl _, fun _ _ _ => rfl⟩⟩
  case round =>
    obtain ⟨j, hj, rfl, rfl, ho, hg⟩ := hrel
    by_cases hlt : j < n
    · obtain ⟨g, rfl⟩ : ∃ g, A = some ⟨g, 0, none⟩ := by
        rcases ho.2 with ⟨h', h''⟩ | ⟨g, cap, cur, h', _⟩
        · omega
        · simp only [Value.slice.injEq, true_and] at h'
          exact ⟨g, h'.1⟩
      have hlen := ho.1
      have hf0 := ho.frozenAt (j * 2)
      have hf1 := ho.frozenAt (j * 2 + 1)
      obtain ⟨v0, hx0⟩ : ∃ v, wr.cell? ⟨g, j * 2, none⟩ = some v := by
        rw [ho.cellAt (j * 2) (by omega)]
        exact ⟨_, List.getElem?_eq_getElem (by omega)⟩
      obtain ⟨v1, hx1⟩ : ∃ v, wr.cell? ⟨g, j * 2 + 1, none⟩ = some v := by
        rw [ho.cellAt (j * 2 + 1) (by omega)]
        exact ⟨_, List.getElem?_eq_getElem (by omega)⟩
      have h1 := ho.stored (j * 2) (.int .i64 ((k : Int) + (j : Int) * 2))
      have h2 := h1.1.stored (j * 2 + 1) (.int .i64 ((k : Int) + (j : Int) * 2 + 1))
      have HS := hide h2.1
      have HG := hide (h1.2.trans h2.2)
      have hM := markedC_set xs k j n hl hlt
      rw [show ((k + j * 2 : Nat) : Int) = (k : Int) + (j : Int) * 2 by omega, show ((k + j * 2 + 1 : Nat) : Int) = (k : Int) + (j : Int) * 2 + 1 by omega] at hM
      have HM := hide hM
      clear h1 h2 hlen ho hM
      go_wp2
      go_roundw
      case rel => exact ⟨j + 1, by omega, by go_num, by go_num, by rw [← HM.out]; exact HS.out, hg.trans HG.out⟩
      case measure => simp [intOf]; omega
    · go_wp2
      go_ret
      obtain rfl : j = n := by omega
      refine ⟨rfl, ?_, hg⟩
      rw [← markedC_all xs k j hl]
      exact ho

set_option maxRecDepth 100000 in
set_option maxHeartbeats 800000 in
theorem heldCellS_marked (B : Nat) (A : Option Addr) (n c k : Nat) (w : World) (hk : k + n * 2 ≤ 1073741824) (h : RdC w B A (mkC k n)) :
    Calls Try.prog 137 #[.slice A n c, .int .i64 k] w fun e w' => e = .returned (.int .i64 ((k + n * 2 : Nat) : Int)) ∧ w = w' := by
  go_enter Try.func137, Try.ntmps137
  go_wp2
  go_loop [1, 5] (fun q i => ∃ j : Nat, j ≤ n ∧ i = .int .i64 j ∧ q = .int .i64 ((k : Int) + (j : Int) * 2)) (fun _ i => n - (intOf i).toNat)
  case atStart => exact ⟨0, Nat.zero_le _, rfl, by go_num⟩
  case round =>
    obtain ⟨j, hj, rfl, rfl⟩ := hrel
    by_cases hlt : j < n
    · obtain ⟨b, off, rfl, _, hc0, hc1⟩ := h.get (i := j) (by rw [mkC_length]; exact hlt)
      simp only [mkC, List.getElem_map, List.getElem_range] at hc0 hc1
      rw [show ((k + j * 2 : Nat) : Int) = (k : Int) + (j : Int) * 2 by omega] at hc0
      rw [show ((k + j * 2 + 1 : Nat) : Int) = (k : Int) + (j : Int) * 2 + 1 by omega] at hc1
      go_wp2
      go_round
      case rel => exact ⟨j + 1, by omega, by go_num, by go_num⟩
      case measure => simp [intOf]; omega
    · go_wp2
      go_ret
      obtain rfl : j = n := by omega
      exact ⟨ret_int (by omega), rfl⟩
end Go.Proofs.Ytifijhfeeammkaa
namespace Go.Proofs.Ytifijhfeeammkaa
open Go.RowKit

/-- A machine as a value. -/
abbrev macV (A : Option Addr) (n c : Nat) (A' : Option Addr) (n' c' : Nat) : Value := .agg #[.slice A n c, .slice A' n' c']
/-- An answer with a machine, and one of a simulation, as values. -/
abbrev mrV (a : Int) (A : Option Addr) (n c : Nat) (A' : Option Addr) (n' c' : Nat) (v : Int) : Value := .agg #[.int .i64 a, .slice A n c, .slice A' n' c', .int .i64 v]
structure RdMac (w : World) (B : Nat) (A A' : Option Addr) (m : Mac) : Prop where
  cs : RdT w B A m.cs
  mem : RdC w B A' m.mem
section
variable {w w' : World} {B B' : Nat} {A A' : Option Addr} {m : Mac}
theorem RdMac.keep (h : RdMac w B A A' m) (hk : ∀ p : Addr, p.block < B → w'.cell? p = w.cell? p) : RdMac w' B A A' m := ⟨h.cs.keep hk, h.mem.keep hk⟩
theorem RdMac.more (h : RdMac w B A A' m) (hB : B ≤ B') : RdMac w B' A A' m := ⟨h.cs.more hB, h.mem.more hB⟩
theorem RdMac.below (h : RdMac w B A A' m) (hb : Below B w w') : RdMac w' B A A' m := ⟨h.cs.below hb, h.mem.below hb⟩
theorem RdMac.alloc (h : RdMac w B A A' m) (hB : B ≤ w.heap.size) (o : Obj) : RdMac (w.alloc o) B A A' m := ⟨h.cs.alloc hB o, h.mem.alloc hB o⟩
theorem RdMac.lt (h : RdMac w B A A' m) : RdMac w w.heap.size A A' m := ⟨h.cs.lt, h.mem.lt⟩
end
/-- A machine of the call's own: its rows and its memory apart. -/
structure OwnMac (w : World) (base : Nat) (v v' : Value) (m : Mac) (us : List Value) : Prop where
  cs : OwnTLine w base v m.cs us
  mem : w.ownsRow base 120 2 v' m.mem.length (cels m.mem)
  far : ∀ b, v'.ownBlock = some b → v.ownBlock ≠ some b ∧ ∀ u ∈ us, u.ownBlock ≠ some b
theorem OwnTLine.only {w w' : World} {base : Nat} {v : Value} {t : List (List Ev)} {us vs : List Value} (h : OwnTLine w base v t us) (ho : Only vs w w') (hf : ∀ x ∈ vs, ∀ b, x.ownBlock = some b → v.ownBlock ≠ some b ∧ ∀ u ∈ us, u.ownBlock ≠ some b) : OwnTLine w' base v t us :=
  ⟨ho.own _ _ _ _ _ _ h.row fun b hb x hx e => (hf x hx b e).1 hb, fun i hi => by
    obtain ⟨u, h1, h2, h3⟩ := h.rows i hi
    exact ⟨u, h1, ho.own _ _ _ _ _ _ h2 fun b hb x hx e => (hf x hx b e).2 u (List.mem_of_getElem? h1) hb, h3⟩, h.apart⟩
theorem OwnMac.alloc {w : World} {base : Nat} {v v' : Value} {m : Mac} {us : List Value} (h : OwnMac w base v v' m us) (o : Obj) : OwnMac (w.alloc o) base v v' m us := ⟨h.cs.alloc o, h.mem.alloc o, h.far⟩
theorem OwnMac.below {w w' : World} {base : Nat} {v v' : Value} {m : Mac} {us : List Value} (h : OwnMac w base v v' m us) (hb : Below w.heap.size w w') : OwnMac w' base v v' m us := ⟨h.cs.below hb, own_below h.mem hb (Nat.le_refl _), h.far⟩
theorem OwnMac.set_ {w : World} {base b i : Nat} {v v' : Value} {m : Mac} {us : List Value} (h : OwnMac w base v v' m us) (hb : b < base) (u : Value) : OwnMac (w.setCell ⟨b, i, none⟩ u) base v v' m us :=
  ⟨h.cs.kept (grown_set w b i u) (fun x e => by cases e; exact hb), ownsRow_setCell_below h.mem (a := ⟨b, i, none⟩) hb u, h.far⟩
theorem OwnMac.mono {w : World} {base b' : Nat} {v v' : Value} {m : Mac} {us : List Value} (h : OwnMac w base v v' m us) (hb : b' ≤ base) : OwnMac w b' v v' m us := ⟨h.cs.mono hb, own_mono h.mem hb, h.far⟩
theorem OwnMac.rd {w : World} {base : Nat} {A A' : Option Addr} {c c' : Nat} {m : Mac} {us : List Value} (h : OwnMac w base (.slice A m.cs.length c) (.slice A' m.mem.length c') m us) : RdMac w w.heap.size A A' m := ⟨h.cs.rd, RdC.of_own h.mem⟩
/-- How large a machine is. -/
def sizM (m : Mac) : Nat := m.cs.length + sumT m.cs + m.mem.length

theorem szMachine_fit (m : Mac) (A A' : Option Addr) (c c' l : Nat) (w : World) (hs : sizM m ≤ l) (hl : l ≤ 1048576) (h : RdMac w w.heap.size A A' m) :
    Calls Try.prog 44 #[macV A m.cs.length c A' m.mem.length c', .int .i64 l] w fun e w' => e = .returned (.int .i64 ((l - sizM m : Nat) : Int)) ∧ Below w.heap.size w w' := by
  unfold sizM at hs
  go_enter Try.func44, Try.ntmps44
  go_wp2_with fail
  refine (szLineSS_fit m.cs A c l _ (by omega) hl (h.cs.alloc (Nat.le_refl _) _).lt).mono ?_
  rintro e w1 ⟨rfl, rfl⟩
  go_wp2_with fail
  refine (szCellS_fit A' m.mem.length c' (l - m.cs.length - sumT m.cs) _ (by omega) (by omega)).mono ?_
  rintro e w1 ⟨rfl, rfl⟩
  go_wp2
  go_ret
  exact ⟨ret_int (by unfold sizM; omega), by go_grown⟩
theorem szMachine_not (m : Mac) (A A' : Option Addr) (c c' l : Nat) (w : World) (hs : l < sizM m) (hl : l ≤ 1048576) (h1 : m.cs.length ≤ maxLen) (h2 : m.mem.length ≤ maxLen) (h : RdMac w w.heap.size A A' m) :
    Calls Try.prog 44 #[macV A m.cs.length c A' m.mem.length c', .int .i64 l] w fun e w' => e = .returned (.int .i64 (-1)) ∧ Below w.heap.size w w' := by
  unfold sizM at hs
  go_enter Try.func44, Try.ntmps44
  by_cases hc : m.cs.length + sumT m.cs ≤ l
  · go_wp2_with fail
    refine (szLineSS_fit m.cs A c l _ hc hl (h.cs.alloc (Nat.le_refl _) _).lt).mono ?_
    rintro e w1 ⟨rfl, rfl⟩
    go_wp2_with fail
    refine (szCellS_not A' m.mem.length c' (l - m.cs.length - sumT m.cs) _ (by omega) (by omega) h2).mono ?_
    rintro e w1 ⟨rfl, rfl⟩
    go_wp2
    go_ret
    exact ⟨rfl, by go_grown⟩
  · go_wp2_with fail
    refine (szLineSS_not m.cs A c l _ (by omega) hl h1 (h.cs.alloc (Nat.le_refl _) _).lt).mono ?_
    rintro e w1 ⟨rfl, rfl⟩
    go_wp2
    go_ret
    exact ⟨rfl, by go_grown⟩

theorem eqMachine_same (m : Mac) (A A' Z Z' : Option Addr) (c c' d d' : Nat) (w : World) (h1 : m.cs.length ≤ maxLen) (h2 : m.mem.length ≤ maxLen) (h : RdMac w w.heap.size A A' m) (k : RdMac w w.heap.size Z Z' m) :
    Calls Try.prog 46 #[macV A m.cs.length c A' m.mem.length c', macV Z m.cs.length d Z' m.mem.length d'] w fun e w' => e = .returned (.bool true) ∧ Below w.heap.size w w' := by
  obtain ⟨W, hW⟩ : ∃ W, W = (w.alloc (Obj.cells #[.slice A m.cs.length c, .slice A' m.mem.length c'] 27)).alloc (Obj.cells #[.slice Z m.cs.length d, .slice Z' m.mem.length d'] 27) := ⟨_, rfl⟩
  obtain ⟨k1, k2, hz, B0⟩ := two_new _ _ _ _ _ W hW
  have HW := hide hW
  have hR := (h.below B0).lt
  have kR := (k.below B0).lt
  clear hW
  go_enter Try.func46, Try.ntmps46
  go_wp2_with fail
  rw [← HW.out]
  refine (eqLineSS_same m.cs A Z c d W h1 hR.cs kR.cs).mono ?_
  rintro e w1 ⟨rfl, hb⟩
  have B1 := B0.trans (hb.mono B0.size)
  have q1 := (k1.kept hb).cell 1
  have q2 := (k2.kept hb).cell 1
  simp at q1 q2
  have hR1 := (hR.mem.below hb).lt
  have kR1 := (kR.mem.below hb).lt
  clear k1 k2
  go_wp2_with fail
  refine (eqCellS_same m.mem A' Z' c' d' w1 h2 hR1 kR1).mono ?_
  rintro e w2 ⟨rfl, hb2⟩
  go_wp2
  go_ret
  exact ⟨rfl, B1.trans (hb2.mono B1.size)⟩

theorem toMachine_own (m : Mac) (A A' : Option Addr) (c c' : Nat) (w : World) (h1 : LenT 1048576 m.cs) (h2 : m.mem.length ≤ 1048576) (h : RdMac w w.heap.size A A' m) :
    Calls Try.prog 45 #[macV A m.cs.length c A' m.mem.length c'] w fun e w' => ∃ g g' us, e = .returned (macV (some ⟨g, 0, none⟩) m.cs.length m.cs.length (some ⟨g', 0, none⟩) m.mem.length m.mem.length) ∧ OwnMac w' w.heap.size (.slice (some ⟨g, 0, none⟩) m.cs.length m.cs.length) (.slice (some ⟨g', 0, none⟩) m.mem.length m.mem.length) m us ∧ Below w.heap.size w w' := by
  obtain ⟨W, hW⟩ : ∃ W, W = ((w.alloc (Obj.cells #[.slice A m.cs.length c, .slice A' m.mem.length c'] 73)).alloc (Obj.cells #[.slice none 0 0, .slice none 0 0] 27)).alloc (Obj.cells #[.slice none 0 0, .slice none 0 0] 27) := ⟨_, rfl⟩
  obtain ⟨k0, k1, k2, hz, B0⟩ := three_new _ _ _ _ _ _ _ W hW
  have HW := hide hW
  have hR := (h.below B0).lt
  clear hW
  go_enter Try.func45, Try.ntmps45
  go_wp2_with fail
  rw [← HW.out]
  refine (toLineSS_own m.cs A c W h1 hR.cs).mono ?_
  rintro e w1 ⟨g, us, rfl, o1, b1⟩
  have B1 := B0.trans (b1.mono B0.size)
  have q0 := (k0.kept b1).cell 1
  have f2 := (k2.kept b1).frozen 0
  have d2 := (k2.kept b1).cell 0
  simp at q0 d2
  have hR1 := (hR.mem.below b1).lt
  have HO := hide o1
  have hz1 := b1.size
  have HK := hide (And.intro (k1.kept b1) (k2.kept b1))
  clear o1
  go_wp2_with fail
  have BX := B1.setCell (p := ⟨w.heap.size + 1 + 1, 0, none⟩) (by simp <;> omega) (.slice (some ⟨g, 0, none⟩) m.cs.length m.cs.length)
  have j2 := HK.out.2.set_ 0 (.slice (some ⟨g, 0, none⟩) m.cs.length m.cs.length)
  have j1 := HK.out.1.far (p := ⟨w.heap.size + 1 + 1, 0, none⟩) (by simp) (.slice (some ⟨g, 0, none⟩) m.cs.length m.cs.length)
  have OX := HO.out.kept (grown_set w1 (w.heap.size + 1 + 1) 0 (.slice (some ⟨g, 0, none⟩) m.cs.length m.cs.length)) (fun b e => by cases e; omega)
  have hRX := (h.mem.below BX).lt
  have hzX : W.heap.size ≤ (w1.setCell ⟨w.heap.size + 1 + 1, 0, none⟩ (.slice (some ⟨g, 0, none⟩) m.cs.length m.cs.length)).heap.size := by simp; exact hz1
  simp at j2
  clear q0 f2 d2 hR1 HO HK B1 b1
  generalize w1.setCell ⟨w.heap.size + 1 + 1, 0, none⟩ (.slice (some ⟨g, 0, none⟩) m.cs.length m.cs.length) = X at *
  refine (toCellS_any m.mem A' c' X h2 hRX).mono ?_
  rintro e w2 ⟨g2, rfl, o2, b2⟩
  have B2 := BX.trans (b2.mono BX.size)
  have i1 := j1.kept b2
  have i2 := j2.kept b2
  have q0 := i1.cell 0
  have q1 := i1.cell 1
  have q2 := i2.cell 0
  have q3 := i2.cell 1
  have f0 := i1.frozen 0
  have f1 := i1.frozen 1
  have f3 := i2.frozen 1
  simp at q0 q1 q2 q3
  have HO := hide (OwnMac.mk (OX.below b2) (own_mono o2 hzX) fun b hb => ⟨fun e => by have := OX.row.lt b e; have := o2.lt b hb; omega, fun u hu e => by have := own_boundLine OX u hu b e; have := o2.lt b hb; omega⟩)
  clear o2 b2 OX i1 i2 j1 j2 hRX hzX BX
  go_wp2
  have o4 := ((HO.out.set_ (b := w.heap.size + 1 + 1) (i := 1) (by omega) (.slice (some ⟨g2, 0, none⟩) m.mem.length m.mem.length)).set_ (b := w.heap.size + 1) (i := 0) (by omega) (.slice (some ⟨g, 0, none⟩) m.cs.length m.cs.length)).set_ (b := w.heap.size + 1) (i := 1) (by omega) (.slice (some ⟨g2, 0, none⟩) m.mem.length m.mem.length)
  refine bodyPost_ret (v := macV (some ⟨g, 0, none⟩) m.cs.length m.cs.length (some ⟨g2, 0, none⟩) m.mem.length m.mem.length) (by simp [results, Try.results45, go_sem, q0, q1]) rfl ?_
  exact ⟨g, g2, us, rfl, o4.mono (by omega), ((B2.setCell (by simp <;> omega) _).setCell (by simp) _).setCell (by simp) _⟩

/-- The marks of a machine, laid from k on. -/
def mkMac (k : Nat) (m : Mac) : Mac := ⟨mkT k m.cs, mkC (endT k m.cs) m.mem.length⟩
def endMac (k : Nat) (m : Mac) : Nat := endT k m.cs + m.mem.length * 2
theorem markMachine_any (base k : Nat) (m : Mac) (us : List Value) (A A' : Option Addr) (c c' : Nat) (w : World) (hk : endMac k m ≤ 1073741824) (ht : m.cs.length ≤ 1048576) (h : OwnMac w base (.slice A m.cs.length c) (.slice A' m.mem.length c') m us) :
    Calls Try.prog 50 #[macV A m.cs.length c A' m.mem.length c', .int .i64 k] w fun e w' => e = .returned (.int .i64 (endMac k m : Nat)) ∧ OwnMac w' base (.slice A m.cs.length c) (.slice A' m.mem.length c') (mkMac k m) us ∧ Only (.slice A' m.mem.length c' :: us) w w' := by
  unfold endMac at hk
  have kb := Bk.new w #[.slice A m.cs.length c, .slice A' m.mem.length c'] 27
  go_enter Try.func50, Try.ntmps50
  go_wp2_with fail
  refine (markLineSS_any base k m.cs us A c _ (by omega) ht (h.cs.alloc _)).mono ?_
  rintro e w1 ⟨rfl, ho, hs⟩
  have q1 := (hs.bk _ _ _ kb fun u hu e => by have := own_boundLine h.cs u hu _ e; omega).cell 1
  simp at q1
  clear kb
  have om := hs.own _ _ _ _ _ _ (h.mem.alloc _) fun b hb u hu => (h.far b hb).2 u hu
  go_wp2_with fail
  refine (markCellS_any base A' m.mem.length c' (endT k m.cs) _ _ hk om).mono ?_
  rintro e w2 ⟨rfl, o2, g2⟩
  go_wp2
  go_ret
  have O2 : Only [.slice A' m.mem.length c'] w1 w2 := Only.of_grown g2 (by simp)
  refine ⟨rfl, ⟨ho.only O2 fun x hx b hb => ?_, by simp only [mkMac, mkC_length]; exact o2, h.far⟩, (Only.of_none (World.grownBy_alloc w _ none)).trans ((hs.more fun u hu => by simp [hu]).trans (O2.more fun u hu => by simp at hu; simp [hu]))⟩
  simp only [List.mem_singleton] at hx
  subst hx
  exact h.far b hb
theorem heldMachine_marked (B k : Nat) (m : Mac) (A A' : Option Addr) (c c' : Nat) (w : World) (hk : endMac k m ≤ 1073741824) (ht : m.cs.length ≤ 1048576) (hB : B ≤ w.heap.size) (h : RdMac w B A A' (mkMac k m)) :
    Calls Try.prog 106 #[macV A m.cs.length c A' m.mem.length c', .int .i64 k] w fun e w' => e = .returned (.int .i64 (endMac k m : Nat)) ∧ Below w.heap.size w w' := by
  unfold endMac at hk
  go_enter Try.func106, Try.ntmps106
  go_wp2_with fail
  refine (heldLineSS_marked B k m.cs A c _ (by omega) ht (h.cs.alloc hB _)).mono ?_
  rintro e w1 ⟨rfl, rfl⟩
  go_wp2_with fail
  refine (heldCellS_marked B A' m.mem.length c' (endT k m.cs) _ hk (h.mem.alloc hB _)).mono ?_
  rintro e w2 ⟨rfl, rfl⟩
  go_wp2
  go_ret
  exact ⟨rfl, by go_grown⟩

theorem eqMachineResult_same (a v : Int) (m : Mac) (A A' Z Z' : Option Addr) (c c' d d' : Nat) (w : World) (h1 : m.cs.length ≤ maxLen) (h2 : m.mem.length ≤ maxLen) (h : RdMac w w.heap.size A A' m) (k : RdMac w w.heap.size Z Z' m) :
    Calls Try.prog 47 #[mrV a A m.cs.length c A' m.mem.length c' v, mrV a Z m.cs.length d Z' m.mem.length d' v] w fun e w' => e = .returned (.bool true) ∧ Below w.heap.size w w' := by
  obtain ⟨W, hW⟩ : ∃ W, W = (w.alloc (Obj.cells #[.int .i64 a, .slice A m.cs.length c, .slice A' m.mem.length c', .int .i64 v] 33)).alloc (Obj.cells #[.int .i64 a, .slice Z m.cs.length d, .slice Z' m.mem.length d', .int .i64 v] 33) := ⟨_, rfl⟩
  obtain ⟨k1, k2, hz, B0⟩ := two_new _ _ _ _ _ W hW
  have HW := hide hW
  have hR := (h.below B0).lt
  have kR := (k.below B0).lt
  clear hW
  go_enter Try.func47, Try.ntmps47
  go_wp2_with fail
  rw [← HW.out]
  refine (eqMachine_same m A A' Z Z' c c' d d' W h1 h2 hR kR).mono ?_
  rintro e w1 ⟨rfl, hb⟩
  have B1 := B0.trans (hb.mono B0.size)
  have q1 := (k1.kept hb).cell 3
  have q2 := (k2.kept hb).cell 3
  simp at q1 q2
  clear k1 k2
  go_wp2
  go_ret
  exact ⟨rfl, B1⟩
theorem markMachineResult_any (base k : Nat) (a v : Int) (m : Mac) (us : List Value) (A A' : Option Addr) (c c' : Nat) (w : World) (hk : endMac k m ≤ 1073741824) (ht : m.cs.length ≤ 1048576) (h : OwnMac w base (.slice A m.cs.length c) (.slice A' m.mem.length c') m us) :
    Calls Try.prog 48 #[mrV a A m.cs.length c A' m.mem.length c' v, .int .i64 k] w fun e w' => e = .returned (.int .i64 (endMac k m : Nat)) ∧ OwnMac w' base (.slice A m.cs.length c) (.slice A' m.mem.length c') (mkMac k m) us ∧ Only (.slice A' m.mem.length c' :: us) w w' := by
  go_enter Try.func48, Try.ntmps48
  go_wp2_with fail
  refine (markMachine_any base k m us A A' c c' _ hk ht (h.alloc _)).mono ?_
  rintro e w1 ⟨rfl, ho, hs⟩
  go_wp2
  go_ret
  exact ⟨rfl, ho, (Only.of_none (World.grownBy_alloc w _ none)).trans hs⟩
theorem heldMachineResult_marked (B k : Nat) (a v : Int) (m : Mac) (A A' : Option Addr) (c c' : Nat) (w : World) (hk : endMac k m ≤ 1073741824) (ht : m.cs.length ≤ 1048576) (hB : B ≤ w.heap.size) (h : RdMac w B A A' (mkMac k m)) :
    Calls Try.prog 49 #[mrV a A m.cs.length c A' m.mem.length c' v, .int .i64 k] w fun e w' => e = .returned (.int .i64 (endMac k m : Nat)) ∧ Below w.heap.size w w' := by
  go_enter Try.func49, Try.ntmps49
  go_wp2_with fail
  refine (heldMachine_marked B k m A A' c c' _ hk ht (by simp; omega) (h.alloc hB _)).mono ?_
  rintro e w1 ⟨rfl, hb⟩
  go_wp2
  go_ret
  exact ⟨rfl, below_alloc hb⟩
end Go.Proofs.Ytifijhfeeammkaa
namespace Go.Proofs.Ytifijhfeeammkaa
open Go.RowKit

/-- An answer of a simulation as a value. -/
abbrev siV (a : Int) (L : Option Addr) (nl cl : Nat) (A : Option Addr) (n c : Nat) (A' : Option Addr) (n' c' : Nat) : Value := .agg #[.int .i64 a, .slice L nl cl, .slice A n c, .slice A' n' c']
theorem OwnMac.only {w w' : World} {base : Nat} {v v' : Value} {m : Mac} {us vs : List Value} (h : OwnMac w base v v' m us) (ho : Only vs w w') (hf : ∀ x ∈ vs, ∀ b, x.ownBlock = some b → v.ownBlock ≠ some b ∧ v'.ownBlock ≠ some b ∧ ∀ u ∈ us, u.ownBlock ≠ some b) : OwnMac w' base v v' m us :=
  ⟨h.cs.only ho fun x hx b hb => ⟨(hf x hx b hb).1, (hf x hx b hb).2.2⟩, ho.own _ _ _ _ _ _ h.mem fun b hb x hx e => (hf x hx b e).2.1 hb, h.far⟩

theorem eqSimResult_same (a : Int) (ss : List Stp) (m : Mac) (L A A' K Z Z' : Option Addr) (cl c c' dl d d' : Nat) (w : World) (h0 : ss.length ≤ maxLen) (h1 : m.cs.length ≤ maxLen) (h2 : m.mem.length ≤ maxLen) (hl : RdP w w.heap.size L ss) (kl : RdP w w.heap.size K ss) (h : RdMac w w.heap.size A A' m) (k : RdMac w w.heap.size Z Z' m) :
    Calls Try.prog 53 #[siV a L ss.length cl A m.cs.length c A' m.mem.length c', siV a K ss.length dl Z m.cs.length d Z' m.mem.length d'] w fun e w' => e = .returned (.bool true) ∧ Below w.heap.size w w' := by
  obtain ⟨W, hW⟩ : ∃ W, W = (w.alloc (Obj.cells #[.int .i64 a, .slice L ss.length cl, .slice A m.cs.length c, .slice A' m.mem.length c'] 55)).alloc (Obj.cells #[.int .i64 a, .slice K ss.length dl, .slice Z m.cs.length d, .slice Z' m.mem.length d'] 55) := ⟨_, rfl⟩
  obtain ⟨k1, k2, hz, B0⟩ := two_new _ _ _ _ _ W hW
  have HW := hide hW
  have hR := (h.below B0).lt
  have kR := (k.below B0).lt
  have hlR := (hl.below B0).lt
  have klR := (kl.below B0).lt
  clear hW
  go_enter Try.func53, Try.ntmps53
  go_wp2_with fail
  rw [← HW.out]
  refine (eqStepS_same ss L K cl dl W h0 hlR klR).mono ?_
  rintro e w1 ⟨rfl, hb⟩
  have B1 := B0.trans (hb.mono B0.size)
  have q1 := (k1.kept hb).cell 2
  have q2 := (k1.kept hb).cell 3
  have q3 := (k2.kept hb).cell 2
  have q4 := (k2.kept hb).cell 3
  simp at q1 q2 q3 q4
  have hR1 := (hR.below hb).lt
  have kR1 := (kR.below hb).lt
  clear k1 k2
  go_wp2_with fail
  refine (eqMachine_same m A A' Z Z' c c' d d' w1 h1 h2 hR1 kR1).mono ?_
  rintro e w2 ⟨rfl, hb2⟩
  go_wp2
  go_ret
  exact ⟨rfl, B1.trans (hb2.mono B1.size)⟩
theorem markSimResult_any (base k : Nat) (a : Int) (n : Nat) (xs : List Value) (m : Mac) (us : List Value) (L A A' : Option Addr) (cl c c' : Nat) (w : World) (hk : endMac (k + n * 4) m ≤ 1073741824) (ht : m.cs.length ≤ 1048576) (hl : w.ownsRow base 143 4 (.slice L n cl) n xs) (h : OwnMac w base (.slice A m.cs.length c) (.slice A' m.mem.length c') m us)
    (hf : ∀ b, (Value.slice L n cl).ownBlock = some b → (Value.slice A m.cs.length c).ownBlock ≠ some b ∧ (Value.slice A' m.mem.length c').ownBlock ≠ some b ∧ ∀ u ∈ us, u.ownBlock ≠ some b) :
    Calls Try.prog 57 #[siV a L n cl A m.cs.length c A' m.mem.length c', .int .i64 k] w fun e w' => e = .returned (.int .i64 (endMac (k + n * 4) m : Nat)) ∧ w'.ownsRow base 143 4 (.slice L n cl) n (stps (mkP k n)) ∧ OwnMac w' base (.slice A m.cs.length c) (.slice A' m.mem.length c') (mkMac (k + n * 4) m) us ∧ Only (.slice L n cl :: .slice A' m.mem.length c' :: us) w w' := by
  have hk1 : k + n * 4 ≤ 1073741824 := by unfold endMac endT at hk; omega
  have kb := Bk.new w #[.int .i64 a, .slice L n cl, .slice A m.cs.length c, .slice A' m.mem.length c'] 55
  go_enter Try.func57, Try.ntmps57
  go_wp2_with fail
  refine (markStepS_any base L n cl k xs _ hk1 (hl.alloc _)).mono ?_
  rintro e w1 ⟨rfl, o1, g1⟩
  have O1 : Only [.slice L n cl] _ w1 := Only.of_grown g1 (by simp)
  have M1 := (h.alloc _).only O1 fun x hx b hb => by
    simp only [List.mem_singleton] at hx
    subst hx
    exact hf b hb
  have kb1 := O1.bk _ _ _ kb fun u hu e => by
    simp only [List.mem_singleton] at hu
    subst hu
    have := hl.lt _ e
    omega
  have q2 := kb1.cell 2
  have q3 := kb1.cell 3
  simp at q2 q3
  clear kb kb1
  go_wp2_with fail
  refine (markMachine_any base (k + n * 4) m us A A' c c' w1 hk ht M1).mono ?_
  rintro e w2 ⟨rfl, M2, O2⟩
  go_wp2
  go_ret
  refine ⟨rfl, O2.own _ _ _ _ _ _ o1 fun b hb u hu e => ?_, M2, (Only.of_none (World.grownBy_alloc w _ none)).trans ((O1.more fun u hu => by simp at hu; simp [hu]).trans (O2.more fun u hu => List.mem_cons_of_mem _ hu))⟩
  rcases List.mem_cons.1 hu with rfl | hu
  · exact (hf b hb).2.1 e
  · exact (hf b hb).2.2 u hu e
theorem heldSimResult_marked (B k : Nat) (a : Int) (n : Nat) (m : Mac) (L A A' : Option Addr) (cl c c' : Nat) (w : World) (hk : endMac (k + n * 4) m ≤ 1073741824) (ht : m.cs.length ≤ 1048576) (hB : B ≤ w.heap.size) (hl : RdP w B L (mkP k n)) (h : RdMac w B A A' (mkMac (k + n * 4) m)) :
    Calls Try.prog 58 #[siV a L n cl A m.cs.length c A' m.mem.length c', .int .i64 k] w fun e w' => e = .returned (.int .i64 (endMac (k + n * 4) m : Nat)) ∧ Below w.heap.size w w' := by
  have hk1 : k + n * 4 ≤ 1073741824 := by unfold endMac endT at hk; omega
  go_enter Try.func58, Try.ntmps58
  go_wp2_with fail
  refine (heldStepS_marked B L n cl k _ hk1 (hl.alloc hB _)).mono ?_
  rintro e w1 ⟨rfl, rfl⟩
  go_wp2_with fail
  refine (heldMachine_marked B (k + n * 4) m A A' c c' _ hk ht (by simp; omega) (h.alloc hB _)).mono ?_
  rintro e w2 ⟨rfl, hb⟩
  go_wp2
  go_ret
  exact ⟨rfl, below_alloc hb⟩
end Go.Proofs.Ytifijhfeeammkaa
