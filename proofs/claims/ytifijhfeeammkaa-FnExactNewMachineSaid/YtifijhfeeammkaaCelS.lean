/- Cells of a memory: what a slice of them reads as; the exact laws' own helpers on slices of cells: measured, copied, compared, marked, held. -/
import Derived.Test.YtifijhfeeammkaaGEv
import Derived.Test.YtifijhfeeammkaaMsi
import Derived.StillTailTactics
import Derived.Lib.Hide
namespace Go.Proofs.Ytifijhfeeammkaa
open Go.RowKit

def cels : List Cel → List Value
  | [] => []
  | s :: r => .int .i64 s.a :: .int .i64 s.v :: cels r
theorem cels_length : ∀ ss : List Cel, (cels ss).length = ss.length * 2
  | [] => rfl
  | s :: r => by simp only [cels, List.length_cons, cels_length r]; omega
theorem cels_append : ∀ (l m : List Cel), cels (l ++ m) = cels l ++ cels m
  | [], _ => rfl
  | s :: r, m => by simp only [cels, List.cons_append, cels_append r m]
theorem cels_get : ∀ (ss : List Cel) (i : Nat) (h : i < ss.length), (cels ss)[i * 2]? = some (.int .i64 ss[i].a) ∧ (cels ss)[i * 2 + 1]? = some (.int .i64 ss[i].v)
  | [], i, h => absurd h (Nat.not_lt_zero _)
  | s :: r, 0, _ => ⟨rfl, rfl⟩
  | s :: r, i + 1, h => by
    have ih := cels_get r i (by simpa using h)
    rw [show (i + 1) * 2 = i * 2 + 1 + 1 by omega]
    simp only [cels, List.getElem?_cons_succ, List.getElem_cons_succ]
    exact ih
theorem cels_one : ∀ (l : List Cel), ∀ u ∈ cels l, u.oneCell' = true
  | [], u, h => by simp [cels] at h
  | x :: r, u, h => by
    simp only [cels, List.mem_cons] at h
    rcases h with rfl | rfl | h
    · rfl
    · rfl
    · exact cels_one r u h
/-- The slice address A leads to the cells ss, in a block below B. -/
def RdC (w : World) (B : Nat) (A : Option Addr) (ss : List Cel) : Prop := RdV w B A (cels ss)
section
variable {w w' : World} {B B' : Nat} {A : Option Addr} {ss : List Cel}
theorem RdC.nil_ : RdC w B A [] := RdV.nil_
theorem RdC.keep (h : RdC w B A ss) (hk : ∀ p : Addr, p.block < B → w'.cell? p = w.cell? p) : RdC w' B A ss := RdV.keep h hk
theorem RdC.more (h : RdC w B A ss) (hB : B ≤ B') : RdC w B' A ss := RdV.more h hB
theorem RdC.below (h : RdC w B A ss) (hb : Below B w w') : RdC w' B A ss := RdV.below h hb
theorem RdC.drew (h : RdC w B A ss) : RdC w.drew B A ss := h
theorem RdC.drewN (h : RdC w B A ss) (n : Nat) : RdC (w.drewN n) B A ss := h
theorem RdC.alloc (h : RdC w B A ss) (hB : B ≤ w.heap.size) (o : Obj) : RdC (w.alloc o) B A ss := RdV.alloc h hB o
theorem RdC.lt (h : RdC w B A ss) : RdC w w.heap.size A ss := RdV.lt h
theorem RdC.of_own {base : Nat} {e : TypeId} {n c : Nat} (h : w.ownsRow base e 2 (.slice A n c) n (cels ss)) : RdC w w.heap.size A ss := RdV.of_own h
theorem RdC.get (h : RdC w B A ss) {i : Nat} (hi : i < ss.length) : ∃ b off, A = some ⟨b, off, none⟩ ∧ b < B ∧ w.cell? ⟨b, off + i * 2, none⟩ = some (.int .i64 ss[i].a) ∧ w.cell? ⟨b, off + i * 2 + 1, none⟩ = some (.int .i64 ss[i].v) := by
  have hl := cels_length ss
  obtain ⟨b, off, e, hb, hc⟩ := h (by omega)
  obtain ⟨g0, g1⟩ := cels_get ss i hi
  have k0 := hc (i * 2) (by omega)
  have k1 := hc (i * 2 + 1) (by omega)
  rw [List.getElem?_eq_getElem (by omega)] at g0 g1
  rw [Option.some.inj g0] at k0
  rw [Option.some.inj g1] at k1
  exact ⟨b, off, e, hb, k0, by rw [Nat.add_assoc]; exact k1⟩
theorem RdC.grown {g : Nat} (h : RdC w g A ss) (hg : w.grownBy w' (some g)) : RdC w' g A ss := RdV.grown h hg
end
theorem RdC.one_new (w : World) (e : Cel) (T : TypeId) : RdC (w.alloc (.cells #[.int .i64 e.a, .int .i64 e.v] T)) (w.heap.size + 1) (some ⟨w.heap.size, 0, none⟩) [e] := fun _ =>
  ⟨w.heap.size, 0, rfl, Nat.lt_succ_self _, fun i hi => by
    rw [Nat.zero_add, (Bk.new w #[.int .i64 e.a, .int .i64 e.v] T).cell i]
    simp only [List.getElem?_toArray]
    exact List.getElem?_eq_getElem hi⟩

/-- A cell as a value. -/
abbrev celV (a v : Int) : Value := .agg #[.int .i64 a, .int .i64 v]
theorem toCell_any (a v : Int) (w : World) :
    Calls Try.prog 133 #[celV a v] w fun e w' => e = .returned (celV a v) ∧ Below w.heap.size w w' := by
  go_enter Try.func133, Try.ntmps133
  go_wp2
  refine bodyPost_ret (v := celV a v) (by simp [results, Try.results133, go_sem]) rfl ?_
  exact ⟨rfl, by go_grown⟩
theorem eqCell_same (a v : Int) (w : World) :
    Calls Try.prog 135 #[celV a v, celV a v] w fun e w' => e = .returned (.bool true) ∧ Below w.heap.size w w' := by
  go_enter Try.func135, Try.ntmps135
  go_wp2
  go_ret
  exact ⟨rfl, by go_grown⟩
theorem info_cell : (Try.prog.info? 120).map (fun i => (i.zero, i.size, i.bytes)) = some (some (.agg #[.int .i64 0, .int .i64 0]), 2, 16) := by kernel_rfl

theorem szCellS_fit (A : Option Addr) (n c m : Nat) (w : World) (hm : n ≤ m) (h : m ≤ 1048576) :
    Calls Try.prog 101 #[.slice A n c, .int .i64 m] w fun e w' => e = .returned (.int .i64 ((m - n : Nat) : Int)) ∧ w = w' := by
  go_enter Try.func101, Try.ntmps101
  go_wp2
  go_ret
  exact ⟨ret_int (by omega), rfl⟩
theorem szCellS_not (A : Option Addr) (n c m : Nat) (w : World) (hm : m < n) (h : m ≤ 1048576) (hn : n ≤ maxLen) :
    Calls Try.prog 101 #[.slice A n c, .int .i64 m] w fun e w' => e = .returned (.int .i64 (-1)) ∧ w = w' := by
  unfold maxLen at hn
  go_enter Try.func101, Try.ntmps101
  go_wp2
  go_ret
  exact ⟨rfl, rfl⟩

def zeroC : Cel := ⟨0, 0⟩
theorem cels_zero : ∀ n : Nat, cels (List.replicate n zeroC) = List.replicate (n * 2) (.int .i64 0)
  | 0 => rfl
  | n + 1 => by
    rw [List.replicate_succ, cels, cels_zero n, show (n + 1) * 2 = n * 2 + 1 + 1 by omega, List.replicate_succ, List.replicate_succ]
    rfl
theorem made_cell (n : Nat) : (madeCells (Value.agg #[.int .i64 0, .int .i64 0]).cells (n * 2)).toList = List.replicate (n * 2) (Value.int .i64 0) := by
  apply List.ext_getElem
  · simp [madeCells]
  · intro i h1 h2
    simp only [madeCells, Value.cells, Array.getElem_toList, List.getElem_replicate]
    rcases (show i % 2 = 0 ∨ i % 2 = 1 by omega) with h | h <;> simp [h]
/-- After k rounds of a copy: the first k are there, the rest as it was made. -/
def halfC (es : List Cel) (k : Nat) : List Value := cels (es.take k ++ List.replicate (es.length - k) zeroC)
theorem halfC_zero (es : List Cel) : halfC es 0 = List.replicate (es.length * 2) (Value.int .i64 0) := by simp [halfC, cels_zero]
theorem halfC_all (es : List Cel) : halfC es es.length = cels es := by simp [halfC]
theorem halfC_length (es : List Cel) (k : Nat) (hk : k ≤ es.length) : (halfC es k).length = es.length * 2 := by
  unfold halfC
  rw [cels_length, List.length_append, List.length_take, List.length_replicate]
  congr 1
  omega
theorem set2 {α : Type} (p s : List α) (a b x y : α) (n : Nat) (h : p.length = n) : ((p ++ a :: b :: s).set n x).set (n + 1) y = p ++ x :: y :: s := by
  subst h
  simp
theorem halfC_set (es : List Cel) (k : Nat) (hk : k < es.length) : ((halfC es k).set (k * 2) (.int .i64 es[k].a)).set (k * 2 + 1) (.int .i64 es[k].v) = halfC es (k + 1) := by
  unfold halfC
  rw [show es.length - k = (es.length - (k + 1)) + 1 by omega, List.replicate_succ, List.take_succ_eq_append_getElem hk, cels_append, cels_append, cels_append]
  simp only [cels]
  rw [set2 _ _ _ _ _ _ _ (by rw [cels_length, List.length_take]; omega)]
  simp

set_option maxRecDepth 100000 in
set_option maxHeartbeats 400000 in
theorem eqCellS_same (es : List Cel) (A A' : Option Addr) (c c' : Nat) (w : World) (hm : es.length ≤ maxLen) (h : RdC w w.heap.size A es) (h' : RdC w w.heap.size A' es) :
    Calls Try.prog 105 #[.slice A es.length c, .slice A' es.length c'] w fun e w' => e = .returned (.bool true) ∧ Below w.heap.size w w' := by
  unfold maxLen at hm
  go_enter Try.func105, Try.ntmps105
  go_wp2
  go_loopw [5] (fun i wr => ∃ k : Nat, k ≤ es.length ∧ i = .int .i64 k ∧ Below w.heap.size w wr) (fun i _ => es.length - (intOf i).toNat)
  case atStart => exact ⟨0, Nat.zero_le _, rfl, Below.refl _ _⟩
  case round =>
    obtain ⟨k, hk, rfl, hb⟩ := hrel
    by_cases hlt : k < es.length
    · obtain ⟨b, off, rfl, hbb, hc0, hc1⟩ := (h.below hb).get hlt
      obtain ⟨b', off', rfl, hbb', hd0, hd1⟩ := (h'.below hb).get hlt
      go_wp2
      go_still_tail 8, (by kernel_rfl)
      change wpList _ _ _ _ _ wr.drew
      generalize hw2 : wr.drew = w2
      have hb2 : Below w.heap.size w w2 := by rw [← hw2]; exact hb.drew
      clear hw2
      go_wp2_with fail
      refine (eqCell_same _ _ _).mono ?_
      rintro e w3 ⟨rfl, hb3⟩
      have hb4 := hb2.trans (hb3.mono hb2.size)
      go_wp2
      go_roundw
      case rel => exact ⟨k + 1, by omega, by go_num, hb4⟩
      case measure => simp [intOf]; omega
    · go_wp2
      go_ret
      exact ⟨rfl, hb⟩

set_option maxRecDepth 100000 in
set_option maxHeartbeats 400000 in
theorem toCellS_any (es : List Cel) (A : Option Addr) (c : Nat) (w : World) (hm : es.length ≤ 1048576) (h : RdC w w.heap.size A es) :
    Calls Try.prog 103 #[.slice A es.length c] w fun e w' => ∃ g, e = .returned (.slice (some ⟨g, 0, none⟩) es.length es.length) ∧ w'.ownsRow w.heap.size 120 2 (.slice (some ⟨g, 0, none⟩) es.length es.length) es.length (cels es) ∧ Below w.heap.size w w' := by
  obtain ⟨i0, hi, hz0, hz1, hz2⟩ := info_parts info_cell
  go_enter Try.func103, Try.ntmps103
  go_wp2_with (at_make; refine wpList_make_full _ rfl _ _ 25 rfl w.heap.size 120 i0 (.agg #[.int .i64 0, .int .i64 0]) 2 Try.underlying25 hi hz0 hz1 .i64 .i64 _ _ es.length rfl rfl rfl rfl (by rw [hz2]; omega) (by unfold maxLen; omega) (Nat.le_refl _) ?_; intro w1 hown hg)
  rw [made_cell, ← halfC_zero] at hown
  have hb1 : Below w.heap.size w w1 := (Below.refl _ _).grown hg (Nat.le_refl _) (by simp)
  clear hg
  go_loopw [4] (fun i wr => ∃ k : Nat, k ≤ es.length ∧ i = .int .i64 k ∧ wr.ownsRow w.heap.size 120 2 (.slice (some ⟨w.heap.size, 0, none⟩) es.length es.length) es.length (halfC es k) ∧ Below w.heap.size w wr) (fun i _ => es.length - (intOf i).toNat)
  case atStart => exact ⟨0, Nat.zero_le _, rfl, hown, hb1⟩
  case round =>
    obtain ⟨k, hk, rfl, ho, hb⟩ := hrel
    by_cases hlt : k < es.length
    · obtain ⟨b, off, rfl, hbb, hc0, hc1⟩ := (h.below hb).get hlt
      go_wp2_with fail
      refine (toCell_any _ _ _).mono ?_
      rintro e w2 ⟨rfl, hb2⟩
      have hb3 := hb.trans (hb2.mono hb.size)
      have ho2 := own_below ho hb2 (Nat.le_refl _)
      have hlen := halfC_length es k hk
      have hf0 := ho2.frozenAt (k * 2)
      have hf1 := ho2.frozenAt (k * 2 + 1)
      obtain ⟨v0, hx0⟩ : ∃ v, w2.cell? ⟨w.heap.size, k * 2, none⟩ = some v := by
        rw [ho2.cellAt (k * 2) (by omega)]
        exact ⟨_, List.getElem?_eq_getElem (by omega)⟩
      obtain ⟨v1, hx1⟩ : ∃ v, w2.cell? ⟨w.heap.size, k * 2 + 1, none⟩ = some v := by
        rw [ho2.cellAt (k * 2 + 1) (by omega)]
        exact ⟨_, List.getElem?_eq_getElem (by omega)⟩
      have HS := hide (((ho2.stored (k * 2) (.int .i64 es[k].a)).1.stored (k * 2 + 1) (.int .i64 es[k].v)).1)
      clear ho2 ho hlen
      go_wp2
      go_roundw
      case rel =>
        refine ⟨k + 1, by omega, by go_num, ?_, (hb3.setCell (Nat.le_refl _) _).setCell (Nat.le_refl _) _⟩
        rw [← halfC_set es k hlt]
        exact HS.out
      case measure => simp [intOf]; omega
    · go_wp2
      go_ret
      obtain rfl : k = es.length := by omega
      rw [halfC_all] at ho
      exact ⟨_, rfl, ho, hb⟩

/-- The marks that are laid from k on. -/
def mkC (k n : Nat) : List Cel := (List.range n).map fun i => ⟨((k + i * 2 : Nat) : Int), ((k + i * 2 + 1 : Nat) : Int)⟩
theorem mkC_length (k n : Nat) : (mkC k n).length = n := by simp [mkC]
theorem mkC_succ (k n : Nat) : mkC k (n + 1) = mkC k n ++ [⟨((k + n * 2 : Nat) : Int), ((k + n * 2 + 1 : Nat) : Int)⟩] := by simp [mkC, List.range_succ]
/-- After j rounds of marking. -/
def markedC (xs : List Value) (k j : Nat) : List Value := cels (mkC k j) ++ xs.drop (j * 2)
theorem markedC_zero (xs : List Value) (k : Nat) : markedC xs k 0 = xs := by simp [markedC, mkC, cels]
theorem markedC_all (xs : List Value) (k n : Nat) (h : xs.length = n * 2) : markedC xs k n = cels (mkC k n) := by
  unfold markedC
  rw [List.drop_eq_nil_of_le (by omega), List.append_nil]
theorem markedC_set (xs : List Value) (k j n : Nat) (h : xs.length = n * 2) (hj : j < n) :
    ((markedC xs k j).set (j * 2) (.int .i64 ((k + j * 2 : Nat) : Int))).set (j * 2 + 1) (.int .i64 ((k + j * 2 + 1 : Nat) : Int)) = markedC xs k (j + 1) := by
  unfold markedC
  rw [List.drop_eq_getElem_cons (by omega), List.drop_eq_getElem_cons (by omega)]
  rw [set2 _ _ _ _ _ _ _ (by rw [cels_length, mkC_length]), mkC_succ, cels_append]
  simp only [cels, List.append_assoc, List.cons_append, List.nil_append]
  rw [show (j + 1) * 2 = j * 2 + 1 + 1 by omega]

set_option maxRecDepth 100000 in
set_option maxHeartbeats 800000 in
theorem markCellS_any (base : Nat) (A : Option Addr) (n c k : Nat) (xs : List Value) (w : World) (hk : k + n * 2 ≤ 1073741824) (h : w.ownsRow base 120 2 (.slice A n c) n xs) :
    Calls Try.prog 108 #[.slice A n c, .int .i64 k] w fun e w' => e = .returned (.int .i64 ((k + n * 2 : Nat) : Int)) ∧ w'.ownsRow base 120 2 (.slice A n c) n (cels (mkC k n)) ∧ w.grownBy w' (Value.slice A n c).ownBlock := by
  have hl : xs.length = n * 2 := h.1
  go_enter Try.func108, Try.ntmps108
  go_wp2
  go_loopw [1, 5] (fun q i wr => ∃ j : Nat, j ≤ n ∧ i = .int .i64 j ∧ q = .int .i64 ((k + j * 2 : Nat) : Int) ∧ wr.ownsRow base 120 2 (.slice A n c) n (markedC xs k j) ∧ w.grownBy wr (Value.slice A n c).ownBlock) (fun _ i _ => n - (intOf i).toNat)
  case atStart => exact ⟨0, Nat.zero_le _, rfl, rfl, by rw [markedC_zero]; exact h, ⟨rfl, rfl, rfl, Nat.le_refl _, fun _ _ _ => rfl⟩⟩
  case round =>
    obtain ⟨j, hj, rfl, rfl, ho, hg⟩ := hrel
    by_cases hlt : j < n
    · obtain ⟨g, rfl⟩ : ∃ g, A = some ⟨g, 0, none⟩ := by
        rcases ho.2 with ⟨h', h''⟩ | ⟨g, cap, cur, h', _⟩
        · omega
        · simp only [Value.slice.injEq, true_and] at h'
          exact ⟨g, h'.1⟩
      have hlen := ho.1
      have hf0 := ho.frozenAt (j * 2)
      have hf1 := ho.frozenAt (j * 2 + 1)
      obtain ⟨v0, hx0⟩ : ∃ v, wr.cell? ⟨g, j * 2, none⟩ = some v := by
        rw [ho.cellAt (j * 2) (by omega)]
        exact ⟨_, List.getElem?_eq_getElem (by omega)⟩
      obtain ⟨v1, hx1⟩ : ∃ v, wr.cell? ⟨g, j * 2 + 1, none⟩ = some v := by
        rw [ho.cellAt (j * 2 + 1) (by omega)]
        exact ⟨_, List.getElem?_eq_getElem (by omega)⟩
      have h1 := ho.stored (j * 2) (.int .i64 ((k : Int) + (j : Int) * 2))
      have h2 := h1.1.stored (j * 2 + 1) (.int .i64 ((k : Int) + (j : Int) * 2 + 1))
      have HS := hide h2.1
      have HG := hide (h1.2.trans h2.2)
      have hM := markedC_set xs k j n hl hlt
      rw [show ((k + j * 2 : Nat) : Int) = (k : Int) + (j : Int) * 2 by omega, show ((k + j * 2 + 1 : Nat) : Int) = (k : Int) + (j : Int) * 2 + 1 by omega] at hM
      have HM := hide hM
      clear h1 h2 hlen ho hM
      go_wp2
      go_roundw
      case rel => exact ⟨j + 1, by omega, by go_num, by go_num, by rw [← HM.out]; exact HS.out, hg.trans HG.out⟩
      case measure => simp [intOf]; omega
    · go_wp2
      go_ret
      obtain rfl : j = n := by omega
      refine ⟨rfl, ?_, hg⟩
      rw [← markedC_all xs k j hl]
      exact ho

set_option maxRecDepth 100000 in
set_option maxHeartbeats 800000 in
theorem heldCellS_marked (B : Nat) (A : Option Addr) (n c k : Nat) (w : World) (hk : k + n * 2 ≤ 1073741824) (h : RdC w B A (mkC k n)) :
    Calls Try.prog 137 #[.slice A n c, .int .i64 k] w fun e w' => e = .returned (.int .i64 ((k + n * 2 : Nat) : Int)) ∧ w = w' := by
  go_enter Try.func137, Try.ntmps137
  go_wp2
  go_loop [1, 5] (fun q i => ∃ j : Nat, j ≤ n ∧ i = .int .i64 j ∧ q = .int .i64 ((k : Int) + (j : Int) * 2)) (fun _ i => n - (intOf i).toNat)
  case atStart => exact ⟨0, Nat.zero_le _, rfl, by go_num⟩
  case round =>
    obtain ⟨j, hj, rfl, rfl⟩ := hrel
    by_cases hlt : j < n
    · obtain ⟨b, off, rfl, _, hc0, hc1⟩ := h.get (i := j) (by rw [mkC_length]; exact hlt)
      simp only [mkC, List.getElem_map, List.getElem_range] at hc0 hc1
      rw [show ((k + j * 2 : Nat) : Int) = (k : Int) + (j : Int) * 2 by omega] at hc0
      rw [show ((k + j * 2 + 1 : Nat) : Int) = (k : Int) + (j : Int) * 2 + 1 by omega] at hc1
      go_wp2
      go_round
      case rel => exact ⟨j + 1, by omega, by go_num, by go_num⟩
      case measure => simp [intOf]; omega
    · go_wp2
      go_ret
      obtain rfl : j = n := by omega
      exact ⟨ret_int (by omega), rfl⟩
end Go.Proofs.Ytifijhfeeammkaa
