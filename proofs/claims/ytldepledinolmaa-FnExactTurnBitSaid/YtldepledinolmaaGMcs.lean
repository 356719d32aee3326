/- Cells of a memory: what a slice of them reads as; the exact laws' own helpers on slices of cells: measured, copied, compared, marked, held. -/
import Derived.Test.YtldepledinolmaaGEv
import Derived.Test.YtldepledinolmaaGMsi
import Derived.StillTailTactics
import Derived.Lib.Hide
namespace Go.Proofs.Ytldepledinolmaa
open Go.RowKit

def cels : List Cel → List Value
  | [] => []
  | s :: r => .int .i64 s.a :: .int .i64 s.v :: cels r
theorem cels_length : ∀ ss : List Cel, (cels ss).length = ss.length * 2
  | [] => rfl
  | s :: r => by simp only [cels, List.length_cons, cels_length r]; omega
theorem cels_append : ∀ (l m : List Cel), cels (l ++ m) = cels l ++ cels m
  | [], _ => rfl
  | s :: r, m => by simp only [cels, List.cons_append, cels_append r m]
theorem cels_get : ∀ (ss : List Cel) (i : Nat) (h : i < ss.length), (cels ss)[i * 2]? = some (.int .i64 ss[i].a) ∧ (cels ss)[i * 2 + 1]? = some (.int .i64 ss[i].v)
  | [], i, h => absurd h (Nat.not_lt_zero _)
  | s :: r, 0, _ => ⟨rfl, rfl⟩
  | s :: r, i + 1, h => by
    have ih := cels_get r i (by simpa using h)
    rw [show (i + 1) * 2 = i * 2 + 1 + 1 by omega]
    simp only [cels, List.getElem?_cons_succ, List.getElem_cons_succ]
    exact ih
theorem cels_one : ∀ (l : List Cel), ∀ u ∈ cels l, u.oneCell' = true
  | [], u, h => by simp [cels] at h
  | x :: r, u, h => by
    simp only [cels, List.mem_cons] at h
    rcases h with rfl | rfl | h
    · rfl
    · rfl
    · exact cels_one r u h
/-- The slice address A leads to the cells ss, in a block below B. -/
def RdC (w : World) (B : Nat) (A : Option Addr) (ss : List Cel) : Prop := RdV w B A (cels ss)
section
variable {w w' : World} {B B' : Nat} {A : Option Addr} {ss : List Cel}
theorem RdC.nil_ : RdC w B A [] := RdV.nil_
theorem RdC.keep (h : RdC w B A ss) (hk : ∀ p : Addr, p.block < B → w'.cell? p = w.cell? p) : RdC w' B A ss := RdV.keep h hk
theorem RdC.more (h : RdC w B A ss) (hB : B ≤ B') : RdC w B' A ss := RdV.more h hB
theorem RdC.below (h : RdC w B A ss) (hb : Below B w w') : RdC w' B A ss := RdV.below h hb
theorem RdC.drew (h : RdC w B A ss) : RdC w.drew B A ss := h
theorem RdC.drewN (h : RdC w B A ss) (n : Nat) : RdC (w.drewN n) B A ss := h
theorem RdC.alloc (h : RdC w B A ss) (hB : B ≤ w.heap.size) (o : Obj) : RdC (w.alloc o) B A ss := RdV.alloc h hB o
theorem RdC.lt (h : RdC w B A ss) : RdC w w.heap.size A ss := RdV.lt h
theorem RdC.of_own {base : Nat} {e : TypeId} {n c : Nat} (h : w.ownsRow base e 2 (.slice A n c) n (cels ss)) : RdC w w.heap.size A ss := RdV.of_own h
theorem RdC.get (h : RdC w B A ss) {i : Nat} (hi : i < ss.length) : ∃ b off, A = some ⟨b, off, none⟩ ∧ b < B ∧ w.cell? ⟨b, off + i * 2, none⟩ = some (.int .i64 ss[i].a) ∧ w.cell? ⟨b, off + i * 2 + 1, none⟩ = some (.int .i64 ss[i].v) := by
  have hl := cels_length ss
  obtain ⟨b, off, e, hb, hc⟩ := h (by omega)
  obtain ⟨g0, g1⟩ := cels_get ss i hi
  have k0 := hc (i * 2) (by omega)
  have k1 := hc (i * 2 + 1) (by omega)
  rw [List.getElem?_eq_getElem (by omega)] at g0 g1
  rw [Option.some.inj g0] at k0
  rw [Option.some.inj g1] at k1
  exact ⟨b, off, e, hb, k0, by rw [Nat.add_assoc]; exact k1⟩
theorem RdC.grown {g : Nat} (h : RdC w g A ss) (hg : w.grownBy w' (some g)) : RdC w' g A ss := RdV.grown h hg
end
theorem RdC.one_new (w : World) (e : Cel) (T : TypeId) : RdC (w.alloc (.cells #[.int .i64 e.a, .int .i64 e.v] T)) (w.heap.size + 1) (some ⟨w.heap.size, 0, none⟩) [e] := fun _ =>
  ⟨w.heap.size, 0, rfl, Nat.lt_succ_self _, fun i hi => by
    rw [Nat.zero_add, (Bk.new w #[.int .i64 e.a, .int .i64 e.v] T).cell i]
    simp only [List.getElem?_toArray]
    exact List.getElem?_eq_getElem hi⟩

/-- A cell as a value. -/
abbrev celV (a v : Int) : Value := .agg #[.int .i64 a, .int .i64 v]
theorem info_cell : (Try.prog.info? 185).map (fun i => (i.zero, i.size, i.bytes)) = some (some (.agg #[.int .i64 0, .int .i64 0]), 2, 16) := by kernel_rfl

def zeroC : Cel := ⟨0, 0⟩
theorem cels_zero : ∀ n : Nat, cels (List.replicate n zeroC) = List.replicate (n * 2) (.int .i64 0)
  | 0 => rfl
  | n + 1 => by
    rw [List.replicate_succ, cels, cels_zero n, show (n + 1) * 2 = n * 2 + 1 + 1 by omega, List.replicate_succ, List.replicate_succ]
    rfl
theorem made_cell (n : Nat) : (madeCells (Value.agg #[.int .i64 0, .int .i64 0]).cells (n * 2)).toList = List.replicate (n * 2) (Value.int .i64 0) := by
  apply List.ext_getElem
  · simp [madeCells]
  · intro i h1 h2
    simp only [madeCells, Value.cells, Array.getElem_toList, List.getElem_replicate]
    rcases (show i % 2 = 0 ∨ i % 2 = 1 by omega) with h | h <;> simp [h]
/-- After k rounds of a copy: the first k are there, the rest as it was made. -/
def halfC (es : List Cel) (k : Nat) : List Value := cels (es.take k ++ List.replicate (es.length - k) zeroC)
theorem halfC_zero (es : List Cel) : halfC es 0 = List.replicate (es.length * 2) (Value.int .i64 0) := by simp [halfC, cels_zero]
theorem halfC_all (es : List Cel) : halfC es es.length = cels es := by simp [halfC]
theorem halfC_length (es : List Cel) (k : Nat) (hk : k ≤ es.length) : (halfC es k).length = es.length * 2 := by
  unfold halfC
  rw [cels_length, List.length_append, List.length_take, List.length_replicate]
  congr 1
  omega
theorem set2 {α : Type} (p s : List α) (a b x y : α) (n : Nat) (h : p.length = n) : ((p ++ a :: b :: s).set n x).set (n + 1) y = p ++ x :: y :: s := by
  subst h
  simp
theorem halfC_set (es : List Cel) (k : Nat) (hk : k < es.length) : ((halfC es k).set (k * 2) (.int .i64 es[k].a)).set (k * 2 + 1) (.int .i64 es[k].v) = halfC es (k + 1) := by
  unfold halfC
  rw [show es.length - k = (es.length - (k + 1)) + 1 by omega, List.replicate_succ, List.take_succ_eq_append_getElem hk, cels_append, cels_append, cels_append]
  simp only [cels]
  rw [set2 _ _ _ _ _ _ _ (by rw [cels_length, List.length_take]; omega)]
  simp

/-- The marks that are laid from k on. -/
def mkC (k n : Nat) : List Cel := (List.range n).map fun i => ⟨((k + i * 2 : Nat) : Int), ((k + i * 2 + 1 : Nat) : Int)⟩
theorem mkC_length (k n : Nat) : (mkC k n).length = n := by simp [mkC]
theorem mkC_succ (k n : Nat) : mkC k (n + 1) = mkC k n ++ [⟨((k + n * 2 : Nat) : Int), ((k + n * 2 + 1 : Nat) : Int)⟩] := by simp [mkC, List.range_succ]
/-- After j rounds of marking. -/
def markedC (xs : List Value) (k j : Nat) : List Value := cels (mkC k j) ++ xs.drop (j * 2)
theorem markedC_zero (xs : List Value) (k : Nat) : markedC xs k 0 = xs := by simp [markedC, mkC, cels]
theorem markedC_all (xs : List Value) (k n : Nat) (h : xs.length = n * 2) : markedC xs k n = cels (mkC k n) := by
  unfold markedC
  rw [List.drop_eq_nil_of_le (by omega), List.append_nil]
theorem markedC_set (xs : List Value) (k j n : Nat) (h : xs.length = n * 2) (hj : j < n) :
    ((markedC xs k j).set (j * 2) (.int .i64 ((k + j * 2 : Nat) : Int))).set (j * 2 + 1) (.int .i64 ((k + j * 2 + 1 : Nat) : Int)) = markedC xs k (j + 1) := by
  unfold markedC
  rw [List.drop_eq_getElem_cons (by omega), List.drop_eq_getElem_cons (by omega)]
  rw [set2 _ _ _ _ _ _ _ (by rw [cels_length, mkC_length]), mkC_succ, cels_append]
  simp only [cels, List.append_assoc, List.cons_append, List.nil_append]
  rw [show (j + 1) * 2 = j * 2 + 1 + 1 by omega]

end Go.Proofs.Ytldepledinolmaa
