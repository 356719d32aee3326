/- Contracts of the exact laws' own helpers on slices of steps: measured, copied, compared. -/
import Derived.Test.YtldepledinolmaaGEv
import Derived.Test.YtldepledinolmaaGMsi
import Derived.StillTailTactics
namespace Go.Proofs.Ytldepledinolmaa
open Go.RowKit

/-- A step as a value: four flat cells. -/
abbrev stV (s : Stp) : Value := .agg #[.int .i64 s.c, .int .i64 s.e.k, .int .i64 s.e.a, .int .i64 s.e.v]
theorem info_step : (Try.prog.info? 102).map (fun i => (i.zero, i.size, i.bytes)) = some (some (.agg #[.int .i64 0, .int .i64 0, .int .i64 0, .int .i64 0]), 4, 32) := by kernel_rfl

theorem toStep_any (s : Stp) (w : World) :
    Calls Try.prog 91 #[stV s] w fun e w' => e = .returned (stV s) ∧ Below w.heap.size w w' := by
  obtain ⟨c, k, a, v⟩ := s
  obtain ⟨V, hV⟩ : ∃ V, V = ((w.alloc (Obj.cells #[.int .i64 c, .int .i64 k, .int .i64 a, .int .i64 v] 135)).alloc (Obj.cells #[.int .i64 0, .int .i64 0, .int .i64 0, .int .i64 0] 102)).alloc (Obj.cells #[.int .i64 0, .int .i64 0, .int .i64 0, .int .i64 0] 102) := ⟨_, rfl⟩
  have b0 : Below w.heap.size w V := by rw [hV]; exact (((Below.refl _ _).alloc (Nat.le_refl _) _).alloc (by simp) _).alloc (by simp; omega) _
  have zV : V.heap.size = w.heap.size + 3 := by rw [hV]; simp
  have k1 : Bk V w.heap.size #[.int .i64 c, .int .i64 k, .int .i64 a, .int .i64 v] 135 := by rw [hV]; exact ((Bk.new _ _ _).alloc _).alloc _
  have k2 : Bk V (w.heap.size + 1) #[.int .i64 0, .int .i64 0, .int .i64 0, .int .i64 0] 102 := by
    have := (Bk.new (w.alloc (Obj.cells #[.int .i64 c, .int .i64 k, .int .i64 a, .int .i64 v] 135)) #[.int .i64 0, .int .i64 0, .int .i64 0, .int .i64 0] 102).alloc (Obj.cells #[.int .i64 0, .int .i64 0, .int .i64 0, .int .i64 0] 102)
    rw [hV]; simpa using this
  have k3 : Bk V (w.heap.size + 2) #[.int .i64 0, .int .i64 0, .int .i64 0, .int .i64 0] 102 := by
    have := Bk.new ((w.alloc (Obj.cells #[.int .i64 c, .int .i64 k, .int .i64 a, .int .i64 v] 135)).alloc (Obj.cells #[.int .i64 0, .int .i64 0, .int .i64 0, .int .i64 0] 102)) #[.int .i64 0, .int .i64 0, .int .i64 0, .int .i64 0] 102
    rw [hV]; simpa using this
  have HV := hide hV
  clear hV
  go_enter Try.func91, Try.ntmps91
  go_wp2
  refine bodyPost_ret (v := stV ⟨c, ⟨k, a, v⟩⟩) (by simp [results, Try.results91, go_sem]) rfl ?_
  exact ⟨rfl, by go_grown⟩

theorem eqStep_same (s : Stp) (w : World) :
    Calls Try.prog 92 #[stV s, stV s] w fun e w' => e = .returned (.bool true) ∧ Below w.heap.size w w' := by
  obtain ⟨c, k, a, v⟩ := s
  go_enter Try.func92, Try.ntmps92
  go_wp2_with fail
  refine (eqEvent_same k a v _).mono ?_
  rintro e w1 ⟨rfl, hb⟩
  go_wp2
  go_ret
  exact ⟨rfl, below_alloc (below_alloc hb)⟩

theorem szStepS_fit (A : Option Addr) (n c m : Nat) (w : World) (hm : n ≤ m) (h : m ≤ 1048576) :
    Calls Try.prog 38 #[.slice A n c, .int .i64 m] w fun e w' => e = .returned (.int .i64 ((m - n : Nat) : Int)) ∧ w = w' := by
  go_enter Try.func38, Try.ntmps38
  go_wp2
  go_ret
  exact ⟨ret_int (by omega), rfl⟩
theorem szStepS_not (A : Option Addr) (n c m : Nat) (w : World) (hm : m < n) (h : m ≤ 1048576) (hn : n ≤ maxLen) :
    Calls Try.prog 38 #[.slice A n c, .int .i64 m] w fun e w' => e = .returned (.int .i64 (-1)) ∧ w = w' := by
  unfold maxLen at hn
  go_enter Try.func38, Try.ntmps38
  go_wp2
  go_ret
  exact ⟨rfl, rfl⟩

def zeroP : Stp := ⟨0, zeroE⟩
theorem stps_zero : ∀ n : Nat, stps (List.replicate n zeroP) = List.replicate (n * 4) (.int .i64 0)
  | 0 => rfl
  | n + 1 => by
    rw [List.replicate_succ, stps, stps_zero n, show (n + 1) * 4 = n * 4 + 1 + 1 + 1 + 1 by omega, List.replicate_succ, List.replicate_succ, List.replicate_succ, List.replicate_succ]
    rfl
theorem made_step (n : Nat) : (madeCells (Value.agg #[.int .i64 0, .int .i64 0, .int .i64 0, .int .i64 0]).cells (n * 4)).toList = List.replicate (n * 4) (Value.int .i64 0) := by
  apply List.ext_getElem
  · simp [madeCells]
  · intro i h1 h2
    simp only [madeCells, Value.cells, Array.getElem_toList, List.getElem_replicate]
    rcases (show i % 4 = 0 ∨ i % 4 = 1 ∨ i % 4 = 2 ∨ i % 4 = 3 by omega) with h | h | h | h <;> simp [h]
/-- After k rounds of a copy: the first k are there, the rest as it was made. -/
def halfP (ss : List Stp) (k : Nat) : List Value := stps (ss.take k ++ List.replicate (ss.length - k) zeroP)
theorem halfP_zero (ss : List Stp) : halfP ss 0 = List.replicate (ss.length * 4) (Value.int .i64 0) := by simp [halfP, stps_zero]
theorem halfP_all (ss : List Stp) : halfP ss ss.length = stps ss := by simp [halfP]
theorem halfP_length (ss : List Stp) (k : Nat) (hk : k ≤ ss.length) : (halfP ss k).length = ss.length * 4 := by
  unfold halfP
  rw [stps_length, List.length_append, List.length_take, List.length_replicate]
  congr 1
  omega
theorem set4 {α : Type} (p s : List α) (a b c d x y z u : α) (n : Nat) (h : p.length = n) : ((((p ++ a :: b :: c :: d :: s).set n x).set (n + 1) y).set (n + 2) z).set (n + 3) u = p ++ x :: y :: z :: u :: s := by
  subst h
  simp
theorem halfP_set (ss : List Stp) (k : Nat) (hk : k < ss.length) : ((((halfP ss k).set (k * 4) (.int .i64 ss[k].c)).set (k * 4 + 1) (.int .i64 ss[k].e.k)).set (k * 4 + 2) (.int .i64 ss[k].e.a)).set (k * 4 + 3) (.int .i64 ss[k].e.v) = halfP ss (k + 1) := by
  unfold halfP
  rw [show ss.length - k = (ss.length - (k + 1)) + 1 by omega, List.replicate_succ, List.take_succ_eq_append_getElem hk, stps_append, stps_append, stps_append]
  simp only [stps]
  rw [set4 _ _ _ _ _ _ _ _ _ _ _ (by rw [stps_length, List.length_take]; omega)]
  simp

set_option maxRecDepth 100000 in
set_option maxHeartbeats 400000 in
theorem eqStepS_same (ss : List Stp) (A A' : Option Addr) (c c' : Nat) (w : World) (hm : ss.length ≤ maxLen) (h : RdP w w.heap.size A ss) (h' : RdP w w.heap.size A' ss) :
    Calls Try.prog 42 #[.slice A ss.length c, .slice A' ss.length c'] w fun e w' => e = .returned (.bool true) ∧ Below w.heap.size w w' := by
  unfold maxLen at hm
  go_enter Try.func42, Try.ntmps42
  go_wp2
  go_loopw [5] (fun i wr => ∃ k : Nat, k ≤ ss.length ∧ i = .int .i64 k ∧ Below w.heap.size w wr) (fun i _ => ss.length - (intOf i).toNat)
  case atStart => exact ⟨0, Nat.zero_le _, rfl, Below.refl _ _⟩
  case round =>
    obtain ⟨k, hk, rfl, hb⟩ := hrel
    by_cases hlt : k < ss.length
    · obtain ⟨b, off, rfl, hbb, hc0, hc1, hc2, hc3⟩ := (h.below hb).get hlt
      obtain ⟨b', off', rfl, hbb', hd0, hd1, hd2, hd3⟩ := (h'.below hb).get hlt
      go_wp2
      go_still_tail 8, (by kernel_rfl)
      change wpList _ _ _ _ _ wr.drew
      generalize hw2 : wr.drew = w2
      have hb2 : Below w.heap.size w w2 := by rw [← hw2]; exact hb.drew
      clear hw2
      go_wp2_with fail
      refine (eqStep_same ss[k] _).mono ?_
      rintro e w3 ⟨rfl, hb3⟩
      have hb4 := hb2.trans (hb3.mono hb2.size)
      go_wp2
      go_roundw
      case rel => exact ⟨k + 1, by omega, by go_num, hb4⟩
      case measure => simp [intOf]; omega
    · go_wp2
      go_ret
      exact ⟨rfl, hb⟩

set_option maxRecDepth 100000 in
set_option maxHeartbeats 400000 in
theorem toStepS_any (ss : List Stp) (A : Option Addr) (c : Nat) (w : World) (hm : ss.length ≤ 1048576) (h : RdP w w.heap.size A ss) :
    Calls Try.prog 40 #[.slice A ss.length c] w fun e w' => ∃ g, e = .returned (.slice (some ⟨g, 0, none⟩) ss.length ss.length) ∧ w'.ownsRow w.heap.size 102 4 (.slice (some ⟨g, 0, none⟩) ss.length ss.length) ss.length (stps ss) ∧ Below w.heap.size w w' := by
  obtain ⟨i0, hi, hz0, hz1, hz2⟩ := info_parts info_step
  go_enter Try.func40, Try.ntmps40
  go_wp2_with (at_make; refine wpList_make_full _ rfl _ _ 24 rfl w.heap.size 102 i0 (.agg #[.int .i64 0, .int .i64 0, .int .i64 0, .int .i64 0]) 4 Try.underlying24 hi hz0 hz1 .i64 .i64 _ _ ss.length rfl rfl rfl rfl (by rw [hz2]; omega) (by unfold maxLen; omega) (Nat.le_refl _) ?_; intro w1 hown hg)
  rw [made_step, ← halfP_zero] at hown
  have hb1 : Below w.heap.size w w1 := (Below.refl _ _).grown hg (Nat.le_refl _) (by simp)
  clear hg
  go_loopw [4] (fun i wr => ∃ k : Nat, k ≤ ss.length ∧ i = .int .i64 k ∧ wr.ownsRow w.heap.size 102 4 (.slice (some ⟨w.heap.size, 0, none⟩) ss.length ss.length) ss.length (halfP ss k) ∧ Below w.heap.size w wr) (fun i _ => ss.length - (intOf i).toNat)
  case atStart => exact ⟨0, Nat.zero_le _, rfl, hown, hb1⟩
  case round =>
    obtain ⟨k, hk, rfl, ho, hb⟩ := hrel
    by_cases hlt : k < ss.length
    · obtain ⟨b, off, rfl, hbb, hc0, hc1, hc2, hc3⟩ := (h.below hb).get hlt
      go_wp2_with fail
      refine (toStep_any ss[k] _).mono ?_
      rintro e w2 ⟨rfl, hb2⟩
      have hb3 := hb.trans (hb2.mono hb.size)
      have ho2 := own_below ho hb2 (Nat.le_refl _)
      have hlen := halfP_length ss k hk
      have hf0 := ho2.frozenAt (k * 4)
      have hf1 := ho2.frozenAt (k * 4 + 1)
      have hf2 := ho2.frozenAt (k * 4 + 2)
      have hf3 := ho2.frozenAt (k * 4 + 3)
      obtain ⟨v0, hx0⟩ : ∃ v, w2.cell? ⟨w.heap.size, k * 4, none⟩ = some v := by
        rw [ho2.cellAt (k * 4) (by omega)]
        exact ⟨_, List.getElem?_eq_getElem (by omega)⟩
      obtain ⟨v1, hx1⟩ : ∃ v, w2.cell? ⟨w.heap.size, k * 4 + 1, none⟩ = some v := by
        rw [ho2.cellAt (k * 4 + 1) (by omega)]
        exact ⟨_, List.getElem?_eq_getElem (by omega)⟩
      obtain ⟨v2, hx2⟩ : ∃ v, w2.cell? ⟨w.heap.size, k * 4 + 2, none⟩ = some v := by
        rw [ho2.cellAt (k * 4 + 2) (by omega)]
        exact ⟨_, List.getElem?_eq_getElem (by omega)⟩
      obtain ⟨v3, hx3⟩ : ∃ v, w2.cell? ⟨w.heap.size, k * 4 + 3, none⟩ = some v := by
        rw [ho2.cellAt (k * 4 + 3) (by omega)]
        exact ⟨_, List.getElem?_eq_getElem (by omega)⟩
      have HS := hide (((((ho2.stored (k * 4) (.int .i64 ss[k].c)).1.stored (k * 4 + 1) (.int .i64 ss[k].e.k)).1.stored (k * 4 + 2) (.int .i64 ss[k].e.a)).1.stored (k * 4 + 3) (.int .i64 ss[k].e.v)).1)
      clear ho2 ho hlen
      go_wp2
      go_roundw
      case rel =>
        refine ⟨k + 1, by omega, by go_num, ?_, (((hb3.setCell (Nat.le_refl _) _).setCell (Nat.le_refl _) _).setCell (Nat.le_refl _) _).setCell (Nat.le_refl _) _⟩
        rw [← halfP_set ss k hlt]
        exact HS.out
      case measure => simp [intOf]; omega
    · go_wp2
      go_ret
      obtain rfl : k = ss.length := by omega
      rw [halfP_all] at ho
      exact ⟨_, rfl, ho, hb⟩
end Go.Proofs.Ytldepledinolmaa
