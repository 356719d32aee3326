/- Contracts of the exact laws' own helpers on slices of steps: measured, copied, compared. Contracts of the laws' helpers on slices of numbers: copied, compared, marked, held. Contracts of LogFault, in the program and in its model. The contract of the program's LogFault. The contract of the model's LogFault. Contracts of PicksOf, in the program and in its model. -/
import Derived.Test.YtnnfkmjhaljplaaGEv
import Derived.Test.YtnnfkmjhaljplaaGMsi
import Derived.StillTailTactics
import Derived.Test.YtnnfkmjhaljplaaGApp
import Derived.Test.YtnnfkmjhaljplaaGHeld
import Derived.OneCell
namespace Go.Proofs.Ytnnfkmjhaljplaa
open Go.RowKit

/-- A step as a value: four flat cells. -/
abbrev stV (s : Stp) : Value := .agg #[.int .i64 s.c, .int .i64 s.e.k, .int .i64 s.e.a, .int .i64 s.e.v]
theorem info_step : (Try.prog.info? 85).map (fun i => (i.zero, i.size, i.bytes)) = some (some (.agg #[.int .i64 0, .int .i64 0, .int .i64 0, .int .i64 0]), 4, 32) := by kernel_rfl

theorem toStep_any (s : Stp) (w : World) :
    Calls Try.prog 100 #[stV s] w fun e w' => e = .returned (stV s) ∧ Below w.heap.size w w' := by
  obtain ⟨c, k, a, v⟩ := s
  obtain ⟨V, hV⟩ : ∃ V, V = ((w.alloc (Obj.cells #[.int .i64 c, .int .i64 k, .int .i64 a, .int .i64 v] 158)).alloc (Obj.cells #[.int .i64 0, .int .i64 0, .int .i64 0, .int .i64 0] 85)).alloc (Obj.cells #[.int .i64 0, .int .i64 0, .int .i64 0, .int .i64 0] 85) := ⟨_, rfl⟩
  have b0 : Below w.heap.size w V := by rw [hV]; exact (((Below.refl _ _).alloc (Nat.le_refl _) _).alloc (by simp) _).alloc (by simp; omega) _
  have zV : V.heap.size = w.heap.size + 3 := by rw [hV]; simp
  have k1 : Bk V w.heap.size #[.int .i64 c, .int .i64 k, .int .i64 a, .int .i64 v] 158 := by rw [hV]; exact ((Bk.new _ _ _).alloc _).alloc _
  have k2 : Bk V (w.heap.size + 1) #[.int .i64 0, .int .i64 0, .int .i64 0, .int .i64 0] 85 := by
    have := (Bk.new (w.alloc (Obj.cells #[.int .i64 c, .int .i64 k, .int .i64 a, .int .i64 v] 158)) #[.int .i64 0, .int .i64 0, .int .i64 0, .int .i64 0] 85).alloc (Obj.cells #[.int .i64 0, .int .i64 0, .int .i64 0, .int .i64 0] 85)
    rw [hV]; simpa using this
  have k3 : Bk V (w.heap.size + 2) #[.int .i64 0, .int .i64 0, .int .i64 0, .int .i64 0] 85 := by
    have := Bk.new ((w.alloc (Obj.cells #[.int .i64 c, .int .i64 k, .int .i64 a, .int .i64 v] 158)).alloc (Obj.cells #[.int .i64 0, .int .i64 0, .int .i64 0, .int .i64 0] 85)) #[.int .i64 0, .int .i64 0, .int .i64 0, .int .i64 0] 85
    rw [hV]; simpa using this
  have HV := hide hV
  clear hV
  go_enter Try.func100, Try.ntmps100
  go_wp2
  refine bodyPost_ret (v := stV ⟨c, ⟨k, a, v⟩⟩) (by simp [results, Try.results100, go_sem]) rfl ?_
  exact ⟨rfl, by go_grown⟩

theorem eqStep_same (s : Stp) (w : World) :
    Calls Try.prog 104 #[stV s, stV s] w fun e w' => e = .returned (.bool true) ∧ Below w.heap.size w w' := by
  obtain ⟨c, k, a, v⟩ := s
  go_enter Try.func104, Try.ntmps104
  go_wp2_with fail
  refine (eqEvent_same k a v _).mono ?_
  rintro e w1 ⟨rfl, hb⟩
  go_wp2
  go_ret
  exact ⟨rfl, below_alloc (below_alloc hb)⟩

theorem szStepS_fit (A : Option Addr) (n c m : Nat) (w : World) (hm : n ≤ m) (h : m ≤ 1048576) :
    Calls Try.prog 59 #[.slice A n c, .int .i64 m] w fun e w' => e = .returned (.int .i64 ((m - n : Nat) : Int)) ∧ w = w' := by
  go_enter Try.func59, Try.ntmps59
  go_wp2
  go_ret
  exact ⟨ret_int (by omega), rfl⟩
theorem szStepS_not (A : Option Addr) (n c m : Nat) (w : World) (hm : m < n) (h : m ≤ 1048576) (hn : n ≤ maxLen) :
    Calls Try.prog 59 #[.slice A n c, .int .i64 m] w fun e w' => e = .returned (.int .i64 (-1)) ∧ w = w' := by
  unfold maxLen at hn
  go_enter Try.func59, Try.ntmps59
  go_wp2
  go_ret
  exact ⟨rfl, rfl⟩

def zeroP : Stp := ⟨0, zeroE⟩
theorem stps_zero : ∀ n : Nat, stps (List.replicate n zeroP) = List.replicate (n * 4) (.int .i64 0)
  | 0 => rfl
  | n + 1 => by
    rw [List.replicate_succ, stps, stps_zero n, show (n + 1) * 4 = n * 4 + 1 + 1 + 1 + 1 by omega, List.replicate_succ, List.replicate_succ, List.replicate_succ, List.replicate_succ]
    rfl
theorem made_step (n : Nat) : (madeCells (Value.agg #[.int .i64 0, .int .i64 0, .int .i64 0, .int .i64 0]).cells (n * 4)).toList = List.replicate (n * 4) (Value.int .i64 0) := by
  apply List.ext_getElem
  · simp [madeCells]
  · intro i h1 h2
    simp only [madeCells, Value.cells, Array.getElem_toList, List.getElem_replicate]
    rcases (show i % 4 = 0 ∨ i % 4 = 1 ∨ i % 4 = 2 ∨ i % 4 = 3 by omega) with h | h | h | h <;> simp [h]
/-- After k rounds of a copy: the first k are there, the rest as it was made. -/
def halfP (ss : List Stp) (k : Nat) : List Value := stps (ss.take k ++ List.replicate (ss.length - k) zeroP)
theorem halfP_zero (ss : List Stp) : halfP ss 0 = List.replicate (ss.length * 4) (Value.int .i64 0) := by simp [halfP, stps_zero]
theorem halfP_all (ss : List Stp) : halfP ss ss.length = stps ss := by simp [halfP]
theorem halfP_length (ss : List Stp) (k : Nat) (hk : k ≤ ss.length) : (halfP ss k).length = ss.length * 4 := by
  unfold halfP
  rw [stps_length, List.length_append, List.length_take, List.length_replicate]
  congr 1
  omega
theorem set4 {α : Type} (p s : List α) (a b c d x y z u : α) (n : Nat) (h : p.length = n) : ((((p ++ a :: b :: c :: d :: s).set n x).set (n + 1) y).set (n + 2) z).set (n + 3) u = p ++ x :: y :: z :: u :: s := by
  subst h
  simp
theorem halfP_set (ss : List Stp) (k : Nat) (hk : k < ss.length) : ((((halfP ss k).set (k * 4) (.int .i64 ss[k].c)).set (k * 4 + 1) (.int .i64 ss[k].e.k)).set (k * 4 + 2) (.int .i64 ss[k].e.a)).set (k * 4 + 3) (.int .i64 ss[k].e.v) = halfP ss (k + 1) := by
  unfold halfP
  rw [show ss.length - k = (ss.length - (k + 1)) + 1 by omega, List.replicate_succ, List.take_succ_eq_append_getElem hk, stps_append, stps_append, stps_append]
  simp only [stps]
  rw [set4 _ _ _ _ _ _ _ _ _ _ _ (by rw [stps_length, List.length_take]; omega)]
  simp

set_option maxRecDepth 100000 in
set_option maxHeartbeats 400000 in
theorem eqStepS_same (ss : List Stp) (A A' : Option Addr) (c c' : Nat) (w : World) (hm : ss.length ≤ maxLen) (h : RdP w w.heap.size A ss) (h' : RdP w w.heap.size A' ss) :
    Calls Try.prog 71 #[.slice A ss.length c, .slice A' ss.length c'] w fun e w' => e = .returned (.bool true) ∧ Below w.heap.size w w' := by
  unfold maxLen at hm
  go_enter Try.func71, Try.ntmps71
  go_wp2
  go_loopw [5] (fun i wr => ∃ k : Nat, k ≤ ss.length ∧ i = .int .i64 k ∧ Below w.heap.size w wr) (fun i _ => ss.length - (intOf i).toNat)
  case atStart => exact ⟨0, Nat.zero_le _, rfl, Below.refl _ _⟩
  case round =>
    obtain ⟨k, hk, rfl, hb⟩ := hrel
    by_cases hlt : k < ss.length
    · obtain ⟨b, off, rfl, hbb, hc0, hc1, hc2, hc3⟩ := (h.below hb).get hlt
      obtain ⟨b', off', rfl, hbb', hd0, hd1, hd2, hd3⟩ := (h'.below hb).get hlt
      go_wp2
      go_still_tail 8, (by kernel_rfl)
      change wpList _ _ _ _ _ wr.drew
      generalize hw2 : wr.drew = w2
      have hb2 : Below w.heap.size w w2 := by rw [← hw2]; exact hb.drew
      clear hw2
      go_wp2_with fail
      refine (eqStep_same ss[k] _).mono ?_
      rintro e w3 ⟨rfl, hb3⟩
      have hb4 := hb2.trans (hb3.mono hb2.size)
      go_wp2
      go_roundw
      case rel => exact ⟨k + 1, by omega, by go_num, hb4⟩
      case measure => simp [intOf]; omega
    · go_wp2
      go_ret
      exact ⟨rfl, hb⟩

set_option maxRecDepth 100000 in
set_option maxHeartbeats 400000 in
theorem toStepS_any (ss : List Stp) (A : Option Addr) (c : Nat) (w : World) (hm : ss.length ≤ 1048576) (h : RdP w w.heap.size A ss) :
    Calls Try.prog 64 #[.slice A ss.length c] w fun e w' => ∃ g, e = .returned (.slice (some ⟨g, 0, none⟩) ss.length ss.length) ∧ w'.ownsRow w.heap.size 85 4 (.slice (some ⟨g, 0, none⟩) ss.length ss.length) ss.length (stps ss) ∧ Below w.heap.size w w' := by
  obtain ⟨i0, hi, hz0, hz1, hz2⟩ := info_parts info_step
  go_enter Try.func64, Try.ntmps64
  go_wp2_with (at_make; refine wpList_make_full _ rfl _ _ 24 rfl w.heap.size 85 i0 (.agg #[.int .i64 0, .int .i64 0, .int .i64 0, .int .i64 0]) 4 Try.underlying24 hi hz0 hz1 .i64 .i64 _ _ ss.length rfl rfl rfl rfl (by rw [hz2]; omega) (by unfold maxLen; omega) (Nat.le_refl _) ?_; intro w1 hown hg)
  rw [made_step, ← halfP_zero] at hown
  have hb1 : Below w.heap.size w w1 := (Below.refl _ _).grown hg (Nat.le_refl _) (by simp)
  clear hg
  go_loopw [4] (fun i wr => ∃ k : Nat, k ≤ ss.length ∧ i = .int .i64 k ∧ wr.ownsRow w.heap.size 85 4 (.slice (some ⟨w.heap.size, 0, none⟩) ss.length ss.length) ss.length (halfP ss k) ∧ Below w.heap.size w wr) (fun i _ => ss.length - (intOf i).toNat)
  case atStart => exact ⟨0, Nat.zero_le _, rfl, hown, hb1⟩
  case round =>
    obtain ⟨k, hk, rfl, ho, hb⟩ := hrel
    by_cases hlt : k < ss.length
    · obtain ⟨b, off, rfl, hbb, hc0, hc1, hc2, hc3⟩ := (h.below hb).get hlt
      go_wp2_with fail
      refine (toStep_any ss[k] _).mono ?_
      rintro e w2 ⟨rfl, hb2⟩
      have hb3 := hb.trans (hb2.mono hb.size)
      have ho2 := own_below ho hb2 (Nat.le_refl _)
      have hlen := halfP_length ss k hk
      have hf0 := ho2.frozenAt (k * 4)
      have hf1 := ho2.frozenAt (k * 4 + 1)
      have hf2 := ho2.frozenAt (k * 4 + 2)
      have hf3 := ho2.frozenAt (k * 4 + 3)
      obtain ⟨v0, hx0⟩ : ∃ v, w2.cell? ⟨w.heap.size, k * 4, none⟩ = some v := by
        rw [ho2.cellAt (k * 4) (by omega)]
        exact ⟨_, List.getElem?_eq_getElem (by omega)⟩
      obtain ⟨v1, hx1⟩ : ∃ v, w2.cell? ⟨w.heap.size, k * 4 + 1, none⟩ = some v := by
        rw [ho2.cellAt (k * 4 + 1) (by omega)]
        exact ⟨_, List.getElem?_eq_getElem (by omega)⟩
      obtain ⟨v2, hx2⟩ : ∃ v, w2.cell? ⟨w.heap.size, k * 4 + 2, none⟩ = some v := by
        rw [ho2.cellAt (k * 4 + 2) (by omega)]
        exact ⟨_, List.getElem?_eq_getElem (by omega)⟩
      obtain ⟨v3, hx3⟩ : ∃ v, w2.cell? ⟨w.heap.size, k * 4 + 3, none⟩ = some v := by
        rw [ho2.cellAt (k * 4 + 3) (by omega)]
        exact ⟨_, List.getElem?_eq_getElem (by omega)⟩
      have HS := hide (((((ho2.stored (k * 4) (.int .i64 ss[k].c)).1.stored (k * 4 + 1) (.int .i64 ss[k].e.k)).1.stored (k * 4 + 2) (.int .i64 ss[k].e.a)).1.stored (k * 4 + 3) (.int .i64 ss[k].e.v)).1)
      clear ho2 ho hlen
      go_wp2
      go_roundw
      case rel =>
        refine ⟨k + 1, by omega, by go_num, ?_, (((hb3.setCell (Nat.le_refl _) _).setCell (Nat.le_refl _) _).setCell (Nat.le_refl _) _).setCell (Nat.le_refl _) _⟩
        rw [← halfP_set ss k hlt]
        exact HS.out
      case measure => simp [intOf]; omega
    · go_wp2
      go_ret
      obtain rfl : k = ss.length := by omega
      rw [halfP_all] at ho
      exact ⟨_, rfl, ho, hb⟩
end Go.Proofs.Ytnnfkmjhaljplaa
namespace Go.Proofs.Ytnnfkmjhaljplaa
open Go.RowKit

theorem info_i64 : (Try.prog.info? 2).map (fun i => (i.zero, i.size, i.bytes)) = some (some (.int .i64 0), 1, 8) := by kernel_rfl

set_option maxHeartbeats 400000 in
theorem eqInt64S_same (l : List Int) (A A' : Option Addr) (c c' : Nat) (w : World) (hm : l.length ≤ maxLen) (h : Rd .i64 w w.heap.size A l) (h' : Rd .i64 w w.heap.size A' l) :
    Calls Try.prog 73 #[.slice A l.length c, .slice A' l.length c'] w fun e w' => e = .returned (.bool true) ∧ Below w.heap.size w w' := by
  unfold maxLen at hm
  go_enter Try.func73, Try.ntmps73
  go_wp2
  go_loopw [5] (fun i wr => ∃ k : Nat, k ≤ l.length ∧ i = .int .i64 k ∧ Below w.heap.size w wr) (fun i _ => l.length - (intOf i).toNat)
  case atStart => exact ⟨0, Nat.zero_le _, rfl, Below.refl _ _⟩
  case round =>
    obtain ⟨k, hk, rfl, hb⟩ := hrel
    by_cases hlt : k < l.length
    · obtain ⟨b, off, rfl, hbb, hc⟩ := (h.below hb).get hlt
      obtain ⟨b', off', rfl, hbb', hc'⟩ := (h'.below hb).get hlt
      go_wp2
      go_quiet (fail)
      go_wp2
      go_roundw
      case rel => exact ⟨k + 1, by omega, by go_num, below_drewN hb _⟩
      case measure => simp [intOf]; omega
    · go_wp2
      go_ret
      exact ⟨rfl, hb⟩

/-- After k rounds of a copy: the first k are there, the rest as it was made. -/
def halfI (l : List Int) (k : Nat) : List Value := (l.take k).map (Value.int .i64) ++ List.replicate (l.length - k) (Value.int .i64 0)
theorem halfI_zero (l : List Int) : halfI l 0 = List.replicate l.length (Value.int .i64 0) := by simp [halfI]
theorem halfI_all (l : List Int) : halfI l l.length = l.map (Value.int .i64) := by simp [halfI]
theorem halfI_set (l : List Int) (k : Nat) (hk : k < l.length) : (halfI l k).set k (.int .i64 l[k]) = halfI l (k + 1) := by
  unfold halfI
  rw [show l.length - k = (l.length - (k + 1)) + 1 by omega, List.replicate_succ, List.take_succ_eq_append_getElem hk, List.map_append]
  have e : k = ((l.take k).map (Value.int IntKind.i64)).length := by simp; omega
  conv => lhs; arg 2; rw [e]
  rw [set_append]
  simp
theorem made_i64 (n : Nat) : (madeCells (Value.int .i64 0).cells (n * 1)).toList = List.replicate n (Value.int .i64 0) := by
  apply List.ext_getElem
  · simp [madeCells]
  · intro i h1 h2
    simp [madeCells, Value.cells, Nat.mod_one]

set_option maxHeartbeats 400000 in
theorem toInt64S_any (l : List Int) (A : Option Addr) (c : Nat) (w : World) (hm : l.length ≤ 1048576) (h : Rd .i64 w w.heap.size A l) :
    Calls Try.prog 66 #[.slice A l.length c] w fun e w' => ∃ g, e = .returned (.slice (some ⟨g, 0, none⟩) l.length l.length) ∧ w'.ownsRow w.heap.size 2 1 (.slice (some ⟨g, 0, none⟩) l.length l.length) l.length (l.map (Value.int .i64)) ∧ Below w.heap.size w w' := by
  obtain ⟨i0, hi, hz0, hz1, hz2⟩ := info_parts info_i64
  go_enter Try.func66, Try.ntmps66
  go_wp2_with (at_make; refine wpList_make_full _ rfl _ _ 41 rfl w.heap.size 2 i0 (.int .i64 0) 1 Try.underlying41 hi hz0 hz1 .i64 .i64 _ _ l.length rfl rfl rfl rfl (by rw [hz2]; omega) (by unfold maxLen; omega) (Nat.le_refl _) ?_; intro w1 hown hg)
  rw [made_i64, ← halfI_zero] at hown
  have hb1 : Below w.heap.size w w1 := (Below.refl _ _).grown hg (Nat.le_refl _) (by simp)
  clear hg
  go_loopw [4] (fun i wr => ∃ k : Nat, k ≤ l.length ∧ i = .int .i64 k ∧ wr.ownsRow w.heap.size 2 1 (.slice (some ⟨w.heap.size, 0, none⟩) l.length l.length) l.length (halfI l k) ∧ Below w.heap.size w wr) (fun i _ => l.length - (intOf i).toNat)
  case atStart => exact ⟨0, Nat.zero_le _, rfl, hown, hb1⟩
  case round =>
    obtain ⟨k, hk, rfl, ho, hb⟩ := hrel
    by_cases hlt : k < l.length
    · obtain ⟨b, off, rfl, hbb, hc⟩ := (h.below hb).get hlt
      have hf := ho.frozenAt k
      obtain ⟨v, hx⟩ : ∃ v, wr.cell? ⟨w.heap.size, k, none⟩ = some v := by
        rw [ho.cellAt k (by omega)]
        exact ⟨_, List.getElem?_eq_getElem (by rw [ho.1]; omega)⟩
      have hs := ho.stored k (.int .i64 l[k])
      have HS := hide hs
      clear hs
      go_wp2
      go_roundw
      case rel =>
        refine ⟨k + 1, by omega, by go_num, ?_, hb.setCell (Nat.le_refl _) _⟩
        rw [← halfI_set l k hlt]
        exact HS.out.1
      case measure => simp [intOf]; omega
    · go_wp2
      go_ret
      obtain rfl : k = l.length := by omega
      rw [halfI_all] at ho
      exact ⟨_, rfl, ho, hb⟩
/-- The marks that are laid from k on. -/
def mkI (k n : Nat) : List Int := (List.range n).map fun i => ((k + i : Nat) : Int)
theorem mkI_length (k n : Nat) : (mkI k n).length = n := by simp [mkI]
theorem mkI_get (k n i : Nat) (h : i < (mkI k n).length) : (mkI k n)[i] = ((k + i : Nat) : Int) := by simp [mkI]
/-- After j rounds of marking. -/
def markedI (xs : List Value) (k j : Nat) : List Value := (mkI k j).map (Value.int .i64) ++ xs.drop j
theorem markedI_zero (xs : List Value) (k : Nat) : markedI xs k 0 = xs := by simp [markedI, mkI]
theorem markedI_all (xs : List Value) (k : Nat) : markedI xs k xs.length = (mkI k xs.length).map (Value.int .i64) := by simp [markedI]
theorem markedI_length (xs : List Value) (k j : Nat) (h : j ≤ xs.length) : (markedI xs k j).length = xs.length := by simp [markedI, mkI]; omega
theorem markedI_set (xs : List Value) (k j : Nat) (h : j < xs.length) : (markedI xs k j).set j (.int .i64 ((k + j : Nat) : Int)) = markedI xs k (j + 1) := by
  unfold markedI
  rw [List.drop_eq_getElem_cons h]
  have e : j = ((mkI k j).map (Value.int IntKind.i64)).length := by simp [mkI]
  conv => lhs; arg 2; rw [e]
  rw [set_append]
  simp [mkI, List.range_succ]

set_option maxHeartbeats 400000 in
theorem lwNums_same (l : List Int) (A A' : Option Addr) (c c' : Nat) (w : World) (hm : l.length ≤ maxLen) (h : Rd .i64 w w.heap.size A l) (h' : Rd .i64 w w.heap.size A' l) :
    Calls Try.prog 22 #[.slice A l.length c, .slice A' l.length c'] w fun e w' => e = .returned (.bool true) ∧ Below w.heap.size w w' := by
  unfold maxLen at hm
  go_enter Try.func22, Try.ntmps22
  go_wp2
  go_loopw [5] (fun i wr => ∃ k : Nat, k ≤ l.length ∧ i = .int .i64 k ∧ Below w.heap.size w wr) (fun i _ => l.length - (intOf i).toNat)
  case atStart => exact ⟨0, Nat.zero_le _, rfl, Below.refl _ _⟩
  case round =>
    obtain ⟨k, hk, rfl, hb⟩ := hrel
    by_cases hlt : k < l.length
    · obtain ⟨b, off, rfl, hbb, hc⟩ := (h.below hb).get hlt
      obtain ⟨b', off', rfl, hbb', hc'⟩ := (h'.below hb).get hlt
      go_wp2
      go_quiet (fail)
      go_wp2
      go_roundw
      case rel => exact ⟨k + 1, by omega, by go_num, below_drewN hb _⟩
      case measure => simp [intOf]; omega
    · go_wp2
      go_ret
      exact ⟨rfl, hb⟩

end Go.Proofs.Ytnnfkmjhaljplaa
namespace Go.Proofs.Ytnnfkmjhaljplaa
open Go.RowKit

/-- Numbers within their bounds, as the program asks it. -/
theorem allWithin_all (l : List Int) (A : Option Addr) (c : Nat) (lo hi : Int) (w : World) (hm : l.length ≤ 1000) (h : Rd .i64 w w.heap.size A l) (hin : ∀ n ∈ l, lo ≤ n ∧ n ≤ hi) :
    Calls Try.prog 51 #[.int .i64 lo, .int .i64 hi, .slice A l.length c] w fun e w' => e = .returned (.bool true) ∧ w = w' := by
  go_enter Try.func51, Try.ntmps51
  go_wp2
  go_loop [11] (fun i => ∃ j : Nat, j ≤ l.length ∧ i = .int .i64 j) (fun i => l.length - (intOf i).toNat)
  case atStart => exact ⟨0, by omega, rfl⟩
  case round =>
    obtain ⟨j, hj, rfl⟩ := hrel
    by_cases h0 : j < l.length
    · obtain ⟨b, off, rfl, hb, hc⟩ := h.get h0
      obtain ⟨h1, h2⟩ := hin _ (List.getElem_mem h0)
      go_wp2
      go_round
      case rel => exact ⟨j + 1, by omega, by go_num⟩
      case measure => simp [intOf]; omega
    · go_wp2
      go_ret
      exact ⟨rfl, rfl⟩
theorem allWithin_some (l : List Int) (A : Option Addr) (c : Nat) (lo hi : Int) (w : World) (hm : l.length ≤ 1000) (h : Rd .i64 w w.heap.size A l) (hin : ¬ ∀ n ∈ l, lo ≤ n ∧ n ≤ hi) :
    Calls Try.prog 51 #[.int .i64 lo, .int .i64 hi, .slice A l.length c] w fun e w' => e = .returned (.bool false) ∧ w = w' := by
  have HN := hide hin
  clear hin
  go_enter Try.func51, Try.ntmps51
  go_wp2
  go_loop [11] (fun i => ∃ j : Nat, j ≤ l.length ∧ i = .int .i64 j ∧ Hid (∀ k, (hk : k < l.length) → k < j → lo ≤ l[k] ∧ l[k] ≤ hi)) (fun i => l.length - (intOf i).toNat)
  case atStart => exact ⟨0, by omega, rfl, hide fun k _ h => by omega⟩
  case round =>
    obtain ⟨j, hj, rfl, HJ⟩ := hrel
    by_cases h0 : j < l.length
    · obtain ⟨b, off, rfl, hb, hc⟩ := h.get h0
      by_cases h1 : lo ≤ l[j]
      · by_cases h2 : l[j] ≤ hi
        · have HJ2 := hide (show ∀ k, (hk : k < l.length) → k < j + 1 → lo ≤ l[k] ∧ l[k] ≤ hi from fun k hk hkj => by
            by_cases hh : k = j
            · subst hh; exact ⟨h1, h2⟩
            · exact HJ.out k hk (by omega))
          go_wp2
          go_round
          case rel => exact ⟨j + 1, by omega, by go_num, HJ2⟩
          case measure => simp [intOf]; omega
        · go_wp2
          go_ret
          exact ⟨rfl, rfl⟩
      · go_wp2
        go_ret
        exact ⟨rfl, rfl⟩
    · exfalso
      refine HN.out fun n hn => ?_
      obtain ⟨k, hk, rfl⟩ := List.getElem_of_mem hn
      exact HJ.out k hk (by omega)

/-- The counts of the cores, as the program keeps them. -/
def cntA (ss : List Stp) : Array Value := #[.int .i64 (cntL ss 0), .int .i64 (cntL ss 1), .int .i64 (cntL ss 2), .int .i64 (cntL ss 3)]
theorem cntA_get (ss : List Stp) (i : Nat) (h : i < 4) : (cntA ss)[i]? = some (.int .i64 (cntL ss i)) := by
  rcases (show i = 0 ∨ i = 1 ∨ i = 2 ∨ i = 3 by omega) with rfl | rfl | rfl | rfl <;> rfl
theorem cntA_set (ss : List Stp) (s : Stp) (i : Nat) (hi : s.c = (i : Int)) (h : i < 4) : (cntA ss).setIfInBounds i (.int .i64 ((cntL ss i : Nat) + 1 : Int)) = cntA (ss ++ [s]) := by
  have hit : ∀ j : Int, s.c = j → (((cntL (ss ++ [s]) j : Nat) : Int)) = (cntL ss j : Nat) + 1 := fun j hj => by rw [cntL_hit ss s j hj]; rfl
  rcases (show i = 0 ∨ i = 1 ∨ i = 2 ∨ i = 3 by omega) with rfl | rfl | rfl | rfl
  · unfold cntA; rw [hit 0 hi, cntL_miss ss s 1 (by omega), cntL_miss ss s 2 (by omega), cntL_miss ss s 3 (by omega)]; simp
  · unfold cntA; rw [hit 1 hi, cntL_miss ss s 0 (by omega), cntL_miss ss s 2 (by omega), cntL_miss ss s 3 (by omega)]; simp
  · unfold cntA; rw [hit 2 hi, cntL_miss ss s 0 (by omega), cntL_miss ss s 1 (by omega), cntL_miss ss s 3 (by omega)]; simp
  · unfold cntA; rw [hit 3 hi, cntL_miss ss s 0 (by omega), cntL_miss ss s 1 (by omega), cntL_miss ss s 2 (by omega)]; simp
def cntI (ss : List Stp) : List Int := [(cntL ss 0 : Nat), (cntL ss 1 : Nat), (cntL ss 2 : Nat), (cntL ss 3 : Nat)]
theorem cntI_few (ss : List Stp) : (∀ n ∈ cntI ss, (0 : Int) ≤ n ∧ n ≤ 8) ↔ fewL ss := by
  simp only [cntI, List.mem_cons, List.not_mem_nil, or_false, forall_eq_or_imp, forall_eq, fewL]
  omega
theorem cntI_rd {w : World} {g : Nat} {ss : List Stp} {t : TypeId} (h : Bk w g (cntA ss) t) : Rd .i64 w w.heap.size (some ⟨g, 0, none⟩) (cntI ss) := by
  intro _
  refine ⟨g, 0, rfl, h.lt, fun i hi => ?_⟩
  have hi4 : i < 4 := by simpa [cntI] using hi
  rw [Nat.zero_add, h.cell i, cntA_get ss i hi4]
  rcases (show i = 0 ∨ i = 1 ∨ i = 2 ∨ i = 3 by omega) with rfl | rfl | rfl | rfl <;> rfl
end Go.Proofs.Ytnnfkmjhaljplaa
namespace Go.Proofs.Ytnnfkmjhaljplaa
open Go.RowKit

set_option maxRecDepth 100000 in
set_option maxHeartbeats 1600000 in
theorem implLogF_any (ss : List Stp) (n : Int) (A : Option Addr) (c : Nat) (w : World) (hm : ss.length ≤ maxLen) (h : RdP w w.heap.size A ss) :
    Calls Try.prog 32 #[.slice A ss.length c, .int .i64 n] w fun e w' => e = .returned (.int .i64 (logF ss n)) ∧ Below w.heap.size w w' := by
  unfold maxLen at hm
  by_cases h1 : 1 ≤ n ∧ n ≤ 4
  · by_cases h2 : ss.length ≤ 32
    · have HF := hide (fun h3 => logF_bad (ss := ss) h1 h2 h3)
      have HG := hide (fun h3 h4 => logF_few (ss := ss) h1 h2 h3 h4)
      have HH := hide (fun h3 h4 => logF_many (ss := ss) h1 h2 h3 h4)
      have TE : ss.take ss.length = ss := List.take_length
      go_enter Try.func32, Try.ntmps32
      go_wp2_with fail
      refine (allWithin_one _ _ _ _ _ _ (by simp [go_sem]) h1).mono ?_
      rintro e w' ⟨rfl, rfl⟩
      have hV := Bk.new (w.alloc (.cells #[.int .i64 n] 2)) #[.int .i64 0, .int .i64 0, .int .i64 0, .int .i64 0] 94
      rw [World.size_alloc] at hV
      go_wp2_with fail
      go_loopw [18] (fun i wr => ∃ k : Nat, k ≤ ss.length ∧ i = .int .i64 k ∧ Bk wr (w.heap.size + 1) (cntA (ss.take k)) 94 ∧ Below w.heap.size w wr ∧ Hid (logG n ss = logG n (ss.drop k))) (fun i _ => ss.length - (intOf i).toNat)
      case atStart => exact ⟨0, Nat.zero_le _, rfl, hV, ((Below.refl _ _).alloc (Nat.le_refl _) _).alloc (by simp) _, hide rfl⟩
      case round =>
        obtain ⟨k, hk, rfl, hB, hb, HR⟩ := hrel
        by_cases hlt : k < ss.length
        · obtain ⟨b, off, rfl, hbb, hc0, hc1, hc2, hc3⟩ := (h.below hb).get hlt
          have IE := hide (fun W => implEvF_any ss[k].e.k ss[k].e.a ss[k].e.v W)
          by_cases hcr : 0 ≤ ss[k].c ∧ ss[k].c ≤ n - 1
          · obtain ⟨i, hi⟩ := Int.eq_ofNat_of_zero_le hcr.1
            have hi4 : i < 4 := by omega
            have HS := hide (cntA_set (ss.take k) ss[k] i hi hi4)
            rw [← List.take_succ_eq_append_getElem hlt] at HS
            have HI := hide (cntA_get (ss.take k) i hi4)
            have hle8 : cntL (ss.take k) i ≤ 32 := Nat.le_trans (cntL_le _ _) (by rw [List.length_take]; omega)
            have hcr' : 0 ≤ (i : Int) ∧ (i : Int) ≤ n - 1 := by rw [← hi]; exact hcr
            by_cases h0 : evF ss[k].e = 0
            · have HN := hide (logG_next hlt hcr h0)
              rw [show evF ⟨ss[k].e.k, ss[k].e.a, ss[k].e.v⟩ = 0 from h0] at IE
              rw [hi] at hc0
              clear h0 hcr hi
              obtain ⟨q, hq⟩ : ∃ q, q = cntL (ss.take k) i := ⟨_, rfl⟩
              rw [← hq] at HS HI hle8
              clear hq
              have hz := hB.lt
              go_wp2_with fail
              refine (allWithin_one _ _ _ _ _ _ (by simp [go_sem]) hcr').mono ?_
              rintro e w2 ⟨rfl, rfl⟩
              go_wp2_with fail
              refine (IE.out _).mono ?_
              rintro e w2 ⟨rfl, hb2⟩
              have hB2 := ((hB.alloc _).alloc _).kept hb2
              have hb3 := ((hb.alloc hb.size _).alloc (by simp; have := hb.size; omega) _).trans (hb2.mono (by simp; have := hb.size; omega))
              have hQ := ((Bk.new wr #[.int .i64 i, .int .i64 ss[k].e.k, .int .i64 ss[k].e.a, .int .i64 ss[k].e.v] 85).alloc (.cells #[.int .i64 i] 2)).kept hb2
              have q0 : w2.cell? ⟨wr.heap.size, 0, none⟩ = some (.int .i64 i) := by rw [hQ.cell 0]; rfl
              have q1 : w2.cell? ⟨w.heap.size + 1, i, none⟩ = some (.int .i64 q) := by rw [hB2.cell i]; exact HI.out
              have f1 := hB2.frozen i
              have hB3 := hB2.set_ i (.int .i64 ((q : Int) + 1))
              rw [HS.out] at hB3
              have HB := hide hB3
              clear hQ hB2 hB3 hb2 hB
              go_wp2
              go_roundw
              case rel => exact ⟨k + 1, by omega, by go_num, HB.out, hb3.setCell (by simp) _, hide (HR.out.trans HN.out)⟩
              case measure => simp [intOf]; omega
            · have HN := hide (logG_ev hlt hcr h0)
              obtain ⟨F, hF⟩ : ∃ F, F = evF ss[k].e := ⟨_, rfl⟩
              rw [show evF ⟨ss[k].e.k, ss[k].e.a, ss[k].e.v⟩ = F from hF.symm] at IE
              rw [← hF] at HN h0
              rw [hi] at hc0
              have f0 : (F != 0) = true := bne_iff_ne.2 h0
              have f1 : (F == 0) = false := beq_eq_false_iff_ne.2 h0
              have HE := hide (show logF ss n = F by rw [HF.out (by rw [HR.out, HN.out]; exact h0), HR.out, HN.out])
              clear h0 hcr hi hF HS HI
              go_wp2_with fail
              refine (allWithin_one _ _ _ _ _ _ (by simp [go_sem]) hcr').mono ?_
              rintro e w2 ⟨rfl, rfl⟩
              go_wp2_with fail
              refine (IE.out _).mono ?_
              rintro e w2 ⟨rfl, hb2⟩
              have hb3 := ((hb.alloc hb.size _).alloc (by simp; have := hb.size; omega) _).trans (hb2.mono (by simp; have := hb.size; omega))
              clear hb2 hB
              go_wp2
              go_ret
              exact ⟨ret_int HE.out.symm, hb3⟩
          · have HN := hide (logG_core hlt hcr)
            have hcr' : ss[k].c < 0 ∨ n - 1 < ss[k].c := by omega
            have HE := hide (show logF ss n = 3 by rw [HF.out (by rw [HR.out, HN.out]; decide), HR.out, HN.out])
            clear hcr IE
            go_wp2_with fail
            refine (allWithin_not _ _ _ _ _ _ (by simp [go_sem]) hcr').mono ?_
            rintro e w2 ⟨rfl, rfl⟩
            have hb3 := (hb.alloc hb.size (.cells #[.int .i64 ss[k].c, .int .i64 ss[k].e.k, .int .i64 ss[k].e.a, .int .i64 ss[k].e.v] 85)).alloc (by simp; have := hb.size; omega) (.cells #[.int .i64 ss[k].c] 2)
            clear hB
            go_wp2
            go_ret
            exact ⟨ret_int HE.out.symm, hb3⟩
        · have HN := hide (show logG n ss = 0 by rw [HR.out, logG_end hlt])
          obtain rfl : k = ss.length := by omega
          rw [TE] at hB
          have hR := cntI_rd hB
          by_cases h8 : fewL ss
          · have HE := hide (HG.out HN.out h8)
            have A8 := hide (fun W hR => allWithin_all (cntI ss) (some ⟨w.heap.size + 1, 0, none⟩) 4 0 8 W (by simp [cntI]) hR ((cntI_few ss).2 h8))
            clear h8 hB
            go_wp2_with fail
            refine (A8.out _ hR).mono ?_
            rintro e w2 ⟨rfl, rfl⟩
            go_wp2
            go_ret
            exact ⟨ret_int HE.out.symm, hb⟩
          · have HE := hide (HH.out HN.out h8)
            have A8 := hide (fun W hR => allWithin_some (cntI ss) (some ⟨w.heap.size + 1, 0, none⟩) 4 0 8 W (by simp [cntI]) hR (fun hh => h8 ((cntI_few ss).1 hh)))
            clear h8 hB
            go_wp2_with fail
            refine (A8.out _ hR).mono ?_
            rintro e w2 ⟨rfl, rfl⟩
            go_wp2
            go_ret
            exact ⟨ret_int HE.out.symm, hb⟩
    · rw [logF_long h1 h2]
      have h2' : 32 < ss.length := by omega
      clear h2
      go_enter Try.func32, Try.ntmps32
      go_wp2_with fail
      refine (allWithin_one _ _ _ _ _ _ (by simp [go_sem]) h1).mono ?_
      rintro e w' ⟨rfl, rfl⟩
      go_wp2
      go_ret
      exact ⟨rfl, by go_grown⟩
  · rw [logF_cores h1]
    have h1' : n < 1 ∨ 4 < n := by omega
    clear h1
    go_enter Try.func32, Try.ntmps32
    go_wp2_with fail
    refine (allWithin_not _ _ _ _ _ _ (by simp [go_sem]) h1').mono ?_
    rintro e w' ⟨rfl, rfl⟩
    go_wp2
    go_ret
    exact ⟨rfl, by go_grown⟩
end Go.Proofs.Ytnnfkmjhaljplaa
namespace Go.Proofs.Ytnnfkmjhaljplaa
open Go.RowKit

/-- The counts of the cores, as the model keeps them. -/
def cntR (N : Nat) (ss : List Stp) : List Value := (List.range N).map fun j : Nat => Value.int .i64 (cntL ss (j : Int) : Nat)
theorem cntR_length (N : Nat) (ss : List Stp) : (cntR N ss).length = N := by simp [cntR]
theorem cntR_get (N : Nat) (ss : List Stp) (i : Nat) (h : i < N) : (cntR N ss)[i]? = some (.int .i64 (cntL ss (i : Int) : Nat)) := by simp [cntR, h]
theorem cntR_nil (N : Nat) : cntR N [] = List.replicate N (Value.int .i64 0) := by
  apply List.ext_getElem
  · simp [cntR]
  · intro i h1 h2
    simp [cntR, cntL]
theorem cntR_set (N : Nat) (ss : List Stp) (s : Stp) (i : Nat) (hi : s.c = (i : Int)) : (cntR N ss).set i (.int .i64 ((cntL ss (i : Int) : Nat) + 1 : Int)) = cntR N (ss ++ [s]) := by
  apply List.ext_getElem
  · simp [cntR]
  · intro j h1 h2
    by_cases hij : i = j
    · subst hij
      rw [List.getElem_set_self]
      simp [cntR, cntL_hit ss s i hi]
    · rw [List.getElem_set_ne hij]
      simp [cntR, cntL_miss ss s j (by omega)]

set_option maxRecDepth 100000 in
set_option maxHeartbeats 1600000 in
theorem specLogF_any (ss : List Stp) (n : Int) (A : Option Addr) (c : Nat) (w : World) (hm : ss.length ≤ maxLen) (h : RdP w w.heap.size A ss) :
    Calls Try.prog 37 #[.slice A ss.length c, .int .i64 n] w fun e w' => e = .returned (.int .i64 (logF ss n)) ∧ Below w.heap.size w w' := by
  unfold maxLen at hm
  by_cases h1 : 1 ≤ n ∧ n ≤ 4
  · by_cases h2 : ss.length ≤ 32
    · obtain ⟨N, rfl⟩ := Int.eq_ofNat_of_zero_le (show 0 ≤ n by omega)
      have HF := hide (fun h3 => logF_bad (ss := ss) h1 h2 h3)
      have HG := hide (fun h3 h4 => logF_few (ss := ss) h1 h2 h3 h4)
      have HH := hide (fun h3 h4 => logF_many (ss := ss) h1 h2 h3 h4)
      have TE : ss.take ss.length = ss := List.take_length
      have hN4 : N ≤ 4 := by omega
      obtain ⟨i0, hi, hz0, hz1, hz2⟩ := info_parts info_i64
      have MD : (madeCells (Value.int .i64 0).cells (N * 1)).toList = cntR N [] := by rw [cntR_nil, made_i64]
      go_enter Try.func37, Try.ntmps37
      go_wp2_with fail
      refine (l1In_yes _ _ _ _ h1).mono ?_
      rintro e w' ⟨rfl, rfl⟩
      go_wp2_with (at_make; refine wpList_make_full _ rfl _ _ 41 rfl w.heap.size 2 i0 (.int .i64 0) 1 Try.underlying41 hi hz0 hz1 .i64 .i64 _ _ N rfl rfl rfl rfl (by rw [hz2]; omega) (by unfold maxLen; omega) (Nat.le_refl _) ?_; intro w1 hown hg)
      rw [MD] at hown
      have hb1 : Below w.heap.size w w1 := (Below.refl _ _).grown hg (Nat.le_refl _) (by simp)
      clear hg MD
      go_loopw [19] (fun i wr => ∃ k : Nat, k ≤ ss.length ∧ i = .int .i64 k ∧ wr.ownsRow w.heap.size 2 1 (.slice (some ⟨w.heap.size, 0, none⟩) N N) N (cntR N (ss.take k)) ∧ Below w.heap.size w wr ∧ Hid (logG N ss = logG N (ss.drop k))) (fun i _ => ss.length - (intOf i).toNat)
      case atStart => exact ⟨0, Nat.zero_le _, rfl, hown, hb1, hide rfl⟩
      case round =>
        obtain ⟨k, hk, rfl, ho, hb, HR⟩ := hrel
        by_cases hlt : k < ss.length
        · obtain ⟨b, off, rfl, hbb, hc0, hc1, hc2, hc3⟩ := (h.below hb).get hlt
          have IE := hide (fun W => specEvF_any ss[k].e.k ss[k].e.a ss[k].e.v W)
          by_cases hcr : 0 ≤ ss[k].c ∧ ss[k].c ≤ (N : Int) - 1
          · obtain ⟨i, hi⟩ := Int.eq_ofNat_of_zero_le hcr.1
            have hiN : i < N := by omega
            have HS := hide (cntR_set N (ss.take k) ss[k] i hi)
            rw [← List.take_succ_eq_append_getElem hlt] at HS
            have HI := hide (cntR_get N (ss.take k) i hiN)
            have hle8 : cntL (ss.take k) i ≤ 32 := Nat.le_trans (cntL_le _ _) (by rw [List.length_take]; omega)
            have hcr' : 0 ≤ (i : Int) ∧ (i : Int) ≤ (N : Int) - 1 := by rw [← hi]; exact hcr
            by_cases h0 : evF ss[k].e = 0
            · have HN := hide (logG_next hlt hcr h0)
              rw [show evF ⟨ss[k].e.k, ss[k].e.a, ss[k].e.v⟩ = 0 from h0] at IE
              rw [hi] at hc0
              clear h0 hcr hi
              obtain ⟨q, hq⟩ : ∃ q, q = cntL (ss.take k) i := ⟨_, rfl⟩
              rw [← hq] at HS HI hle8
              clear hq
              go_wp2_with fail
              refine (l1In_yes _ _ _ _ hcr').mono ?_
              rintro e w2 ⟨rfl, rfl⟩
              go_wp2_with fail
              refine (IE.out _).mono ?_
              rintro e w2 ⟨rfl, hb2⟩
              have ho2 := own_below ho hb2 (Nat.le_refl _)
              have hb3 := hb.trans (hb2.mono hb.size)
              have hd0 := (hb2.cell (block_lt_of_cell hc0)).trans hc0
              have q1 : w2.cell? ⟨w.heap.size, i, none⟩ = some (.int .i64 q) := by rw [ho2.cellAt i (by omega)]; exact HI.out
              have f1 := ho2.frozenAt i
              have hB3 := (ho2.stored i (.int .i64 ((q : Int) + 1))).1
              rw [HS.out] at hB3
              have HB := hide hB3
              clear hB3 hb2 ho2 ho
              go_wp2
              go_roundw
              case rel => exact ⟨k + 1, by omega, by go_num, HB.out, hb3.setCell (by simp) _, hide (HR.out.trans HN.out)⟩
              case measure => simp [intOf]; omega
            · have HN := hide (logG_ev hlt hcr h0)
              obtain ⟨F, hF⟩ : ∃ F, F = evF ss[k].e := ⟨_, rfl⟩
              rw [show evF ⟨ss[k].e.k, ss[k].e.a, ss[k].e.v⟩ = F from hF.symm] at IE
              rw [← hF] at HN h0
              rw [hi] at hc0
              have f0 : (F != 0) = true := bne_iff_ne.2 h0
              have f1 : (F == 0) = false := beq_eq_false_iff_ne.2 h0
              have HE := hide (show logF ss N = F by rw [HF.out (by rw [HR.out, HN.out]; exact h0), HR.out, HN.out])
              clear h0 hcr hi hF HS HI
              go_wp2_with fail
              refine (l1In_yes _ _ _ _ hcr').mono ?_
              rintro e w2 ⟨rfl, rfl⟩
              go_wp2_with fail
              refine (IE.out _).mono ?_
              rintro e w2 ⟨rfl, hb2⟩
              have hb3 := hb.trans (hb2.mono hb.size)
              clear hb2 ho
              go_wp2
              go_ret
              exact ⟨ret_int HE.out.symm, hb3⟩
          · have HN := hide (logG_core hlt hcr)
            have hcr' : ss[k].c < 0 ∨ (N : Int) - 1 < ss[k].c := by omega
            have HE := hide (show logF ss N = 3 by rw [HF.out (by rw [HR.out, HN.out]; decide), HR.out, HN.out])
            clear hcr IE
            go_wp2_with fail
            refine (l1In_no _ _ _ _ hcr').mono ?_
            rintro e w2 ⟨rfl, rfl⟩
            clear ho
            go_wp2
            go_ret
            exact ⟨ret_int HE.out.symm, hb⟩
        · have HN := hide (show logG N ss = 0 by rw [HR.out, logG_end hlt])
          obtain rfl : k = ss.length := by omega
          rw [TE] at ho
          have hall := logG_all HN.out
          have HC := hide (fun (j : Int) (hj : (N : Int) - 1 < j) => cntL_none (ss := ss) (j := j) fun s hs => by have := (hall s hs).1; omega)
          have HLe := hide (fun j : Int => Nat.le_trans (cntL_le ss j) h2)
          have hg : ∀ i, i < N → wr.cell? ⟨w.heap.size, i, none⟩ = some (.int .i64 (cntL ss (i : Int) : Nat)) := fun i hi => by
            rw [ho.cellAt i (by omega)]
            exact cntR_get N ss i hi
          have HGet := hide hg
          clear hall hg ho
          go_wp2
          go_loopw [53] (fun i w2 => ∃ k : Nat, k ≤ N ∧ i = .int .i64 k ∧ wr = w2 ∧ Hid (∀ j : Nat, j < k → cntL ss (j : Int) ≤ 8)) (fun i _ => N - (intOf i).toNat)
          case atStart => exact ⟨0, Nat.zero_le _, rfl, rfl, hide fun j hj => by omega⟩
          case round =>
            obtain ⟨k, hk, rfl, rfl, HK⟩ := hrel
            by_cases hlt : k < N
            · have hc := HGet.out k hlt
              have hL := HLe.out (k : Int)
              by_cases h8 : cntL ss (k : Int) ≤ 8
              · have HK2 := hide (show ∀ j : Nat, j < k + 1 → cntL ss (j : Int) ≤ 8 from fun j hj => by
                  by_cases hh : j = k
                  · subst hh; exact h8
                  · exact HK.out j (by omega))
                obtain ⟨q, hq⟩ : ∃ q, q = cntL ss (k : Int) := ⟨_, rfl⟩
                rw [← hq] at hc hL h8
                clear hq
                go_wp2
                go_roundw
                case rel => exact ⟨k + 1, by omega, by go_num, by first | rfl | trivial, HK2⟩
                case measure => simp [intOf]; omega
              · have HE := hide (HH.out HN.out (fun hh => h8 (few_at hh (by omega) (by omega))))
                obtain ⟨q, hq⟩ : ∃ q, q = cntL ss (k : Int) := ⟨_, rfl⟩
                rw [← hq] at hc hL h8
                clear hq
                go_wp2
                go_ret
                exact ⟨ret_int HE.out.symm, hb⟩
            · have HE := hide (HG.out HN.out (by
                have key : ∀ j : Nat, j < 4 → cntL ss (j : Int) ≤ 8 := fun j hj => by
                  by_cases hjN : j < N
                  · exact HK.out j (by omega)
                  · rw [HC.out (j : Int) (by omega)]; omega
                exact ⟨key 0 (by omega), key 1 (by omega), key 2 (by omega), key 3 (by omega)⟩))
              go_wp2
              go_ret
              exact ⟨ret_int HE.out.symm, hb⟩
    · rw [logF_long h1 h2]
      have h2' : 32 < ss.length := by omega
      clear h2
      go_enter Try.func37, Try.ntmps37
      go_wp2_with fail
      refine (l1In_yes _ _ _ _ h1).mono ?_
      rintro e w' ⟨rfl, rfl⟩
      go_wp2
      go_ret
      exact ⟨rfl, Below.refl _ _⟩
  · rw [logF_cores h1]
    have h1' : n < 1 ∨ 4 < n := by omega
    clear h1
    go_enter Try.func37, Try.ntmps37
    go_wp2_with fail
    refine (l1In_no _ _ _ _ h1').mono ?_
    rintro e w' ⟨rfl, rfl⟩
    go_wp2
    go_ret
    exact ⟨rfl, Below.refl _ _⟩
end Go.Proofs.Ytnnfkmjhaljplaa
namespace Go.Proofs.Ytnnfkmjhaljplaa
open Go.RowKit

/-- Numbers in a row of the call's own, from block base on; all that was there in W is as it was. -/
structure OwnI (W : World) (base : Nat) (xs : List Int) (v : Value) (w : World) : Prop where
  row : w.ownsRow base 2 1 v xs.length (xs.map (Value.int .i64))
  old : Below W.heap.size W w
  lo : W.heap.size ≤ base
section
variable {W w w' : World} {base : Nat} {xs : List Int} {v v' : Value} {x : Int}
theorem OwnI.below (h : OwnI W base xs v w) (hb : Below w.heap.size w w') : OwnI W base xs v w' := ⟨own_below h.row hb (Nat.le_refl _), h.old.trans (hb.mono h.old.size), h.lo⟩
theorem OwnI.alloc (h : OwnI W base xs v w) (o : Obj) : OwnI W base xs v (w.alloc o) := h.below ((Below.refl _ _).alloc (Nat.le_refl _) _)
theorem OwnI.drew (h : OwnI W base xs v w) : OwnI W base xs v w.drew := h.below (Below.refl _ _).drew
theorem OwnI.more (h : OwnI W base xs v w) (ho : w'.ownsRow base 2 1 v' (xs.length + [x].length) (xs.map (Value.int .i64) ++ [x].map (Value.int .i64))) (hg : w.grownBy w' v.ownBlock) : OwnI W base (xs ++ [x]) v' w' :=
  ⟨by rw [List.length_append, List.map_append]; exact ho, h.old.trans (grown_below h.row hg h.old.size h.lo), h.lo⟩
theorem OwnI.shape (h : OwnI W base xs v w) : ∃ A c, v = .slice A xs.length c := own_shape h.row
end
theorem Rd.one_new (w : World) (x : Int) (T : TypeId) : Rd .i64 (w.alloc (.cells #[.int .i64 x] T)) (w.heap.size + 1) (some ⟨w.heap.size, 0, none⟩) [x] := fun _ =>
  ⟨w.heap.size, 0, rfl, Nat.lt_succ_self _, fun i hi => by
    rw [Nat.zero_add, (Bk.new w #[.int .i64 x] T).cell i]
    simp only [List.map_cons, List.map_nil, List.getElem?_toArray]
    exact List.getElem?_eq_getElem hi⟩

/-- What PicksOf tells. -/
def PkPost (ss : List Stp) (n : Int) (w : World) (e : Ending) (w' : World) : Prop :=
  ∃ A c, e = .returned (.agg #[.int .i64 (logF ss n), .slice A (pkL ss n).length c]) ∧ w'.ownsRow w.heap.size 2 1 (.slice A (pkL ss n).length c) (pkL ss n).length ((pkL ss n).map (Value.int .i64)) ∧ Below w.heap.size w w'
end Go.Proofs.Ytnnfkmjhaljplaa
