/- Contracts of the laws' helpers on slices of numbers: copied, compared, marked, held. -/
import Derived.Test.YtldepledinolmaaDoorGEv
namespace Go.Proofs.YtldepledinolmaaDoor
open Go.RowKit

theorem info_i64 : (Tryd.prog.info? 2).map (fun i => (i.zero, i.size, i.bytes)) = some (some (.int .i64 0), 1, 8) := by kernel_rfl

set_option maxHeartbeats 400000 in
theorem eqInt64S_same (l : List Int) (A A' : Option Addr) (c c' : Nat) (w : World) (hm : l.length ≤ maxLen) (h : Rd .i64 w w.heap.size A l) (h' : Rd .i64 w w.heap.size A' l) :
    Calls Tryd.prog 41 #[.slice A l.length c, .slice A' l.length c'] w fun e w' => e = .returned (.bool true) ∧ Below w.heap.size w w' := by
  unfold maxLen at hm
  go_enter Tryd.func41, Tryd.ntmps41
  go_wp2
  go_loopw [5] (fun i wr => ∃ k : Nat, k ≤ l.length ∧ i = .int .i64 k ∧ Below w.heap.size w wr) (fun i _ => l.length - (intOf i).toNat)
  case atStart => exact ⟨0, Nat.zero_le _, rfl, Below.refl _ _⟩
  case round =>
    obtain ⟨k, hk, rfl, hb⟩ := hrel
    by_cases hlt : k < l.length
    · obtain ⟨b, off, rfl, hbb, hc⟩ := (h.below hb).get hlt
      obtain ⟨b', off', rfl, hbb', hc'⟩ := (h'.below hb).get hlt
      go_wp2
      go_quiet (fail)
      go_wp2
      go_roundw
      case rel => exact ⟨k + 1, by omega, by go_num, below_drewN hb _⟩
      case measure => simp [intOf]; omega
    · go_wp2
      go_ret
      exact ⟨rfl, hb⟩

/-- After k rounds of a copy: the first k are there, the rest as it was made. -/
def halfI (l : List Int) (k : Nat) : List Value := (l.take k).map (Value.int .i64) ++ List.replicate (l.length - k) (Value.int .i64 0)
theorem halfI_zero (l : List Int) : halfI l 0 = List.replicate l.length (Value.int .i64 0) := by simp [halfI]
theorem halfI_all (l : List Int) : halfI l l.length = l.map (Value.int .i64) := by simp [halfI]
theorem halfI_set (l : List Int) (k : Nat) (hk : k < l.length) : (halfI l k).set k (.int .i64 l[k]) = halfI l (k + 1) := by
  unfold halfI
  rw [show l.length - k = (l.length - (k + 1)) + 1 by omega, List.replicate_succ, List.take_succ_eq_append_getElem hk, List.map_append]
  have e : k = ((l.take k).map (Value.int IntKind.i64)).length := by simp; omega
  conv => lhs; arg 2; rw [e]
  rw [set_append]
  simp
theorem made_i64 (n : Nat) : (madeCells (Value.int .i64 0).cells (n * 1)).toList = List.replicate n (Value.int .i64 0) := by
  apply List.ext_getElem
  · simp [madeCells]
  · intro i h1 h2
    simp [madeCells, Value.cells, Nat.mod_one]

/-- The marks that are laid from k on. -/
def mkI (k n : Nat) : List Int := (List.range n).map fun i => ((k + i : Nat) : Int)
theorem mkI_length (k n : Nat) : (mkI k n).length = n := by simp [mkI]
theorem mkI_get (k n i : Nat) (h : i < (mkI k n).length) : (mkI k n)[i] = ((k + i : Nat) : Int) := by simp [mkI]
/-- After j rounds of marking. -/
def markedI (xs : List Value) (k j : Nat) : List Value := (mkI k j).map (Value.int .i64) ++ xs.drop j
theorem markedI_zero (xs : List Value) (k : Nat) : markedI xs k 0 = xs := by simp [markedI, mkI]
theorem markedI_all (xs : List Value) (k : Nat) : markedI xs k xs.length = (mkI k xs.length).map (Value.int .i64) := by simp [markedI]
theorem markedI_length (xs : List Value) (k j : Nat) (h : j ≤ xs.length) : (markedI xs k j).length = xs.length := by simp [markedI, mkI]; omega
theorem markedI_set (xs : List Value) (k j : Nat) (h : j < xs.length) : (markedI xs k j).set j (.int .i64 ((k + j : Nat) : Int)) = markedI xs k (j + 1) := by
  unfold markedI
  rw [List.drop_eq_getElem_cons h]
  have e : j = ((mkI k j).map (Value.int IntKind.i64)).length := by simp [mkI]
  conv => lhs; arg 2; rw [e]
  rw [set_append]
  simp [mkI, List.range_succ]

set_option maxHeartbeats 400000 in
theorem markInt64S_any (base : Nat) (A : Option Addr) (n c k : Nat) (xs : List Value) (w : World) (hk : k + n ≤ 1073741824) (h : w.ownsRow base 2 1 (.slice A n c) n xs) :
    Calls Tryd.prog 44 #[.slice A n c, .int .i64 k] w fun e w' => e = .returned (.int .i64 ((k + n : Nat) : Int)) ∧ w'.ownsRow base 2 1 (.slice A n c) n ((mkI k n).map (Value.int .i64)) ∧ w.grownBy w' (Value.slice A n c).ownBlock := by
  have hl : xs.length = n := by simpa using h.1
  go_enter Tryd.func44, Tryd.ntmps44
  go_wp2
  go_loopw [1, 5] (fun q i wr => ∃ j : Nat, j ≤ n ∧ i = .int .i64 j ∧ q = .int .i64 ((k + j : Nat) : Int) ∧ wr.ownsRow base 2 1 (.slice A n c) n (markedI xs k j) ∧ w.grownBy wr (Value.slice A n c).ownBlock) (fun _ i _ => n - (intOf i).toNat)
  case atStart => exact ⟨0, Nat.zero_le _, rfl, rfl, by rw [markedI_zero]; exact h, ⟨rfl, rfl, rfl, Nat.le_refl _, fun _ _ _ => rfl⟩⟩
  case round =>
    obtain ⟨j, hj, rfl, rfl, ho, hg⟩ := hrel
    by_cases hlt : j < n
    · obtain ⟨g, rfl⟩ : ∃ g, A = some ⟨g, 0, none⟩ := by
        rcases ho.2 with ⟨h', h''⟩ | ⟨g, cap, cur, h', _⟩
        · omega
        · simp only [Value.slice.injEq, true_and] at h'
          exact ⟨g, h'.1⟩
      have hf := ho.frozenAt j
      obtain ⟨v, hx⟩ : ∃ v, wr.cell? ⟨g, j, none⟩ = some v := by
        rw [ho.cellAt j (by omega)]
        exact ⟨_, List.getElem?_eq_getElem (by rw [ho.1]; omega)⟩
      have HS := hide (ho.stored j (.int .i64 ((k + j : Nat) : Int)))
      go_wp2
      go_roundw
      case rel =>
        refine ⟨j + 1, by omega, by go_num, by go_num, ?_, ?_⟩
        · rw [← markedI_set xs k j (by omega)]
          exact HS.out.1
        · exact hg.trans HS.out.2
      case measure => simp [intOf]; omega
    · go_wp2
      go_ret
      obtain rfl : j = n := by omega
      refine ⟨rfl, ?_, hg⟩
      have := markedI_all xs k
      rw [hl] at this
      rw [← this]
      exact ho

set_option maxHeartbeats 400000 in
theorem heldInt64S_marked (B : Nat) (A : Option Addr) (n c k : Nat) (w : World) (hk : k + n ≤ 1073741824) (h : Rd .i64 w B A (mkI k n)) :
    Calls Tryd.prog 45 #[.slice A n c, .int .i64 k] w fun e w' => e = .returned (.int .i64 ((k + n : Nat) : Int)) ∧ w = w' := by
  go_enter Tryd.func45, Tryd.ntmps45
  go_wp2
  go_loop [1, 5] (fun q i => ∃ j : Nat, j ≤ n ∧ i = .int .i64 j ∧ q = .int .i64 ((k + j : Nat) : Int)) (fun _ i => n - (intOf i).toNat)
  case atStart => exact ⟨0, Nat.zero_le _, rfl, rfl⟩
  case round =>
    obtain ⟨j, hj, rfl, rfl⟩ := hrel
    by_cases hlt : j < n
    · obtain ⟨b, off, rfl, _, hc⟩ := h.get (i := j) (by rw [mkI_length]; exact hlt)
      rw [mkI_get] at hc
      go_wp2
      go_round
      case rel => exact ⟨j + 1, by omega, by go_num, by go_num⟩
      case measure => simp [intOf]; omega
    · go_wp2
      go_ret
      obtain rfl : j = n := by omega
      exact ⟨rfl, rfl⟩
theorem eqIntsResult_same (a : Int) (l : List Int) (A A' : Option Addr) (c c' : Nat) (w : World) (hm : l.length ≤ maxLen) (h : Rd .i64 w w.heap.size A l) (h' : Rd .i64 w w.heap.size A' l) :
    Calls Tryd.prog 18 #[.agg #[.int .i64 a, .slice A l.length c], .agg #[.int .i64 a, .slice A' l.length c']] w fun e w' => e = .returned (.bool true) ∧ Below w.heap.size w w' := by
  go_enter Tryd.func18, Tryd.ntmps18
  go_wp2_with fail
  refine (eqInt64S_same l A A' c c' _ hm ((h.alloc (Nat.le_refl _) _).alloc (by simp) _).lt ((h'.alloc (Nat.le_refl _) _).alloc (by simp) _).lt).mono ?_
  rintro e w1 ⟨rfl, hb⟩
  go_wp2
  go_ret
  exact ⟨rfl, below_alloc (below_alloc hb)⟩

theorem markIntsResult_any (base : Nat) (a : Int) (A : Option Addr) (n c k : Nat) (xs : List Value) (w : World) (hk : k + n ≤ 1073741824) (h : w.ownsRow base 2 1 (.slice A n c) n xs) :
    Calls Tryd.prog 21 #[.agg #[.int .i64 a, .slice A n c], .int .i64 k] w fun e w' => e = .returned (.int .i64 ((k + n : Nat) : Int)) ∧ w'.ownsRow base 2 1 (.slice A n c) n ((mkI k n).map (Value.int .i64)) ∧ w.grownBy w' (Value.slice A n c).ownBlock := by
  go_enter Tryd.func21, Tryd.ntmps21
  go_wp2_with fail
  refine (markInt64S_any base A n c k xs _ hk (h.alloc _)).mono ?_
  rintro e w1 ⟨rfl, ho, hg⟩
  go_wp2
  go_ret
  exact ⟨rfl, ho, (World.grownBy_alloc _ _ _).trans hg⟩

theorem heldIntsResult_marked (B : Nat) (a : Int) (A : Option Addr) (n c k : Nat) (w : World) (hk : k + n ≤ 1073741824) (hB : B ≤ w.heap.size) (h : Rd .i64 w B A (mkI k n)) :
    Calls Tryd.prog 22 #[.agg #[.int .i64 a, .slice A n c], .int .i64 k] w fun e w' => e = .returned (.int .i64 ((k + n : Nat) : Int)) ∧ Below w.heap.size w w' := by
  go_enter Tryd.func22, Tryd.ntmps22
  go_wp2_with fail
  refine (heldInt64S_marked B A n c k _ hk (h.alloc hB _)).mono ?_
  rintro e w1 ⟨rfl, rfl⟩
  go_wp2
  go_ret
  exact ⟨rfl, by go_grown⟩

end Go.Proofs.YtldepledinolmaaDoor
