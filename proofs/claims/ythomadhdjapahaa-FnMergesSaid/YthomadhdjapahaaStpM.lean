/- Contracts of the exact laws' own helpers on slices of steps: marked, held; and on answers with a log. -/
import Derived.Test.YthomadhdjapahaaStpS
namespace Go.Proofs.Ythomadhdjapahaa
open Go.RowKit

/-- The marks that are laid from k on. -/
def mkP (k n : Nat) : List Stp := (List.range n).map fun i => ⟨((k + i * 4 : Nat) : Int), ((k + i * 4 + 1 : Nat) : Int), ((k + i * 4 + 2 : Nat) : Int), ((k + i * 4 + 3 : Nat) : Int)⟩
theorem mkP_length (k n : Nat) : (mkP k n).length = n := by simp [mkP]
theorem mkP_succ (k n : Nat) : mkP k (n + 1) = mkP k n ++ [⟨((k + n * 4 : Nat) : Int), ((k + n * 4 + 1 : Nat) : Int), ((k + n * 4 + 2 : Nat) : Int), ((k + n * 4 + 3 : Nat) : Int)⟩] := by simp [mkP, List.range_succ]
/-- After j rounds of marking. -/
def markedP (xs : List Value) (k j : Nat) : List Value := stps (mkP k j) ++ xs.drop (j * 4)
theorem markedP_zero (xs : List Value) (k : Nat) : markedP xs k 0 = xs := by simp [markedP, mkP, stps]
theorem markedP_all (xs : List Value) (k n : Nat) (h : xs.length = n * 4) : markedP xs k n = stps (mkP k n) := by
  unfold markedP
  rw [List.drop_eq_nil_of_le (by omega), List.append_nil]
theorem markedP_set (xs : List Value) (k j n : Nat) (h : xs.length = n * 4) (hj : j < n) :
    ((((markedP xs k j).set (j * 4) (.int .i64 ((k + j * 4 : Nat) : Int))).set (j * 4 + 1) (.int .i64 ((k + j * 4 + 1 : Nat) : Int))).set (j * 4 + 2) (.int .i64 ((k + j * 4 + 2 : Nat) : Int))).set (j * 4 + 3) (.int .i64 ((k + j * 4 + 3 : Nat) : Int)) = markedP xs k (j + 1) := by
  unfold markedP
  rw [List.drop_eq_getElem_cons (by omega), List.drop_eq_getElem_cons (by omega), List.drop_eq_getElem_cons (by omega), List.drop_eq_getElem_cons (by omega)]
  rw [set4 _ _ _ _ _ _ _ _ _ _ _ (by rw [stps_length, mkP_length]), mkP_succ, stps_append]
  simp only [stps, List.append_assoc, List.cons_append, List.nil_append]
  rw [show (j + 1) * 4 = j * 4 + 1 + 1 + 1 + 1 by omega]

set_option maxRecDepth 100000 in
set_option maxHeartbeats 1600000 in
theorem markStepS_any (base : Nat) (A : Option Addr) (n c k : Nat) (xs : List Value) (w : World) (hk : k + n * 4 ≤ 1073741824) (h : w.ownsRow base 80 4 (.slice A n c) n xs) :
    Calls Try.prog 29 #[.slice A n c, .int .i64 k] w fun e w' => e = .returned (.int .i64 ((k + n * 4 : Nat) : Int)) ∧ w'.ownsRow base 80 4 (.slice A n c) n (stps (mkP k n)) ∧ w.grownBy w' (Value.slice A n c).ownBlock := by
  have hl : xs.length = n * 4 := h.1
  go_enter Try.func29, Try.ntmps29
  go_wp2
  go_loopw [1, 5] (fun q i wr => ∃ j : Nat, j ≤ n ∧ i = .int .i64 j ∧ q = .int .i64 ((k + j * 4 : Nat) : Int) ∧ wr.ownsRow base 80 4 (.slice A n c) n (markedP xs k j) ∧ w.grownBy wr (Value.slice A n c).ownBlock) (fun _ i _ => n - (intOf i).toNat)
  case atStart => exact ⟨0, Nat.zero_le _, rfl, rfl, by rw [markedP_zero]; exact h, ⟨rfl, rfl, rfl, Nat.le_refl _, fun _ _ _ => rfl⟩⟩
  case round =>
    obtain ⟨j, hj, rfl, rfl, ho, hg⟩ := hrel
    by_cases hlt : j < n
    · obtain ⟨g, rfl⟩ : ∃ g, A = some ⟨g, 0, none⟩ := by
        rcases ho.2 with ⟨h', h''⟩ | ⟨g, cap, cur, h', _⟩
        · omega
        · simp only [Value.slice.injEq, true_and] at h'
          exact ⟨g, h'.1⟩
      have hlen := ho.1
      have hf0 := ho.frozenAt (j * 4)
      have hf1 := ho.frozenAt (j * 4 + 1)
      have hf2 := ho.frozenAt (j * 4 + 2)
      have hf3 := ho.frozenAt (j * 4 + 3)
      obtain ⟨v0, hx0⟩ : ∃ v, wr.cell? ⟨g, j * 4, none⟩ = some v := by
        rw [ho.cellAt (j * 4) (by omega)]
        exact ⟨_, List.getElem?_eq_getElem (by omega)⟩
      obtain ⟨v1, hx1⟩ : ∃ v, wr.cell? ⟨g, j * 4 + 1, none⟩ = some v := by
        rw [ho.cellAt (j * 4 + 1) (by omega)]
        exact ⟨_, List.getElem?_eq_getElem (by omega)⟩
      obtain ⟨v2, hx2⟩ : ∃ v, wr.cell? ⟨g, j * 4 + 2, none⟩ = some v := by
        rw [ho.cellAt (j * 4 + 2) (by omega)]
        exact ⟨_, List.getElem?_eq_getElem (by omega)⟩
      obtain ⟨v3, hx3⟩ : ∃ v, wr.cell? ⟨g, j * 4 + 3, none⟩ = some v := by
        rw [ho.cellAt (j * 4 + 3) (by omega)]
        exact ⟨_, List.getElem?_eq_getElem (by omega)⟩
      have h1 := ho.stored (j * 4) (.int .i64 ((k : Int) + (j : Int) * 4))
      have h2 := h1.1.stored (j * 4 + 1) (.int .i64 ((k : Int) + (j : Int) * 4 + 1))
      have h3 := h2.1.stored (j * 4 + 2) (.int .i64 ((k : Int) + (j : Int) * 4 + 1 + 1))
      have h4 := h3.1.stored (j * 4 + 3) (.int .i64 ((k : Int) + (j : Int) * 4 + 1 + 1 + 1))
      have HS := hide h4.1
      have HG := hide (((h1.2.trans h2.2).trans h3.2).trans h4.2)
      have hM := markedP_set xs k j n hl hlt
      rw [show ((k + j * 4 : Nat) : Int) = (k : Int) + (j : Int) * 4 by omega, show ((k + j * 4 + 1 : Nat) : Int) = (k : Int) + (j : Int) * 4 + 1 by omega, show ((k + j * 4 + 2 : Nat) : Int) = (k : Int) + (j : Int) * 4 + 1 + 1 by omega, show ((k + j * 4 + 3 : Nat) : Int) = (k : Int) + (j : Int) * 4 + 1 + 1 + 1 by omega] at hM
      have HM := hide hM
      clear h1 h2 h3 h4 hlen ho hM
      go_wp2
      go_roundw
      case rel => exact ⟨j + 1, by omega, by go_num, by go_num, by rw [← HM.out]; exact HS.out, hg.trans HG.out⟩
      case measure => simp [intOf]; omega
    · go_wp2
      go_ret
      obtain rfl : j = n := by omega
      refine ⟨rfl, ?_, hg⟩
      rw [← markedP_all xs k j hl]
      exact ho

set_option maxRecDepth 100000 in
set_option maxHeartbeats 1600000 in
theorem heldStepS_marked (B : Nat) (A : Option Addr) (n c k : Nat) (w : World) (hk : k + n * 4 ≤ 1073741824) (h : RdP w B A (mkP k n)) :
    Calls Try.prog 73 #[.slice A n c, .int .i64 k] w fun e w' => e = .returned (.int .i64 ((k + n * 4 : Nat) : Int)) ∧ w = w' := by
  go_enter Try.func73, Try.ntmps73
  go_wp2
  go_loop [1, 5] (fun q i => ∃ j : Nat, j ≤ n ∧ i = .int .i64 j ∧ q = .int .i64 ((k : Int) + (j : Int) * 4)) (fun _ i => n - (intOf i).toNat)
  case atStart => exact ⟨0, Nat.zero_le _, rfl, by go_num⟩
  case round =>
    obtain ⟨j, hj, rfl, rfl⟩ := hrel
    by_cases hlt : j < n
    · obtain ⟨b, off, rfl, _, hc0, hc1, hc2, hc3⟩ := h.get (i := j) (by rw [mkP_length]; exact hlt)
      simp only [mkP, List.getElem_map, List.getElem_range] at hc0 hc1 hc2 hc3
      rw [show ((k + j * 4 : Nat) : Int) = (k : Int) + (j : Int) * 4 by omega] at hc0
      rw [show ((k + j * 4 + 1 : Nat) : Int) = (k : Int) + (j : Int) * 4 + 1 by omega] at hc1
      rw [show ((k + j * 4 + 2 : Nat) : Int) = (k : Int) + (j : Int) * 4 + 1 + 1 by omega] at hc2
      rw [show ((k + j * 4 + 3 : Nat) : Int) = (k : Int) + (j : Int) * 4 + 1 + 1 + 1 by omega] at hc3
      go_wp2
      go_round
      case rel => exact ⟨j + 1, by omega, by go_num, by go_num⟩
      case measure => simp [intOf]; omega
    · go_wp2
      go_ret
      obtain rfl : j = n := by omega
      exact ⟨ret_int (by omega), rfl⟩

theorem eqLogResult_same (a : Int) (ss : List Stp) (A A' : Option Addr) (c c' : Nat) (w : World) (hm : ss.length ≤ maxLen) (h : RdP w w.heap.size A ss) (h' : RdP w w.heap.size A' ss) :
    Calls Try.prog 35 #[.agg #[.int .i64 a, .slice A ss.length c], .agg #[.int .i64 a, .slice A' ss.length c']] w fun e w' => e = .returned (.bool true) ∧ Below w.heap.size w w' := by
  go_enter Try.func35, Try.ntmps35
  go_wp2_with fail
  refine (eqStepS_same ss A A' c c' _ hm ((h.alloc (Nat.le_refl _) _).alloc (by simp) _).lt ((h'.alloc (Nat.le_refl _) _).alloc (by simp) _).lt).mono ?_
  rintro e w1 ⟨rfl, hb⟩
  go_wp2
  go_ret
  exact ⟨rfl, below_alloc (below_alloc hb)⟩

theorem markLogResult_any (base : Nat) (a : Int) (A : Option Addr) (n c k : Nat) (xs : List Value) (w : World) (hk : k + n * 4 ≤ 1073741824) (h : w.ownsRow base 80 4 (.slice A n c) n xs) :
    Calls Try.prog 40 #[.agg #[.int .i64 a, .slice A n c], .int .i64 k] w fun e w' => e = .returned (.int .i64 ((k + n * 4 : Nat) : Int)) ∧ w'.ownsRow base 80 4 (.slice A n c) n (stps (mkP k n)) ∧ w.grownBy w' (Value.slice A n c).ownBlock := by
  go_enter Try.func40, Try.ntmps40
  go_wp2_with fail
  refine (markStepS_any base A n c k xs _ hk (h.alloc _)).mono ?_
  rintro e w1 ⟨rfl, ho, hg⟩
  go_wp2
  go_ret
  exact ⟨rfl, ho, (World.grownBy_alloc _ _ _).trans hg⟩

theorem heldLogResult_marked (B : Nat) (a : Int) (A : Option Addr) (n c k : Nat) (w : World) (hk : k + n * 4 ≤ 1073741824) (hB : B ≤ w.heap.size) (h : RdP w B A (mkP k n)) :
    Calls Try.prog 41 #[.agg #[.int .i64 a, .slice A n c], .int .i64 k] w fun e w' => e = .returned (.int .i64 ((k + n * 4 : Nat) : Int)) ∧ Below w.heap.size w w' := by
  go_enter Try.func41, Try.ntmps41
  go_wp2_with fail
  refine (heldStepS_marked B A n c k _ hk (h.alloc hB _)).mono ?_
  rintro e w1 ⟨rfl, rfl⟩
  go_wp2
  go_ret
  exact ⟨rfl, by go_grown⟩
end Go.Proofs.Ythomadhdjapahaa
