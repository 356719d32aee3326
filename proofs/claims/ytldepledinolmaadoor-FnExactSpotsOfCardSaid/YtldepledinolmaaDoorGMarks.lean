/- Contracts of the exact laws' own helpers on slices of events: marked, held; and on answers with events. -/
import Derived.Test.YtldepledinolmaaDoorGEv
namespace Go.Proofs.YtldepledinolmaaDoor
open Go.RowKit

/-- The marks that are laid from k on. -/
def mkE (k n : Nat) : List Ev := (List.range n).map fun i => ⟨((k + i * 3 : Nat) : Int), ((k + i * 3 + 1 : Nat) : Int), ((k + i * 3 + 2 : Nat) : Int)⟩
theorem mkE_length (k n : Nat) : (mkE k n).length = n := by simp [mkE]
theorem mkE_succ (k n : Nat) : mkE k (n + 1) = mkE k n ++ [⟨((k + n * 3 : Nat) : Int), ((k + n * 3 + 1 : Nat) : Int), ((k + n * 3 + 2 : Nat) : Int)⟩] := by simp [mkE, List.range_succ]
/-- After j rounds of marking. -/
def markedE (xs : List Value) (k j : Nat) : List Value := evs (mkE k j) ++ xs.drop (j * 3)
theorem markedE_zero (xs : List Value) (k : Nat) : markedE xs k 0 = xs := by simp [markedE, mkE, evs]
theorem markedE_all (xs : List Value) (k n : Nat) (h : xs.length = n * 3) : markedE xs k n = evs (mkE k n) := by
  unfold markedE
  rw [List.drop_eq_nil_of_le (by omega), List.append_nil]
theorem markedE_set (xs : List Value) (k j n : Nat) (h : xs.length = n * 3) (hj : j < n) :
    (((markedE xs k j).set (j * 3) (.int .i64 ((k + j * 3 : Nat) : Int))).set (j * 3 + 1) (.int .i64 ((k + j * 3 + 1 : Nat) : Int))).set (j * 3 + 2) (.int .i64 ((k + j * 3 + 2 : Nat) : Int)) = markedE xs k (j + 1) := by
  unfold markedE
  rw [List.drop_eq_getElem_cons (by omega), List.drop_eq_getElem_cons (by omega), List.drop_eq_getElem_cons (by omega)]
  rw [set3 _ _ _ _ _ _ _ _ _ (by rw [evs_length, mkE_length]), mkE_succ, evs_append]
  simp only [evs, List.append_assoc, List.cons_append, List.nil_append]
  rw [show (j + 1) * 3 = j * 3 + 1 + 1 + 1 by omega]

set_option maxRecDepth 100000 in
set_option maxHeartbeats 800000 in
theorem markEventS_any (base : Nat) (A : Option Addr) (n c k : Nat) (xs : List Value) (w : World) (hk : k + n * 3 ≤ 1073741824) (h : w.ownsRow base 55 3 (.slice A n c) n xs) :
    Calls Tryd.prog 43 #[.slice A n c, .int .i64 k] w fun e w' => e = .returned (.int .i64 ((k + n * 3 : Nat) : Int)) ∧ w'.ownsRow base 55 3 (.slice A n c) n (evs (mkE k n)) ∧ w.grownBy w' (Value.slice A n c).ownBlock := by
  have hl : xs.length = n * 3 := h.1
  go_enter Tryd.func43, Tryd.ntmps43
  go_wp2
  go_loopw [1, 5] (fun q i wr => ∃ j : Nat, j ≤ n ∧ i = .int .i64 j ∧ q = .int .i64 ((k + j * 3 : Nat) : Int) ∧ wr.ownsRow base 55 3 (.slice A n c) n (markedE xs k j) ∧ w.grownBy wr (Value.slice A n c).ownBlock) (fun _ i _ => n - (intOf i).toNat)
  case atStart => exact ⟨0, Nat.zero_le _, rfl, rfl, by rw [markedE_zero]; exact h, ⟨rfl, rfl, rfl, Nat.le_refl _, fun _ _ _ => rfl⟩⟩
  case round =>
    obtain ⟨j, hj, rfl, rfl, ho, hg⟩ := hrel
    by_cases hlt : j < n
    · obtain ⟨g, rfl⟩ : ∃ g, A = some ⟨g, 0, none⟩ := by
        rcases ho.2 with ⟨h', h''⟩ | ⟨g, cap, cur, h', _⟩
        · omega
        · simp only [Value.slice.injEq, true_and] at h'
          exact ⟨g, h'.1⟩
      have hlen := ho.1
      have hf0 := ho.frozenAt (j * 3)
      have hf1 := ho.frozenAt (j * 3 + 1)
      have hf2 := ho.frozenAt (j * 3 + 2)
      obtain ⟨v0, hx0⟩ : ∃ v, wr.cell? ⟨g, j * 3, none⟩ = some v := by
        rw [ho.cellAt (j * 3) (by omega)]
        exact ⟨_, List.getElem?_eq_getElem (by omega)⟩
      obtain ⟨v1, hx1⟩ : ∃ v, wr.cell? ⟨g, j * 3 + 1, none⟩ = some v := by
        rw [ho.cellAt (j * 3 + 1) (by omega)]
        exact ⟨_, List.getElem?_eq_getElem (by omega)⟩
      obtain ⟨v2, hx2⟩ : ∃ v, wr.cell? ⟨g, j * 3 + 2, none⟩ = some v := by
        rw [ho.cellAt (j * 3 + 2) (by omega)]
        exact ⟨_, List.getElem?_eq_getElem (by omega)⟩
      have h1 := ho.stored (j * 3) (.int .i64 ((k : Int) + (j : Int) * 3))
      have h2 := h1.1.stored (j * 3 + 1) (.int .i64 ((k : Int) + (j : Int) * 3 + 1))
      have h3 := h2.1.stored (j * 3 + 2) (.int .i64 ((k : Int) + (j : Int) * 3 + 1 + 1))
      have HS := hide h3.1
      have HG := hide ((h1.2.trans h2.2).trans h3.2)
      have hM := markedE_set xs k j n hl hlt
      rw [show ((k + j * 3 : Nat) : Int) = (k : Int) + (j : Int) * 3 by omega, show ((k + j * 3 + 1 : Nat) : Int) = (k : Int) + (j : Int) * 3 + 1 by omega, show ((k + j * 3 + 2 : Nat) : Int) = (k : Int) + (j : Int) * 3 + 1 + 1 by omega] at hM
      have HM := hide hM
      clear h1 h2 h3 hlen ho hM
      go_wp2
      go_roundw
      case rel => exact ⟨j + 1, by omega, by go_num, by go_num, by rw [← HM.out]; exact HS.out, hg.trans HG.out⟩
      case measure => simp [intOf]; omega
    · go_wp2
      go_ret
      obtain rfl : j = n := by omega
      refine ⟨rfl, ?_, hg⟩
      rw [← markedE_all xs k j hl]
      exact ho

end Go.Proofs.YtldepledinolmaaDoor
