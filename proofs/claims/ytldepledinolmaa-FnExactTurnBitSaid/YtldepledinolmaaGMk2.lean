/- Contracts of the exact laws' own helpers on byte rows: marked, held. Contracts of the exact laws' own helpers on answers with bytes: compared, marked, held. -/
import Derived.Test.YtldepledinolmaaGEv
namespace Go.Proofs.Ytldepledinolmaa
open Go.RowKit

/-- The marks that are laid from k on. -/
def mkL (k n : Nat) : List Int := (List.range n).map fun i => (((k + i) % 256 : Nat) : Int)
theorem mkL_length (k n : Nat) : (mkL k n).length = n := by simp [mkL]
theorem mkL_get (k n i : Nat) (h : i < (mkL k n).length) : (mkL k n)[i] = (((k + i) % 256 : Nat) : Int) := by simp [mkL]
/-- After j rounds of marking. -/
def marked (xs : List Value) (k j : Nat) : List Value := (mkL k j).map (Value.int .u8) ++ xs.drop j
theorem marked_zero (xs : List Value) (k : Nat) : marked xs k 0 = xs := by simp [marked, mkL]
theorem marked_all (xs : List Value) (k : Nat) : marked xs k xs.length = (mkL k xs.length).map (Value.int .u8) := by simp [marked]
theorem marked_length (xs : List Value) (k j : Nat) (h : j ≤ xs.length) : (marked xs k j).length = xs.length := by simp [marked, mkL]; omega
theorem marked_set (xs : List Value) (k j : Nat) (h : j < xs.length) : (marked xs k j).set j (.int .u8 ((((k + j) % 256 : Nat)) : Int)) = marked xs k (j + 1) := by
  unfold marked
  rw [List.drop_eq_getElem_cons h]
  have e : j = ((mkL k j).map (Value.int IntKind.u8)).length := by simp [mkL]
  conv => lhs; arg 2; rw [e]
  rw [set_append]
  simp [mkL, List.range_succ]

set_option maxHeartbeats 400000 in
theorem markByteS_any (base : Nat) (A : Option Addr) (n c k : Nat) (xs : List Value) (w : World) (hk : k + n ≤ 1073741824) (h : w.ownsRow base 5 1 (.slice A n c) n xs) :
    Calls Try.prog 48 #[.slice A n c, .int .i64 k] w fun e w' => e = .returned (.int .i64 ((k + n : Nat) : Int)) ∧ w'.ownsRow base 5 1 (.slice A n c) n ((mkL k n).map (Value.int .u8)) ∧ w.grownBy w' (Value.slice A n c).ownBlock := by
  have hl : xs.length = n := by simpa using h.1
  go_enter Try.func48, Try.ntmps48
  go_wp2
  go_loopw [1, 5] (fun q i wr => ∃ j : Nat, j ≤ n ∧ i = .int .i64 j ∧ q = .int .i64 ((k + j : Nat) : Int) ∧ wr.ownsRow base 5 1 (.slice A n c) n (marked xs k j) ∧ w.grownBy wr (Value.slice A n c).ownBlock) (fun _ i _ => n - (intOf i).toNat)
  case atStart => exact ⟨0, Nat.zero_le _, rfl, rfl, by rw [marked_zero]; exact h, ⟨rfl, rfl, rfl, Nat.le_refl _, fun _ _ _ => rfl⟩⟩
  case round =>
    obtain ⟨j, hj, rfl, rfl, ho, hg⟩ := hrel
    by_cases hlt : j < n
    · obtain ⟨g, rfl⟩ : ∃ g, A = some ⟨g, 0, none⟩ := by
        rcases ho.2 with ⟨h', h''⟩ | ⟨g, cap, cur, h', _⟩
        · omega
        · simp only [Value.slice.injEq, true_and] at h'
          exact ⟨g, h'.1⟩
      have hf := ho.frozenAt j
      obtain ⟨v, hx⟩ : ∃ v, wr.cell? ⟨g, j, none⟩ = some v := by
        rw [ho.cellAt j (by omega)]
        exact ⟨_, List.getElem?_eq_getElem (by rw [ho.1]; omega)⟩
      have HS := hide (ho.stored j (.int .u8 ((((k + j) % 256 : Nat)) : Int)))
      go_wp2
      go_roundw
      case rel =>
        refine ⟨j + 1, by omega, by go_num, by go_num, ?_, ?_⟩
        · rw [← marked_set xs k j (by omega), show (((k + j) % 256 : Nat) : Int) = ((k : Int) + (j : Int)) % 256 by omega]
          have := HS.out.1
          rw [show (((k + j) % 256 : Nat) : Int) = ((k : Int) + (j : Int)) % 256 by omega] at this
          exact this
        · have := HS.out.2
          rw [show (((k + j) % 256 : Nat) : Int) = ((k : Int) + (j : Int)) % 256 by omega] at this
          exact hg.trans this
      case measure => simp [intOf]; omega
    · go_wp2
      go_ret
      obtain rfl : j = n := by omega
      refine ⟨rfl, ?_, hg⟩
      have := marked_all xs k
      rw [hl] at this
      rw [← this]
      exact ho

set_option maxHeartbeats 400000 in
theorem heldByteS_marked (B : Nat) (A : Option Addr) (n c k : Nat) (w : World) (hk : k + n ≤ 1073741824) (h : Rd .u8 w B A (mkL k n)) :
    Calls Try.prog 95 #[.slice A n c, .int .i64 k] w fun e w' => e = .returned (.int .i64 ((k + n : Nat) : Int)) ∧ w = w' := by
  go_enter Try.func95, Try.ntmps95
  go_wp2
  go_loop [1, 5] (fun q i => ∃ j : Nat, j ≤ n ∧ i = .int .i64 j ∧ q = .int .i64 ((k + j : Nat) : Int)) (fun _ i => n - (intOf i).toNat)
  case atStart => exact ⟨0, Nat.zero_le _, rfl, rfl⟩
  case round =>
    obtain ⟨j, hj, rfl, rfl⟩ := hrel
    by_cases hlt : j < n
    · obtain ⟨b, off, rfl, _, hc⟩ := h.get (i := j) (by rw [mkL_length]; exact hlt)
      rw [mkL_get, show (((k + j) % 256 : Nat) : Int) = ((k : Int) + (j : Int)) % 256 by omega] at hc
      go_wp2
      go_round
      case rel => exact ⟨j + 1, by omega, by go_num, by go_num⟩
      case measure => simp [intOf]; omega
    · go_wp2
      go_ret
      obtain rfl : j = n := by omega
      exact ⟨rfl, rfl⟩
end Go.Proofs.Ytldepledinolmaa
namespace Go.Proofs.Ytldepledinolmaa
open Go.RowKit

theorem eqBytesResult_same (a : Int) (l : List Int) (A A' : Option Addr) (c c' : Nat) (w : World) (hm : l.length ≤ maxLen) (h : Rd .u8 w w.heap.size A l) (h' : Rd .u8 w w.heap.size A' l) :
    Calls Try.prog 46 #[.agg #[.int .i64 a, .slice A l.length c], .agg #[.int .i64 a, .slice A' l.length c']] w fun e w' => e = .returned (.bool true) ∧ Below w.heap.size w w' := by
  go_enter Try.func46, Try.ntmps46
  go_wp2_with fail
  refine (eqByteS_same l A A' c c' _ hm ((h.alloc (Nat.le_refl _) _).alloc (by simp) _).lt ((h'.alloc (Nat.le_refl _) _).alloc (by simp) _).lt).mono ?_
  rintro e w1 ⟨rfl, hb⟩
  go_wp2
  go_ret
  exact ⟨rfl, below_alloc (below_alloc hb)⟩

theorem markBytesResult_any (base : Nat) (a : Int) (A : Option Addr) (n c k : Nat) (xs : List Value) (w : World) (hk : k + n ≤ 1073741824) (h : w.ownsRow base 5 1 (.slice A n c) n xs) :
    Calls Try.prog 49 #[.agg #[.int .i64 a, .slice A n c], .int .i64 k] w fun e w' => e = .returned (.int .i64 ((k + n : Nat) : Int)) ∧ w'.ownsRow base 5 1 (.slice A n c) n ((mkL k n).map (Value.int .u8)) ∧ w.grownBy w' (Value.slice A n c).ownBlock := by
  go_enter Try.func49, Try.ntmps49
  go_wp2_with fail
  refine (markByteS_any base A n c k xs _ hk (h.alloc _)).mono ?_
  rintro e w1 ⟨rfl, ho, hg⟩
  go_wp2
  go_ret
  exact ⟨rfl, ho, (World.grownBy_alloc _ _ _).trans hg⟩

theorem heldBytesResult_marked (B : Nat) (a : Int) (A : Option Addr) (n c k : Nat) (w : World) (hk : k + n ≤ 1073741824) (hB : B ≤ w.heap.size) (h : Rd .u8 w B A (mkL k n)) :
    Calls Try.prog 50 #[.agg #[.int .i64 a, .slice A n c], .int .i64 k] w fun e w' => e = .returned (.int .i64 ((k + n : Nat) : Int)) ∧ Below w.heap.size w w' := by
  go_enter Try.func50, Try.ntmps50
  go_wp2_with fail
  refine (heldByteS_marked B A n c k _ hk (h.alloc hB _)).mono ?_
  rintro e w1 ⟨rfl, rfl⟩
  go_wp2
  go_ret
  exact ⟨rfl, by go_grown⟩
end Go.Proofs.Ytldepledinolmaa
