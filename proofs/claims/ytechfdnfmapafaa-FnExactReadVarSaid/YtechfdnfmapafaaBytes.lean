/- Contracts of the exact laws' own helpers on byte rows: copied, compared, marked, held. -/
import Derived.Test.YtechfdnfmapafaaChecked
import Derived.Test.YtechfdnfmapafaaBase
import Derived.ProofKit
import Derived.OpenShut
import Derived.Handy
import Derived.Outline
import Derived.BigQuiet
import Derived.Deep.QuietTactic
import Derived.WalkLawsBesides
import Derived.WalkSmall
import Derived.OwnWalk
namespace Go.Proofs.Ytechfdnfmapafaa
open Go.RowKit

theorem info_u8 : (Try.prog.info? 5).map (fun i => (i.zero, i.size, i.bytes)) = some (some (.int .u8 0), 1, 1) := by kernel_rfl

set_option maxHeartbeats 400000 in
theorem eqByteS_same (l : List Int) (A A' : Option Addr) (c c' : Nat) (w : World) (hm : l.length ≤ maxLen) (h : Rd .u8 w w.heap.size A l) (h' : Rd .u8 w w.heap.size A' l) :
    Calls Try.prog 17 #[.slice A l.length c, .slice A' l.length c'] w fun e w' => e = .returned (.bool true) ∧ Below w.heap.size w w' := by
  unfold maxLen at hm
  go_enter Try.func17, Try.ntmps17
  go_wp2
  go_loopw [5] (fun i wr => ∃ k : Nat, k ≤ l.length ∧ i = .int .i64 k ∧ Below w.heap.size w wr) (fun i _ => l.length - (intOf i).toNat)
  case atStart => exact ⟨0, Nat.zero_le _, rfl, Below.refl _ _⟩
  case round =>
    obtain ⟨k, hk, rfl, hb⟩ := hrel
    by_cases hlt : k < l.length
    · obtain ⟨b, off, rfl, hbb, hc⟩ := (h.below hb).get hlt
      obtain ⟨b', off', rfl, hbb', hc'⟩ := (h'.below hb).get hlt
      go_wp2
      go_quiet (fail)
      go_wp2
      go_roundw
      case rel => exact ⟨k + 1, by omega, by go_num, below_drewN hb _⟩
      case measure => simp [intOf]; omega
    · go_wp2
      go_ret
      exact ⟨rfl, hb⟩

theorem set_append {α : Type} (p s : List α) (x y : α) : (p ++ y :: s).set p.length x = p ++ x :: s := by simp

/-- After k rounds of a copy: the first k are there, the rest as it was made. -/
def half (l : List Int) (k : Nat) : List Value := (l.take k).map (Value.int .u8) ++ List.replicate (l.length - k) (Value.int .u8 0)
theorem half_zero (l : List Int) : half l 0 = List.replicate l.length (Value.int .u8 0) := by simp [half]
theorem half_all (l : List Int) : half l l.length = l.map (Value.int .u8) := by simp [half]
theorem half_set (l : List Int) (k : Nat) (hk : k < l.length) : (half l k).set k (.int .u8 l[k]) = half l (k + 1) := by
  unfold half
  rw [show l.length - k = (l.length - (k + 1)) + 1 by omega, List.replicate_succ, List.take_succ_eq_append_getElem hk, List.map_append]
  have e : k = ((l.take k).map (Value.int IntKind.u8)).length := by simp; omega
  conv => lhs; arg 2; rw [e]
  rw [set_append]
  simp
theorem made_u8 (n : Nat) : (madeCells (Value.int .u8 0).cells (n * 1)).toList = List.replicate n (Value.int .u8 0) := by
  apply List.ext_getElem
  · simp [madeCells]
  · intro i h1 h2
    simp [madeCells, Value.cells, Nat.mod_one]

set_option maxHeartbeats 400000 in
theorem toByteS_any (l : List Int) (A : Option Addr) (c : Nat) (w : World) (hm : l.length ≤ 1048576) (h : Rd .u8 w w.heap.size A l) :
    Calls Try.prog 14 #[.slice A l.length c] w fun e w' => ∃ g, e = .returned (.slice (some ⟨g, 0, none⟩) l.length l.length) ∧ w'.ownsRow w.heap.size 5 1 (.slice (some ⟨g, 0, none⟩) l.length l.length) l.length (l.map (Value.int .u8)) ∧ Below w.heap.size w w' := by
  obtain ⟨i0, hi, hz0, hz1, hz2⟩ := info_parts info_u8
  go_enter Try.func14, Try.ntmps14
  go_wp2_with (at_make; refine wpList_make_full _ rfl _ _ 22 rfl w.heap.size 5 i0 (.int .u8 0) 1 Try.underlying22 hi hz0 hz1 .i64 .i64 _ _ l.length rfl rfl rfl rfl (by rw [hz2]; omega) (by unfold maxLen; omega) (Nat.le_refl _) ?_; intro w1 hown hg)
  rw [made_u8, ← half_zero] at hown
  have hb1 : Below w.heap.size w w1 := (Below.refl _ _).grown hg (Nat.le_refl _) (by simp)
  clear hg
  go_loopw [4] (fun i wr => ∃ k : Nat, k ≤ l.length ∧ i = .int .i64 k ∧ wr.ownsRow w.heap.size 5 1 (.slice (some ⟨w.heap.size, 0, none⟩) l.length l.length) l.length (half l k) ∧ Below w.heap.size w wr) (fun i _ => l.length - (intOf i).toNat)
  case atStart => exact ⟨0, Nat.zero_le _, rfl, hown, hb1⟩
  case round =>
    obtain ⟨k, hk, rfl, ho, hb⟩ := hrel
    by_cases hlt : k < l.length
    · obtain ⟨b, off, rfl, hbb, hc⟩ := (h.below hb).get hlt
      have hf := ho.frozenAt k
      obtain ⟨v, hx⟩ : ∃ v, wr.cell? ⟨w.heap.size, k, none⟩ = some v := by
        rw [ho.cellAt k (by omega)]
        exact ⟨_, List.getElem?_eq_getElem (by rw [ho.1]; omega)⟩
      have hs := ho.stored k (.int .u8 l[k])
      have HS := hide hs
      clear hs
      go_wp2
      go_roundw
      case rel =>
        refine ⟨k + 1, by omega, by go_num, ?_, hb.setCell (Nat.le_refl _) _⟩
        rw [← half_set l k hlt]
        exact HS.out.1
      case measure => simp [intOf]; omega
    · go_wp2
      go_ret
      obtain rfl : k = l.length := by omega
      rw [half_all] at ho
      exact ⟨_, rfl, ho, hb⟩

/-- The marks that are laid from k on. -/
def mkL (k n : Nat) : List Int := (List.range n).map fun i => (((k + i) % 256 : Nat) : Int)
theorem mkL_length (k n : Nat) : (mkL k n).length = n := by simp [mkL]
theorem mkL_get (k n i : Nat) (h : i < (mkL k n).length) : (mkL k n)[i] = (((k + i) % 256 : Nat) : Int) := by simp [mkL]
/-- After j rounds of marking. -/
def marked (xs : List Value) (k j : Nat) : List Value := (mkL k j).map (Value.int .u8) ++ xs.drop j
theorem marked_zero (xs : List Value) (k : Nat) : marked xs k 0 = xs := by simp [marked, mkL]
theorem marked_all (xs : List Value) (k : Nat) : marked xs k xs.length = (mkL k xs.length).map (Value.int .u8) := by simp [marked]
theorem marked_length (xs : List Value) (k j : Nat) (h : j ≤ xs.length) : (marked xs k j).length = xs.length := by simp [marked, mkL]; omega
theorem marked_set (xs : List Value) (k j : Nat) (h : j < xs.length) : (marked xs k j).set j (.int .u8 ((((k + j) % 256 : Nat)) : Int)) = marked xs k (j + 1) := by
  unfold marked
  rw [List.drop_eq_getElem_cons h]
  have e : j = ((mkL k j).map (Value.int IntKind.u8)).length := by simp [mkL]
  conv => lhs; arg 2; rw [e]
  rw [set_append]
  simp [mkL, List.range_succ]

set_option maxHeartbeats 400000 in
theorem markByteS_any (base : Nat) (A : Option Addr) (n c k : Nat) (xs : List Value) (w : World) (hk : k + n ≤ 1073741824) (h : w.ownsRow base 5 1 (.slice A n c) n xs) :
    Calls Try.prog 26 #[.slice A n c, .int .i64 k] w fun e w' => e = .returned (.int .i64 ((k + n : Nat) : Int)) ∧ w'.ownsRow base 5 1 (.slice A n c) n ((mkL k n).map (Value.int .u8)) ∧ w.grownBy w' (Value.slice A n c).ownBlock := by
  have hl : xs.length = n := by simpa using h.1
  go_enter Try.func26, Try.ntmps26
  go_wp2
  go_loopw [1, 5] (fun q i wr => ∃ j : Nat, j ≤ n ∧ i = .int .i64 j ∧ q = .int .i64 ((k + j : Nat) : Int) ∧ wr.ownsRow base 5 1 (.slice A n c) n (marked xs k j) ∧ w.grownBy wr (Value.slice A n c).ownBlock) (fun _ i _ => n - (intOf i).toNat)
  case atStart => exact ⟨0, Nat.zero_le _, rfl, rfl, by rw [marked_zero]; exact h, ⟨rfl, rfl, rfl, Nat.le_refl _, fun _ _ _ => rfl⟩⟩
  case round =>
    obtain ⟨j, hj, rfl, rfl, ho, hg⟩ := hrel
    by_cases hlt : j < n
    · obtain ⟨g, rfl⟩ : ∃ g, A = some ⟨g, 0, none⟩ := by
        rcases ho.2 with ⟨h', h''⟩ | ⟨g, cap, cur, h', _⟩
        · omega
        · simp only [Value.slice.injEq, true_and] at h'
          exact ⟨g, h'.1⟩
      have hf := ho.frozenAt j
      obtain ⟨v, hx⟩ : ∃ v, wr.cell? ⟨g, j, none⟩ = some v := by
        rw [ho.cellAt j (by omega)]
        exact ⟨_, List.getElem?_eq_getElem (by rw [ho.1]; omega)⟩
      have HS := hide (ho.stored j (.int .u8 ((((k + j) % 256 : Nat)) : Int)))
      go_wp2
      go_roundw
      case rel =>
        refine ⟨j + 1, by omega, by go_num, by go_num, ?_, ?_⟩
        · rw [← marked_set xs k j (by omega), show (((k + j) % 256 : Nat) : Int) = ((k : Int) + (j : Int)) % 256 by omega]
          have := HS.out.1
          rw [show (((k + j) % 256 : Nat) : Int) = ((k : Int) + (j : Int)) % 256 by omega] at this
          exact this
        · have := HS.out.2
          rw [show (((k + j) % 256 : Nat) : Int) = ((k : Int) + (j : Int)) % 256 by omega] at this
          exact hg.trans this
      case measure => simp [intOf]; omega
    · go_wp2
      go_ret
      obtain rfl : j = n := by omega
      refine ⟨rfl, ?_, hg⟩
      have := marked_all xs k
      rw [hl] at this
      rw [← this]
      exact ho

set_option maxHeartbeats 400000 in
theorem heldByteS_marked (B : Nat) (A : Option Addr) (n c k : Nat) (w : World) (hk : k + n ≤ 1073741824) (h : Rd .u8 w B A (mkL k n)) :
    Calls Try.prog 27 #[.slice A n c, .int .i64 k] w fun e w' => e = .returned (.int .i64 ((k + n : Nat) : Int)) ∧ w = w' := by
  go_enter Try.func27, Try.ntmps27
  go_wp2
  go_loop [1, 5] (fun q i => ∃ j : Nat, j ≤ n ∧ i = .int .i64 j ∧ q = .int .i64 ((k + j : Nat) : Int)) (fun _ i => n - (intOf i).toNat)
  case atStart => exact ⟨0, Nat.zero_le _, rfl, rfl⟩
  case round =>
    obtain ⟨j, hj, rfl, rfl⟩ := hrel
    by_cases hlt : j < n
    · obtain ⟨b, off, rfl, _, hc⟩ := h.get (i := j) (by rw [mkL_length]; exact hlt)
      rw [mkL_get, show (((k + j) % 256 : Nat) : Int) = ((k : Int) + (j : Int)) % 256 by omega] at hc
      go_wp2
      go_round
      case rel => exact ⟨j + 1, by omega, by go_num, by go_num⟩
      case measure => simp [intOf]; omega
    · go_wp2
      go_ret
      obtain rfl : j = n := by omega
      exact ⟨rfl, rfl⟩
end Go.Proofs.Ytechfdnfmapafaa
