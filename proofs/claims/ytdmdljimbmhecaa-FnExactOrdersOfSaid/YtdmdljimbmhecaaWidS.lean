/- Contracts of the exact laws' own helpers on slices of ids: measured, copied, compared, marked, held. -/
import Derived.Test.YtdmdljimbmhecaaGMcs
import Derived.StillTailTactics
import Derived.Lib.Hide
namespace Go.Proofs.Ytdmdljimbmhecaa
open Go.RowKit

theorem toWriteId_any (a v : Int) (w : World) :
    Calls Try.prog 133 #[celV a v] w fun e w' => e = .returned (celV a v) ∧ Below w.heap.size w w' := by
  go_enter Try.func133, Try.ntmps133
  go_wp2
  refine bodyPost_ret (v := celV a v) (by simp [results, Try.results133, go_sem]) rfl ?_
  exact ⟨rfl, by go_grown⟩
theorem eqWriteId_same (a v : Int) (w : World) :
    Calls Try.prog 134 #[celV a v, celV a v] w fun e w' => e = .returned (.bool true) ∧ Below w.heap.size w w' := by
  go_enter Try.func134, Try.ntmps134
  go_wp2
  go_ret
  exact ⟨rfl, by go_grown⟩
theorem info_wid : (Try.prog.info? 96).map (fun i => (i.zero, i.size, i.bytes)) = some (some (.agg #[.int .i64 0, .int .i64 0]), 2, 16) := by kernel_rfl

theorem szWriteIdS_fit (A : Option Addr) (n c m : Nat) (w : World) (hm : n ≤ m) (h : m ≤ 1048576) :
    Calls Try.prog 115 #[.slice A n c, .int .i64 m] w fun e w' => e = .returned (.int .i64 ((m - n : Nat) : Int)) ∧ w = w' := by
  go_enter Try.func115, Try.ntmps115
  go_wp2
  go_ret
  exact ⟨ret_int (by omega), rfl⟩
theorem szWriteIdS_not (A : Option Addr) (n c m : Nat) (w : World) (hm : m < n) (h : m ≤ 1048576) (hn : n ≤ maxLen) :
    Calls Try.prog 115 #[.slice A n c, .int .i64 m] w fun e w' => e = .returned (.int .i64 (-1)) ∧ w = w' := by
  unfold maxLen at hn
  go_enter Try.func115, Try.ntmps115
  go_wp2
  go_ret
  exact ⟨rfl, rfl⟩

set_option maxRecDepth 100000 in
set_option maxHeartbeats 400000 in
theorem eqWriteIdS_same (es : List Cel) (A A' : Option Addr) (c c' : Nat) (w : World) (hm : es.length ≤ maxLen) (h : RdC w w.heap.size A es) (h' : RdC w w.heap.size A' es) :
    Calls Try.prog 119 #[.slice A es.length c, .slice A' es.length c'] w fun e w' => e = .returned (.bool true) ∧ Below w.heap.size w w' := by
  unfold maxLen at hm
  go_enter Try.func119, Try.ntmps119
  go_wp2
  go_loopw [5] (fun i wr => ∃ k : Nat, k ≤ es.length ∧ i = .int .i64 k ∧ Below w.heap.size w wr) (fun i _ => es.length - (intOf i).toNat)
  case atStart => exact ⟨0, Nat.zero_le _, rfl, Below.refl _ _⟩
  case round =>
    obtain ⟨k, hk, rfl, hb⟩ := hrel
    by_cases hlt : k < es.length
    · obtain ⟨b, off, rfl, hbb, hc0, hc1⟩ := (h.below hb).get hlt
      obtain ⟨b', off', rfl, hbb', hd0, hd1⟩ := (h'.below hb).get hlt
      go_wp2
      go_still_tail 8, (by kernel_rfl)
      change wpList _ _ _ _ _ wr.drew
      generalize hw2 : wr.drew = w2
      have hb2 : Below w.heap.size w w2 := by rw [← hw2]; exact hb.drew
      clear hw2
      go_wp2_with fail
      refine (eqWriteId_same _ _ _).mono ?_
      rintro e w3 ⟨rfl, hb3⟩
      have hb4 := hb2.trans (hb3.mono hb2.size)
      go_wp2
      go_roundw
      case rel => exact ⟨k + 1, by omega, by go_num, hb4⟩
      case measure => simp [intOf]; omega
    · go_wp2
      go_ret
      exact ⟨rfl, hb⟩

set_option maxRecDepth 100000 in
set_option maxHeartbeats 400000 in
theorem toWriteIdS_any (es : List Cel) (A : Option Addr) (c : Nat) (w : World) (hm : es.length ≤ 1048576) (h : RdC w w.heap.size A es) :
    Calls Try.prog 117 #[.slice A es.length c] w fun e w' => ∃ g, e = .returned (.slice (some ⟨g, 0, none⟩) es.length es.length) ∧ w'.ownsRow w.heap.size 96 2 (.slice (some ⟨g, 0, none⟩) es.length es.length) es.length (cels es) ∧ Below w.heap.size w w' := by
  obtain ⟨i0, hi, hz0, hz1, hz2⟩ := info_parts info_wid
  go_enter Try.func117, Try.ntmps117
  go_wp2_with (at_make; refine wpList_make_full _ rfl _ _ 80 rfl w.heap.size 96 i0 (.agg #[.int .i64 0, .int .i64 0]) 2 Try.underlying80 hi hz0 hz1 .i64 .i64 _ _ es.length rfl rfl rfl rfl (by rw [hz2]; omega) (by unfold maxLen; omega) (Nat.le_refl _) ?_; intro w1 hown hg)
  rw [made_cell, ← halfC_zero] at hown
  have hb1 : Below w.heap.size w w1 := (Below.refl _ _).grown hg (Nat.le_refl _) (by simp)
  clear hg
  go_loopw [4] (fun i wr => ∃ k : Nat, k ≤ es.length ∧ i = .int .i64 k ∧ wr.ownsRow w.heap.size 96 2 (.slice (some ⟨w.heap.size, 0, none⟩) es.length es.length) es.length (halfC es k) ∧ Below w.heap.size w wr) (fun i _ => es.length - (intOf i).toNat)
  case atStart => exact ⟨0, Nat.zero_le _, rfl, hown, hb1⟩
  case round =>
    obtain ⟨k, hk, rfl, ho, hb⟩ := hrel
    by_cases hlt : k < es.length
    · obtain ⟨b, off, rfl, hbb, hc0, hc1⟩ := (h.below hb).get hlt
      go_wp2_with fail
      refine (toWriteId_any _ _ _).mono ?_
      rintro e w2 ⟨rfl, hb2⟩
      have hb3 := hb.trans (hb2.mono hb.size)
      have ho2 := own_below ho hb2 (Nat.le_refl _)
      have hlen := halfC_length es k hk
      have hf0 := ho2.frozenAt (k * 2)
      have hf1 := ho2.frozenAt (k * 2 + 1)
      obtain ⟨v0, hx0⟩ : ∃ v, w2.cell? ⟨w.heap.size, k * 2, none⟩ = some v := by
        rw [ho2.cellAt (k * 2) (by omega)]
        exact ⟨_, List.getElem?_eq_getElem (by omega)⟩
      obtain ⟨v1, hx1⟩ : ∃ v, w2.cell? ⟨w.heap.size, k * 2 + 1, none⟩ = some v := by
        rw [ho2.cellAt (k * 2 + 1) (by omega)]
        exact ⟨_, List.getElem?_eq_getElem (by omega)⟩
      have HS := hide (((ho2.stored (k * 2) (.int .i64 es[k].a)).1.stored (k * 2 + 1) (.int .i64 es[k].v)).1)
      clear ho2 ho hlen
      go_wp2
      go_roundw
      case rel =>
        refine ⟨k + 1, by omega, by go_num, ?_, (hb3.setCell (Nat.le_refl _) _).setCell (Nat.le_refl _) _⟩
        rw [← halfC_set es k hlt]
        exact HS.out
      case measure => simp [intOf]; omega
    · go_wp2
      go_ret
      obtain rfl : k = es.length := by omega
      rw [halfC_all] at ho
      exact ⟨_, rfl, ho, hb⟩

set_option maxRecDepth 100000 in
set_option maxHeartbeats 800000 in
theorem markWriteIdS_any (base : Nat) (A : Option Addr) (n c k : Nat) (xs : List Value) (w : World) (hk : k + n * 2 ≤ 1073741824) (h : w.ownsRow base 96 2 (.slice A n c) n xs) :
    Calls Try.prog 87 #[.slice A n c, .int .i64 k] w fun e w' => e = .returned (.int .i64 ((k + n * 2 : Nat) : Int)) ∧ w'.ownsRow base 96 2 (.slice A n c) n (cels (mkC k n)) ∧ w.grownBy w' (Value.slice A n c).ownBlock := by
  have hl : xs.length = n * 2 := h.1
  go_enter Try.func87, Try.ntmps87
  go_wp2
  go_loopw [1, 5] (fun q i wr => ∃ j : Nat, j ≤ n ∧ i = .int .i64 j ∧ q = .int .i64 ((k + j * 2 : Nat) : Int) ∧ wr.ownsRow base 96 2 (.slice A n c) n (markedC xs k j) ∧ w.grownBy wr (Value.slice A n c).ownBlock) (fun _ i _ => n - (intOf i).toNat)
  case atStart => exact ⟨0, Nat.zero_le _, rfl, rfl, by rw [markedC_zero]; exact h, ⟨rfl, rfl, rfl, Nat.le_refl _, fun _ _ _ => rfl⟩⟩
  case round =>
    obtain ⟨j, hj, rfl, rfl, ho, hg⟩ := hrel
    by_cases hlt : j < n
    · obtain ⟨g, rfl⟩ : ∃ g, A = some ⟨g, 0, none⟩ := by
        rcases ho.2 with ⟨h', h''⟩ | ⟨g, cap, cur, h', _⟩
        · omega
        · simp only [Value.slice.injEq, true_and] at h'
          exact ⟨g, h'.1⟩
      have hlen := ho.1
      have hf0 := ho.frozenAt (j * 2)
      have hf1 := ho.frozenAt (j * 2 + 1)
      obtain ⟨v0, hx0⟩ : ∃ v, wr.cell? ⟨g, j * 2, none⟩ = some v := by
        rw [ho.cellAt (j * 2) (by omega)]
        exact ⟨_, List.getElem?_eq_getElem (by omega)⟩
      obtain ⟨v1, hx1⟩ : ∃ v, wr.cell? ⟨g, j * 2 + 1, none⟩ = some v := by
        rw [ho.cellAt (j * 2 + 1) (by omega)]
        exact ⟨_, List.getElem?_eq_getElem (by omega)⟩
      have h1 := ho.stored (j * 2) (.int .i64 ((k : Int) + (j : Int) * 2))
      have h2 := h1.1.stored (j * 2 + 1) (.int .i64 ((k : Int) + (j : Int) * 2 + 1))
      have HS := hide h2.1
      have HG := hide (h1.2.trans h2.2)
      have hM := markedC_set xs k j n hl hlt
      rw [show ((k + j * 2 : Nat) : Int) = (k : Int) + (j : Int) * 2 by omega, show ((k + j * 2 + 1 : Nat) : Int) = (k : Int) + (j : Int) * 2 + 1 by omega] at hM
      have HM := hide hM
      clear h1 h2 hlen ho hM
      go_wp2
      go_roundw
      case rel => exact ⟨j + 1, by omega, by go_num, by go_num, by rw [← HM.out]; exact HS.out, hg.trans HG.out⟩
      case measure => simp [intOf]; omega
    · go_wp2
      go_ret
      obtain rfl : j = n := by omega
      refine ⟨rfl, ?_, hg⟩
      rw [← markedC_all xs k j hl]
      exact ho

set_option maxRecDepth 100000 in
set_option maxHeartbeats 800000 in
theorem heldWriteIdS_marked (B : Nat) (A : Option Addr) (n c k : Nat) (w : World) (hk : k + n * 2 ≤ 1073741824) (h : RdC w B A (mkC k n)) :
    Calls Try.prog 120 #[.slice A n c, .int .i64 k] w fun e w' => e = .returned (.int .i64 ((k + n * 2 : Nat) : Int)) ∧ w = w' := by
  go_enter Try.func120, Try.ntmps120
  go_wp2
  go_loop [1, 5] (fun q i => ∃ j : Nat, j ≤ n ∧ i = .int .i64 j ∧ q = .int .i64 ((k : Int) + (j : Int) * 2)) (fun _ i => n - (intOf i).toNat)
  case atStart => exact ⟨0, Nat.zero_le _, rfl, by go_num⟩
  case round =>
    obtain ⟨j, hj, rfl, rfl⟩ := hrel
    by_cases hlt : j < n
    · obtain ⟨b, off, rfl, _, hc0, hc1⟩ := h.get (i := j) (by rw [mkC_length]; exact hlt)
      simp only [mkC, List.getElem_map, List.getElem_range] at hc0 hc1
      rw [show ((k + j * 2 : Nat) : Int) = (k : Int) + (j : Int) * 2 by omega] at hc0
      rw [show ((k + j * 2 + 1 : Nat) : Int) = (k : Int) + (j : Int) * 2 + 1 by omega] at hc1
      go_wp2
      go_round
      case rel => exact ⟨j + 1, by omega, by go_num, by go_num⟩
      case measure => simp [intOf]; omega
    · go_wp2
      go_ret
      obtain rfl : j = n := by omega
      exact ⟨ret_int (by omega), rfl⟩
end Go.Proofs.Ytdmdljimbmhecaa
