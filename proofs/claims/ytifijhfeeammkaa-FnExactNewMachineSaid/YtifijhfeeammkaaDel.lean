/- The contract of slices.Delete at cells, one taken out, in the program. -/
import Derived.Test.YtifijhfeeammkaaBuf
import Derived.StillTailTactics
import Derived.Lib.Hide
namespace Go.Proofs.Ytifijhfeeammkaa
open Go.RowKit

theorem zero_cells (n : Nat) : ∀ v ∈ (Builtin.zeroCells (Value.agg #[.int .i64 0, .int .i64 0]).cells n).toList, v.oneCell' = true := by
  intro v hv
  simp only [Builtin.zeroCells, Array.toList_map, List.mem_map, Value.cells] at hv
  obtain ⟨j, _, rfl⟩ := hv
  have hj : j % 2 = 0 ∨ j % 2 = 1 := by omega
  rcases hj with h | h <;> simp [h] <;> rfl
theorem del_list {mem : List Cel} {n i : Nat} {cur : List Value} (hn : mem.length = n) (hi : i < n) (hx : cur.take (n * 2) = cels mem) :
    (cur.take (i * 2) ++ cels (mem.drop (i + 1)) ++ cur.drop (i * 2 + (cels (mem.drop (i + 1))).length)).take ((n - 1) * 2) = cels (mem.take i ++ mem.drop (i + 1)) := by
  have h1 : cur.take (i * 2) = cels (mem.take i) := by
    rw [← cels_take, ← hx, List.take_take, Nat.min_eq_left (by omega)]
  rw [h1, cels_append]
  have hl : (cels (mem.take i) ++ cels (mem.drop (i + 1))).length = (n - 1) * 2 := by
    rw [List.length_append, cels_length, cels_length, List.length_take, List.length_drop, hn, Nat.min_eq_left (by omega)]
    omega
  rw [← hl, List.take_left]

set_option maxRecDepth 100000 in
set_option maxHeartbeats 800000 in
theorem delete_any (g n cap i : Nat) (cur : Array Value) (mem : List Cel) (w : World) (hg : Bk w g cur 120) (hn : mem.length = n) (hc : n ≤ cap) (hs : cur.size = cap * 2) (hx : cur.toList.take (n * 2) = cels mem) (hi : i < n) (hb : n ≤ 1000000) :
    Calls Try.prog 154 #[.slice (some ⟨g, 0, none⟩) n cap, .int .i64 i, .int .i64 ((i : Int) + 1)] w fun e w' => e = .returned (.slice (some ⟨g, 0, none⟩) (n - 1) cap) ∧ ∃ cur', Bk w' g cur' 120 ∧ cur'.size = cap * 2 ∧ cur'.toList.take ((n - 1) * 2) = cels (mem.take i ++ mem.drop (i + 1)) ∧ w.grownBy w' (some g) := by
  obtain ⟨i0, hi0, hz0, hz1, hz2⟩ := info_parts info_cell
  have e1 : ¬ n = i := by omega
  have e2 : ((i : Int) == (i : Int) + 1) = false := beq_eq_false_iff_ne.2 (by omega)
  have hcut := fun W => run_cutC g n (i + 1) cap ((i : Int) + 1) W (by omega) (by omega)
  have hhead := fun W => run_headC g n i cap (i : Int) W rfl (by omega)
  have hA := fun W (hW : Bk W g cur 120) ty => run_append_row2 (P := Try.prog) W 116 ty 120 i0 Try.underlying116 hi0 hz1 g i cap cur _ hW (cutC g (i + 1) cap) (n - (i + 1)) (cap - (i + 1)) (cels (mem.drop (i + 1))) (by rw [cels_length, List.length_drop, hn]) (by
    by_cases hz : cap = i + 1
    · have : mem.drop (i + 1) = [] := List.drop_eq_nil_of_le (by omega)
      rw [this]
      intro j u hj
      simp [cels] at hj
    · unfold cutC
      rw [if_neg hz]
      refine cells_row hW _ _ fun j hj => ?_
      have hj' : j < (n - (i + 1)) * 2 := by rw [cels_length, List.length_drop, hn] at hj; exact hj
      have e : (cur.toList.take (n * 2))[(i + 1) * 2 + j]? = cur.toList[(i + 1) * 2 + j]? := List.getElem?_take_of_lt (by omega)
      rw [← e, hx, ← List.getElem?_eq_getElem hj, ← cels_drop, List.getElem?_drop]) (cels_one _) (by omega) (by omega)
  have hlen : (cur.toList.take (i * 2) ++ cels (mem.drop (i + 1)) ++ cur.toList.drop (i * 2 + (cels (mem.drop (i + 1))).length)).length = cap * 2 := by
    simp only [List.length_append, List.length_take, List.length_drop, cels_length, Array.length_toList, hn, hs]
    omega
  have hdl := del_list hn hi hx
  generalize cur.toList.take (i * 2) ++ cels (mem.drop (i + 1)) ++ cur.toList.drop (i * 2 + (cels (mem.drop (i + 1))).length) = X at *
  have HA := hide hA
  have HX := hide hdl
  have HL := hide hlen
  have eN : i + (n - (i + 1)) = n - 1 := by omega
  rw [eN] at HA
  have c1 : ((n : Int) - 1) = ((n - 1 : Nat) : Int) := by omega
  have hsl := fun W => (show (Instr.slice 116 (.slice (some ⟨g, 0, none⟩) (n - 1) cap) (some (.int .i64 ((n - 1 : Nat) : Int))) (some (.int .i64 (n : Int))) none).run Try.prog W = .ok (.slice (some ⟨g, (n - 1) * 2, none⟩) 1 (cap - (n - 1))) W by
    have h1 : (0 : Int) ≤ ((n - 1 : Nat) : Int) ∧ ((n - 1 : Nat) : Int) ≤ (n : Int) := by omega
    have h2 : (0 : Int) ≤ (n : Int) ∧ (n : Int) ≤ (cap : Int) := by omega
    have h3 : ¬ cap = n - 1 := by omega
    have h4 : n - (n - 1) = 1 := by omega
    simp [go_sem, h2, h3, h4])
  have HSL := hide hsl
  clear hA hdl hlen hx hs eN hsl
  go_enter Try.func154, Try.ntmps154
  go_wp2
  go_still_tail 6, (by kernel_rfl)
  change wpList _ _ _ _ _ w.drew
  have hg1 : Bk w.drew g cur 120 := hg
  have gr1 : w.grownBy w.drew (some g) := ⟨rfl, rfl, rfl, Nat.le_refl _, fun _ _ _ => rfl⟩
  generalize w.drew = w1 at *
  have hap := HA.out w1 hg1
  have hg2 := setRow_bk hg1 X.toArray
  have gr2 := gr1.trans (setRow_grown w1 g X.toArray)
  have HS2 := HSL.out
  have hX : X.toArray.size = cap * 2 := by simpa using HL.out
  obtain ⟨cs, hcs1, hcs2, hcl⟩ := run_clear_row2 (P := Try.prog) (w1.setRow g X.toArray) 116 120 0 (.agg #[.int .i64 0, .int .i64 0]) Try.underlying116 (by intro W; simp [zeroValue, typeInfo, hi0, hz0]) rfl zero_cells g ((n - 1) * 2) 1 (cap - (n - 1)) X.toArray 120 hg2 (by omega) (by rw [hX]; omega)
  have hg3 := setRow_bk hg2 cs
  have gr3 := gr2.trans (setRow_grown (w1.setRow g X.toArray) g cs)
  have HF := hide (And.intro (hcs1.trans hX) (show cs.toList.take ((n - 1) * 2) = cels (mem.take i ++ mem.drop (i + 1)) by rw [hcs2]; exact HX.out))
  clear hX hcs1 hcs2 HX HL HA HSL
  go_wp2_with (first
    | (at_builtin; refine Go.Lib.wpList_append_run _ rfl _ _ _ _ rfl _ _ rfl rfl _ _ (hap _) ?_)
    | (at_builtin; refine wpList_clear_run _ rfl _ _ rfl _ rfl _ _ hcl ?_))
  go_ret
  exact ⟨rfl, cs, hg3, HF.out.1, HF.out.2, gr3⟩
end Go.Proofs.Ytifijhfeeammkaa
