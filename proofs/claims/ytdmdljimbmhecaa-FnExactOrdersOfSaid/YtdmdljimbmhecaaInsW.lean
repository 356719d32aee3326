/- The contract of slices.Insert at write lists, one put in, in the program. -/
import Derived.Test.YtdmdljimbmhecaaWlsU
import Derived.Test.YtdmdljimbmhecaaAppendV
import Derived.Test.YtdmdljimbmhecaaGBuf
import Derived.StillTailTactics
import Derived.Lib.Hide
import Derived.Laws.Externs
import Derived.Lib.Overlaps
namespace Go.Proofs.Ytdmdljimbmhecaa
open Go.RowKit

theorem grown_below_rowV {w w1 w' : World} {B g : Nat} (h : Below B w w1) (hg : w1.grownBy w' (some g)) (hb : B ≤ g) (hB : B ≤ w1.heap.size) : Below B w w' :=
  h.trans ⟨hg.os, hg.tape, hg.output, hg.size, fun k hk => hg.block k (by omega) (fun e => by simp only [Option.some.injEq] at e; omega)⟩
theorem insV {xs : List Value} {n i : Nat} (pa pv : Value) (hn : xs.length = n * 2) (hi : i < n) : (xs.drop (i * 2)).length = (n - i) * 2 ∧ (xs.take (i * 2) ++ [pa, pv] ++ xs.drop (i * 2)).length = (n + 1) * 2 := by
  have hD : (xs.drop (i * 2)).length = (n - i) * 2 := by rw [List.length_drop, hn]; omega
  refine ⟨hD, ?_⟩
  simp only [List.length_append, hD, List.length_take, hn, List.length_cons, List.length_nil]
  omega
theorem insV_list {xs : List Value} {n i : Nat} {cur : List Value} {pa pv : Value} (hn : xs.length = n * 2) (hi : i < n) (hc : (n + 1) * 2 ≤ cur.length) (hx : cur.take (n * 2) = xs) {X1 : List Value} (h1 : X1 = cur.take ((i + 1) * 2) ++ xs.drop (i * 2) ++ cur.drop ((i + 1) * 2 + (xs.drop (i * 2)).length)) :
    X1.length = cur.length ∧ (X1.take (i * 2) ++ [pa, pv] ++ X1.drop (i * 2 + 2)).length = cur.length ∧ (X1.take (i * 2) ++ [pa, pv] ++ X1.drop (i * 2 + 2)).take ((n + 1) * 2) = xs.take (i * 2) ++ [pa, pv] ++ xs.drop (i * 2) := by
  obtain ⟨hD, hlen⟩ := insV pa pv hn hi
  have hl : X1.length = cur.length := by
    rw [h1]
    simp only [List.length_append, List.length_take, List.length_drop, hn] at hD ⊢
    omega
  have e1 : X1.take (i * 2) = xs.take (i * 2) := by
    rw [h1, List.append_assoc, List.take_append_of_le_length (by rw [List.length_take]; omega), List.take_take, Nat.min_eq_left (by omega), ← hx, List.take_take, Nat.min_eq_left (by omega)]
  have e2 : X1.drop (i * 2 + 2) = xs.drop (i * 2) ++ cur.drop ((i + 1) * 2 + (xs.drop (i * 2)).length) := by
    rw [h1, List.append_assoc]
    have : (cur.take ((i + 1) * 2)).length = i * 2 + 2 := by rw [List.length_take]; omega
    rw [← this, List.drop_left]
  refine ⟨hl, ?_, ?_⟩
  · simp only [List.length_append, List.length_take, List.length_drop, List.length_cons, List.length_nil, hl]
    omega
  · rw [e1, e2, ← List.append_assoc, ← hlen, List.take_left]
set_option maxRecDepth 100000 in
set_option maxHeartbeats 800000 in
theorem insV_room (g n cap i q : Nat) (cur : Array Value) (xs : List Value) (pa pv : Value) (w : World) (hg : Bk w g cur 82) (hn : xs.length = n * 2) (hc : n + 1 ≤ cap) (hs : cur.size = cap * 2) (hx : cur.toList.take (n * 2) = xs) (hi : i < n) (hb : n ≤ 1000000) (h1c : ∀ u ∈ xs, u.oneCell' = true) (hpc : ∀ u ∈ [pa, pv], u.oneCell' = true) (hq : Bk w q #[pa, pv] 82) (hne : q ≠ g) :
    Calls Try.prog 125 #[.slice (some ⟨g, 0, none⟩) n cap, .int .i64 i, .slice (some ⟨q, 0, none⟩) 1 1] w fun e w' => e = .returned (.slice (some ⟨g, 0, none⟩) (n + 1) cap) ∧ ∃ cur', Bk w' g cur' 82 ∧ cur'.size = cap * 2 ∧ cur'.toList.take ((n + 1) * 2) = (xs.take (i * 2) ++ [pa, pv] ++ xs.drop (i * 2)) ∧ w.grownBy w' (some g) := by
  obtain ⟨i0, hi0, hz0, hz1, hz2⟩ := info_parts info_wls
  have hz2' : ((i : Int) == (n : Int)) = false := beq_eq_false_iff_ne.2 (by omega)
  have hsh1 : w.shape? q = some (82, 2) := by simp [World.shape?, show w.heap[q]? = _ from hq]
  have hsh2 : w.shape? g = some (82, cur.size) := by simp [World.shape?, show w.heap[g]? = _ from hg]
  have hov : ∀ lb cb, (callFunc 139 #[.slice (some ⟨q, 0, none⟩) 1 1, .slice (some ⟨g, (i + 1) * 2, none⟩) lb cb]).run Try.prog w = .ok (.value (.bool false)) w := fun lb cb => by
    rw [run_callFunc_extern Try.func139 (by kernel_rfl) (by kernel_rfl) (by kernel_rfl) (e := Extern.SlicesOverlaps.overlaps #[27, 27] #[4]) (by kernel_rfl),
      Go.Lib.run_overlaps_apart w 27 4 82 Try.underlying27 2 (by intro W; simp [sizeOf, typeInfo, hi0, hz1]) ⟨q, 0, none⟩ ⟨g, (i + 1) * 2, none⟩ 1 1 lb cb hne _ _ _ _ hsh1 hsh2 (by omega) (hq.frozen 0) (hq.frozen 2)]
    rfl
  obtain ⟨X1, hX1⟩ : ∃ X1, X1 = cur.toList.take ((i + 1) * 2) ++ xs.drop (i * 2) ++ cur.toList.drop ((i + 1) * 2 + (xs.drop (i * 2)).length) := ⟨_, rfl⟩
  obtain ⟨l1, l2, l3⟩ := insV_list (pa := pa) (pv := pv) hn hi (by rw [Array.length_toList, hs]; omega) hx hX1
  have hcp1 := fun W (hW : Bk W g cur 82) ty => run_copy_row2 (P := Try.prog) W 27 27 ty 82 i0 g ((i + 1) * 2) (n - i) (cap - (i + 1)) ⟨g, i * 2, none⟩ (n + 1 - i) (cap - i) cur _ (xs.drop (i * 2)) (n - i) Try.underlying27 hi0 hz1 hW (by simp only [Nat.min_def]; split <;> omega) (by rw [List.length_drop, hn]; omega)
    (cells_row hW _ _ fun j hj => by
      have hj' : j < (n - i) * 2 := by rw [List.length_drop, hn] at hj; omega
      have e : (cur.toList.take (n * 2))[i * 2 + j]? = cur.toList[i * 2 + j]? := List.getElem?_take_of_lt (by omega)
      rw [← e, hx, ← List.getElem?_eq_getElem hj, List.getElem?_drop]) (by rw [List.length_drop, hn, hs]; omega) (fun u hu => h1c u (List.mem_of_mem_drop hu))
  rw [← hX1] at hcp1
  obtain ⟨X2, hX2⟩ : ∃ X2, X2 = X1.take (i * 2) ++ [pa, pv] ++ X1.drop (i * 2 + 2) := ⟨_, rfl⟩
  rw [← hX2] at l2 l3
  have hcp2 := fun W (hW : Bk W g X1.toArray 82) (hQ : Bk W q #[pa, pv] 82) ty => run_copy_row2 (P := Try.prog) W 27 27 ty 82 i0 g (i * 2) (n + 1 - i) (cap - i) ⟨q, 0, none⟩ 1 1 X1.toArray _ [pa, pv] 1 Try.underlying27 hi0 hz1 hW (by simp only [Nat.min_def]; split <;> omega) rfl
    (cells_row hQ 0 _ fun j hj => by rw [Nat.zero_add]; exact List.getElem?_eq_getElem hj) (by show i * 2 + 2 ≤ X1.length; have := Array.length_toList (xs := cur); omega) hpc
  simp only [List.length_cons, List.length_nil, Nat.zero_add] at hcp2
  rw [show (i * 2 + (1 + 1) : Nat) = i * 2 + 2 by omega, ← hX2] at hcp2
  have HC1 := hide hcp1
  have HC2 := hide hcp2
  have HL := hide (And.intro (show X2.length = cap * 2 by have := Array.length_toList (xs := cur); omega) l3)
  have hw1 : IntKind.i64.wrap ((i : Int) + 1) = (i : Int) + 1 := by rw [IntKind.wrap_i64]; omega
  have hb1 : (0 : Int) ≤ (i : Int) + 1 := by omega
  have hin : i ≤ n := by omega
  have htn : ((i : Int) + 1).toNat = i + 1 := by omega
  have htm : ((n : Int) + 1).toNat = n + 1 := by omega
  have hb2 : ¬ (cap = i + 1) := by omega
  have hb3 : (i : Int) ≤ (n : Int) + 1 := by omega
  have hb4 : ¬ (cap = i) := by omega
  have hb5 : (0 : Int) ≤ (n : Int) + 1 ∧ (n : Int) + 1 ≤ (cap : Int) := by omega
  have hb6 : (0 : Int) ≤ (i : Int) + 1 ∧ (i : Int) + 1 ≤ (n : Int) + 1 := by omega
  have hb7 : (i : Int) + 1 ≤ (n : Int) + 1 := by omega
  have hb8 : ¬ ((cap : Int) < (n : Int) + 1) := by omega
  clear hcp1 hcp2 l1 l2 l3 hX1 hX2 hx hs hsh1 hsh2
  go_enter Try.func125, Try.ntmps125
  go_wp2_with (simp only [hov])
  go_still_tail 8, (by kernel_rfl)
  change wpList _ _ _ _ _ w.drew
  have hg1 : Bk w.drew g cur 82 := hg
  have hq1 : Bk w.drew q #[pa, pv] 82 := hq
  have gr1 : w.grownBy w.drew (some g) := ⟨rfl, rfl, rfl, Nat.le_refl _, fun _ _ _ => rfl⟩
  clear hov
  generalize w.drew = w1 at *
  have c1 := HC1.out w1 hg1
  have hg2 := setRow_bk hg1 X1.toArray
  have gr2 := setRow_grown w1 g X1.toArray
  have hq2 := hq1.grown gr2 (by simp only [ne_eq, Option.some.injEq]; omega)
  have c2 := HC2.out _ hg2 hq2
  have hg3 := setRow_bk hg2 X2.toArray
  have gr3 := (gr1.trans gr2).trans (setRow_grown (w1.setRow g X1.toArray) g X2.toArray)
  go_wp2_with (first
    | (at_builtin; refine wpList_copy_run2 _ rfl _ _ _ _ rfl _ _ rfl rfl (c1 _) ?_)
    | (at_builtin; refine wpList_copy_run2 _ rfl _ _ _ _ rfl _ _ rfl rfl (c2 _) ?_))

  go_ret
  exact ⟨rfl, X2.toArray, hg3, by rw [List.size_toArray, HL.out.1], HL.out.2, gr3⟩

theorem insV_list2 {xs : List Value} {n i : Nat} {cur : List Value} {pa pv : Value} (hn : xs.length = n * 2) (hi : i < n) (hc : (n + 1) * 2 ≤ cur.length) (hx : cur.take (i * 2) = xs.take (i * 2)) {X1 : List Value} (h1 : X1 = cur.take (i * 2) ++ [pa, pv] ++ cur.drop (i * 2 + 2)) :
    X1.length = cur.length ∧ (X1.take ((i + 1) * 2) ++ xs.drop (i * 2) ++ X1.drop ((i + 1) * 2 + (xs.drop (i * 2)).length)).length = cur.length ∧ (X1.take ((i + 1) * 2) ++ xs.drop (i * 2) ++ X1.drop ((i + 1) * 2 + (xs.drop (i * 2)).length)).take ((n + 1) * 2) = xs.take (i * 2) ++ [pa, pv] ++ xs.drop (i * 2) := by
  obtain ⟨hD, hlen⟩ := insV pa pv hn hi
  have hl : X1.length = cur.length := by
    rw [h1]
    simp only [List.length_append, List.length_take, List.length_drop, List.length_cons, List.length_nil]
    omega
  have e1 : X1.take ((i + 1) * 2) = xs.take (i * 2) ++ [pa, pv] := by
    rw [h1, hx]
    have : (xs.take (i * 2) ++ [pa, pv]).length = (i + 1) * 2 := by
      rw [List.length_append, List.length_take, hn, Nat.min_eq_left (by omega)]
      simp only [List.length_cons, List.length_nil]
      omega
    rw [← this, List.take_left]
  refine ⟨hl, ?_, ?_⟩
  · simp only [List.length_append, List.length_take, List.length_drop, hl, hn] at hD ⊢
    omega
  · rw [e1, ← hlen, List.take_left]
set_option maxRecDepth 100000 in
set_option maxHeartbeats 800000 in
theorem insV_grow (base g n i q : Nat) (cur : Array Value) (xs : List Value) (pa pv : Value) (w : World) (hg : Bk w g cur 82) (hn : xs.length = n * 2) (hx : cur.toList.take (n * 2) = xs) (hi : i < n) (hb : n ≤ 1000000) (h1c : ∀ u ∈ xs, u.oneCell' = true) (hpc : ∀ u ∈ [pa, pv], u.oneCell' = true) (hq : Bk w q #[pa, pv] 82) (hbase : base ≤ w.heap.size) :
    Calls Try.prog 125 #[.slice (some ⟨g, 0, none⟩) n n, .int .i64 i, .slice (some ⟨q, 0, none⟩) 1 1] w fun e w' => ∃ G, e = .returned (.slice (some ⟨w.heap.size, 0, none⟩) (n + 1) G) ∧ w'.ownsRow base 82 2 (.slice (some ⟨w.heap.size, 0, none⟩) (n + 1) G) (n + 1) ((xs.take (i * 2) ++ [pa, pv] ++ xs.drop (i * 2))) ∧ w.grownBy w' none := by
  obtain ⟨i0, hi0, hz0, hz1, hz2⟩ := info_parts info_wls
  have hgl : g < w.heap.size := hg.lt
  have hql : q < w.heap.size := hq.lt
  have hz2' : ((i : Int) == (n : Int)) = false := beq_eq_false_iff_ne.2 (by omega)
  have hT : cur.toList.take (i * 2) = xs.take (i * 2) := by rw [← hx, List.take_take, Nat.min_eq_left (by omega)]
  have hold : (Builtin.firstCells i0.size i (.slice (some ⟨g, 0, none⟩) i n)).run Try.prog w.drew = .ok (xs.take (i * 2)).toArray w.drew :=
    run_firstCells_some w.drew i0.size i ⟨g, 0, none⟩ i n _ (by rw [List.length_take, hn, hz1, Nat.min_eq_left (by omega)]) (cells_row (show Bk w.drew g cur _ from hg) 0 _ fun j hj => by
      have hj' : j < i * 2 := by rw [List.length_take, hn, Nat.min_eq_left (by omega)] at hj; exact hj
      rw [Nat.zero_add, ← List.getElem?_eq_getElem hj, ← hT, List.getElem?_take_of_lt hj'])
  have hap := fun ty => Go.Lib.run_append_grow_zeros (P := Try.prog) w 27 3 ty 82 i0 (.agg #[.int .i64 0, .slice none 0 0]) .i64 .i64 Try.underlying27 Try.underlying3 hi0 hz0 (some ⟨g, 0, none⟩) i n (xs.take (i * 2)) hold (n + 1 - i) (by omega) (by rw [hz1]; omega) (by omega) (by omega) (by rw [hz2]; omega) (growslice_fits (by omega) (by rw [hz2]; omega))
  have eN : i + (n + 1 - i) = n + 1 := by omega
  rw [eN] at hap
  have hC1 := grownCap_ge w (n + 1) n 82
  have hC2 := grownCap_le_maxLen w (n + 1) n 82 (by unfold maxLen; omega)
  generalize grownCap w (n + 1) n 82 = G at *
  obtain ⟨c0, hc0⟩ : ∃ c0, c0 = (xs.take (i * 2)).toArray ++ Builtin.zeroCells (Value.agg #[.int .i64 0, .slice none 0 0]).cells (n + 1 - i) ++ Builtin.zeroCells (Value.agg #[.int .i64 0, .slice none 0 0]).cells (G - (n + 1)) := ⟨_, rfl⟩
  have hc1 : c0.size = G * 2 := by
    rw [hc0]
    simp only [Array.size_append, size_zeroCells, List.size_toArray, List.length_take, hn]
    rw [Nat.min_eq_left (by omega), show (Value.agg #[.int .i64 0, .slice none 0 0]).cells.size = 2 from rfl]
    omega
  have hc2 : c0.toList.take (i * 2) = xs.take (i * 2) := by
    rw [hc0]
    simp only [Array.toList_append]
    rw [List.append_assoc]
    exact List.take_left' (by rw [List.length_take, hn, Nat.min_eq_left (by omega)])
  rw [← hc0] at hap
  clear hc0 hold
  obtain ⟨X1, hX1⟩ : ∃ X1, X1 = c0.toList.take (i * 2) ++ [pa, pv] ++ c0.toList.drop (i * 2 + 2) := ⟨_, rfl⟩
  obtain ⟨l1, l2, l3⟩ := insV_list2 (pa := pa) (pv := pv) hn hi (by rw [Array.length_toList, hc1]; omega) hc2 hX1
  have hcp1 := fun W (hW : Bk W w.heap.size c0 82) (hQ : Bk W q #[pa, pv] 82) ty => run_copy_row2 (P := Try.prog) W 27 27 ty 82 i0 w.heap.size (i * 2) (n + 1 - i) (G - i) ⟨q, 0, none⟩ 1 1 c0 _ [pa, pv] 1 Try.underlying27 hi0 hz1 hW (by simp only [Nat.min_def]; split <;> omega) rfl
    (cells_row hQ 0 _ fun j hj => by rw [Nat.zero_add]; exact List.getElem?_eq_getElem hj) (by rw [hc1]; simp only [List.length_cons, List.length_nil]; omega) hpc
  simp only [List.length_cons, List.length_nil, Nat.zero_add] at hcp1
  rw [show (i * 2 + (1 + 1) : Nat) = i * 2 + 2 by omega, ← hX1] at hcp1
  obtain ⟨X2, hX2⟩ : ∃ X2, X2 = X1.take ((i + 1) * 2) ++ xs.drop (i * 2) ++ X1.drop ((i + 1) * 2 + (xs.drop (i * 2)).length) := ⟨_, rfl⟩
  rw [← hX2] at l2 l3
  have hcp2 := fun W (hW : Bk W w.heap.size X1.toArray 82) (hG : Bk W g cur 82) ty => run_copy_row2 (P := Try.prog) W 27 27 ty 82 i0 w.heap.size ((i + 1) * 2) (n - i) (G - (i + 1)) ⟨g, i * 2, none⟩ (n - i) (n - i) X1.toArray _ (xs.drop (i * 2)) (n - i) Try.underlying27 hi0 hz1 hW (by simp only [Nat.min_def]; split <;> omega) (by rw [List.length_drop, hn]; omega)
    (cells_row hG _ _ fun j hj => by
      have hj' : j < (n - i) * 2 := by rw [List.length_drop, hn] at hj; omega
      have e : (cur.toList.take (n * 2))[i * 2 + j]? = cur.toList[i * 2 + j]? := List.getElem?_take_of_lt (by omega)
      rw [← e, hx, ← List.getElem?_eq_getElem hj, List.getElem?_drop]) (by show (i + 1) * 2 + (xs.drop (i * 2)).length ≤ X1.length; have := Array.length_toList (xs := c0); rw [List.length_drop, hn]; omega) (fun u hu => h1c u (List.mem_of_mem_drop hu))
  simp only at hcp2
  rw [← hX2] at hcp2
  have HC1 := hide hcp1
  have HC2 := hide hcp2
  have HL := hide (And.intro (show X2.length = G * 2 by rw [l2, Array.length_toList, hc1]) l3)
  have hGm : G ≤ 9223372036854775807 := by unfold maxLen at hC2; omega
  have hw1 : IntKind.i64.wrap ((i : Int) + 1) = (i : Int) + 1 := by rw [IntKind.wrap_i64]; omega
  have hb1 : (0 : Int) ≤ (i : Int) + 1 := by omega
  have hin : i ≤ n := by omega
  have htn : ((i : Int) + 1).toNat = i + 1 := by omega
  have hb2 : ¬ (G = i + 1) := by omega
  have hb3 : (i : Int) ≤ (n : Int) + 1 := by omega
  have hb4 : ¬ (G = i) := by omega
  have hb5 : ¬ (n = i) := by omega
  have hb6 : (0 : Int) ≤ (i : Int) + 1 ∧ (i : Int) + 1 ≤ (n : Int) + 1 := by omega
  have hb7 : (i : Int) + 1 ≤ (n : Int) + 1 := by omega
  have hb8 : (n : Int) < (n : Int) + 1 := by omega
  have hk : (n : Int) + 1 - (i : Int) = ((n + 1 - i : Nat) : Int) := by omega
  have hAP := hide hap
  clear hcp1 hcp2 l1 l2 l3 hX1 hX2 hx hT hc1 hc2 hap eN
  go_enter Try.func125, Try.ntmps125
  have g1 : Bk (w.alloc (.cells c0 82)).drew w.heap.size c0 82 := Bk.new w c0 82
  have b0 : Below w.heap.size w (w.alloc (.cells c0 82)).drew := ((Below.refl w.heap.size w).alloc (Nat.le_refl _) (.cells c0 82)).drew
  have q1 := hq.below b0 hql
  have gg1 := hg.below b0 hgl
  have c1 := HC1.out _ g1 q1
  have g2 := setRow_bk g1 X1.toArray
  have gg2 := gg1.grown (setRow_grown (w.alloc (.cells c0 82)).drew w.heap.size X1.toArray) (by simp only [ne_eq, Option.some.injEq]; omega)
  go_wp2_with (first
    | (at_builtin; refine Go.Lib.wpList_append_run _ rfl _ _ _ _ rfl _ _ rfl rfl _ _ (hAP.out _) ?_)
    | (at_builtin; refine wpList_copy_run2 _ rfl _ _ _ _ rfl _ _ rfl rfl (c1 _) ?_))
  go_still_tail 8, (by kernel_rfl)
  change wpList _ _ _ _ _ (World.drew _)
  have g2' : Bk ((w.alloc (.cells c0 82)).drew.setRow w.heap.size X1.toArray).drew w.heap.size X1.toArray 82 := g2
  have gg2' : Bk ((w.alloc (.cells c0 82)).drew.setRow w.heap.size X1.toArray).drew g cur 82 := gg2
  have c2 := HC2.out _ g2' gg2'
  have g3 := setRow_bk g2' X2.toArray
  have b1 := ((grown_below_rowV b0 (setRow_grown (w.alloc (.cells c0 82)).drew w.heap.size X1.toArray) (Nat.le_refl _) b0.size).drew)
  have b2 := grown_below_rowV b1 (setRow_grown _ w.heap.size X2.toArray) (Nat.le_refl _) b1.size
  generalize ((w.alloc (.cells c0 82)).drew.setRow w.heap.size X1.toArray).drew = w2 at *
  go_wp2_with (at_builtin; refine wpList_copy_run2 _ rfl _ _ _ _ rfl _ _ rfl rfl (c2 _) ?_)
  go_ret
  exact ⟨G, rfl, own_mk hbase g3 hC1 hC2 (by rw [List.size_toArray, HL.out.1]) HL.out.2, ⟨b2.os, b2.tape, b2.output, b2.size, fun k hk _ => b2.block k hk⟩⟩

/-- Where the cells of a slice of the call's own lie now: in its own block still, or in a new one. -/
def MovedV (v v' : Value) (w : World) : Prop := v'.ownBlock = v.ownBlock ∨ ∃ b, v'.ownBlock = some b ∧ w.heap.size ≤ b
set_option maxRecDepth 100000 in
set_option maxHeartbeats 800000 in
theorem insV_end (base q n : Nat) (vm : Value) (xs : List Value) (pa pv : Value) (w : World) (ho : w.ownsRow base 82 2 vm n xs) (hb : n ≤ 1000000) (hpc : ∀ u ∈ [pa, pv], u.oneCell' = true) (hq : Bk w q #[pa, pv] 82) (hbase : base ≤ w.heap.size) :
    Calls Try.prog 125 #[vm, .int .i64 n, .slice (some ⟨q, 0, none⟩) 1 1] w fun e w' => ∃ v', e = .returned v' ∧ w'.ownsRow base 82 2 v' (n + 1) (xs ++ [pa, pv]) ∧ w.grownBy w' vm.ownBlock ∧ MovedV vm v' w := by
  obtain ⟨i0, hi0, hz0, hz1, hz2⟩ := info_parts info_wls
  have hR : RdV w w.heap.size (some ⟨q, 0, none⟩) [pa, pv] := fun _ => ⟨q, 0, rfl, hq.lt, fun j hj => by
    rw [Nat.zero_add, hq.cell j]
    simp only [List.getElem?_toArray]
    exact List.getElem?_eq_getElem hj⟩
  obtain ⟨A, c, rfl⟩ := own_shape ho
  obtain ⟨v', w', h1, h2, h3, h4⟩ := run_append_rv (P := Try.prog) w base 2 (by omega) 27 27 82 i0 (.agg #[.int .i64 0, .slice none 0 0]) 32 Try.underlying27 hi0 hz0 hz1 hz2 rfl (.slice A n c) n xs ho (some ⟨q, 0, none⟩) [pa, pv] 1 1 w.heap.size rfl hpc hR (by unfold maxLen; omega) (by omega) hbase
  have HO := hide (And.intro h2 (And.intro h3 (show MovedV (.slice A n c) v' w from h4.imp id fun e => ⟨_, e, Nat.le_refl _⟩)))
  have hcut : ∀ W, (Instr.slice 27 (.slice A n c) (some (.int .i64 (n : Int))) none none).run Try.prog W = .ok (.slice (if c = n then A else A.map (·.add (n * 2))) 0 (c - n)) W := fun W => by
    by_cases hc : c = n <;> simp [go_sem, hc]
  generalize (if c = n then A else A.map (·.add (n * 2))) = Z at hcut
  clear h2 h3 h4 hR ho
  go_enter Try.func125, Try.ntmps125
  go_wp2_with (at_builtin; refine Go.Lib.wpList_append_run _ rfl _ _ _ _ rfl _ _ rfl rfl _ _ h1 ?_)
  go_ret
  exact ⟨v', rfl, HO.out⟩
/-- One put in, wherever there is room or none. -/
theorem insertV_any (base q i n : Nat) (vm : Value) (xs : List Value) (pa pv : Value) (w : World) (hi : i ≤ n) (ho : w.ownsRow base 82 2 vm n xs) (hb : n ≤ 1000000) (h1c : ∀ u ∈ xs, u.oneCell' = true) (hpc : ∀ u ∈ [pa, pv], u.oneCell' = true) (hq : Bk w q #[pa, pv] 82) (hne : vm.ownBlock ≠ some q) (hbase : base ≤ w.heap.size) :
    Calls Try.prog 125 #[vm, .int .i64 i, .slice (some ⟨q, 0, none⟩) 1 1] w fun e w' => ∃ v', e = .returned v' ∧ w'.ownsRow base 82 2 v' (n + 1) (xs.take (i * 2) ++ [pa, pv] ++ xs.drop (i * 2)) ∧ w.grownBy w' vm.ownBlock ∧ MovedV vm v' w := by
  have hn : xs.length = n * 2 := ho.1
  by_cases hin : i = n
  · subst hin
    rw [List.take_of_length_le (by omega), List.drop_eq_nil_of_le (by omega), List.append_nil]
    exact insV_end base q i vm xs pa pv w ho hb hpc hq hbase
  · have hlt : i < n := by omega
    obtain ⟨g, cap, cur, rfl, hbg, hg, hnc, hcm, hs, hx⟩ := own_open ho (by omega)
    by_cases hr : n + 1 ≤ cap
    · refine (insV_room g n cap i q cur xs pa pv w hg hn hr hs hx hlt hb h1c hpc hq (fun e => hne (by rw [e]; rfl))).mono ?_
      rintro e w' ⟨rfl, cur', h1, h2, h3, h4⟩
      exact ⟨_, rfl, own_mk hbg h1 hr hcm h2 h3, h4, .inl rfl⟩
    · obtain rfl : cap = n := by omega
      refine (insV_grow base g cap i q cur xs pa pv w hg hn hx hlt hb h1c hpc hq hbase).mono ?_
      rintro e w' ⟨G, rfl, h1, h2⟩
      exact ⟨_, rfl, h1, ⟨h2.os, h2.tape, h2.output, h2.size, fun k hk _ => h2.block k hk (fun e => by cases e)⟩, .inr ⟨_, rfl, Nat.le_refl _⟩⟩
end Go.Proofs.Ytdmdljimbmhecaa
