/- What the laws' walks rest upon, part 23. -/
import Derived.Test.YtnnfkmjhaljplaaGreatDoorM21
import Derived.Test.YtnnfkmjhaljplaaGreatDoorM02
import Derived.Test.YtnnfkmjhaljplaaGreatDoorM17
import Derived.StillTailTactics
import Derived.Lib.Hide
import Derived.Laws.Externs
import Derived.Lib.Overlaps
import Derived.Test.YtnnfkmjhaljplaaGreatDoorM19
import Derived.Test.YtnnfkmjhaljplaaGreatDoorM18
import Derived.Test.YtnnfkmjhaljplaaGreatDoorM22
import Derived.Test.YtnnfkmjhaljplaaGreatDoorM06
namespace Go.Proofs.YtnnfkmjhaljplaaGreatDoor
open Go.RowKit
theorem grown_below_rowV {w w1 w' : World} {B g : Nat} (h : Below B w w1) (hg : w1.grownBy w' (some g)) (hb : B ≤ g) (hB : B ≤ w1.heap.size) : Below B w w' :=
  h.trans ⟨hg.os, hg.tape, hg.output, hg.size, fun k hk => hg.block k (by omega) (fun e => by simp only [Option.some.injEq] at e; omega)⟩
theorem insV {xs : List Value} {n i : Nat} (pa pv : Value) (hn : xs.length = n * 2) (hi : i < n) : (xs.drop (i * 2)).length = (n - i) * 2 ∧ (xs.take (i * 2) ++ [pa, pv] ++ xs.drop (i * 2)).length = (n + 1) * 2 := by
  have hD : (xs.drop (i * 2)).length = (n - i) * 2 := by rw [List.length_drop, hn]; omega
  refine ⟨hD, ?_⟩
  simp only [List.length_append, hD, List.length_take, hn, List.length_cons, List.length_nil]
  omega
theorem insV_list {xs : List Value} {n i : Nat} {cur : List Value} {pa pv : Value} (hn : xs.length = n * 2) (hi : i < n) (hc : (n + 1) * 2 ≤ cur.length) (hx : cur.take (n * 2) = xs) {X1 : List Value} (h1 : X1 = cur.take ((i + 1) * 2) ++ xs.drop (i * 2) ++ cur.drop ((i + 1) * 2 + (xs.drop (i * 2)).length)) :
    X1.length = cur.length ∧ (X1.take (i * 2) ++ [pa, pv] ++ X1.drop (i * 2 + 2)).length = cur.length ∧ (X1.take (i * 2) ++ [pa, pv] ++ X1.drop (i * 2 + 2)).take ((n + 1) * 2) = xs.take (i * 2) ++ [pa, pv] ++ xs.drop (i * 2) := by
  obtain ⟨hD, hlen⟩ := insV pa pv hn hi
  have hl : X1.length = cur.length := by
    rw [h1]
    simp only [List.length_append, List.length_take, List.length_drop, hn] at hD ⊢
    omega
  have e1 : X1.take (i * 2) = xs.take (i * 2) := by
    rw [h1, List.append_assoc, List.take_append_of_le_length (by rw [List.length_take]; omega), List.take_take, Nat.min_eq_left (by omega), ← hx, List.take_take, Nat.min_eq_left (by omega)]
  have e2 : X1.drop (i * 2 + 2) = xs.drop (i * 2) ++ cur.drop ((i + 1) * 2 + (xs.drop (i * 2)).length) := by
    rw [h1, List.append_assoc]
    have : (cur.take ((i + 1) * 2)).length = i * 2 + 2 := by rw [List.length_take]; omega
    rw [← this, List.drop_left]
  refine ⟨hl, ?_, ?_⟩
  · simp only [List.length_append, List.length_take, List.length_drop, List.length_cons, List.length_nil, hl]
    omega
  · rw [e1, e2, ← List.append_assoc, ← hlen, List.take_left]
set_option maxRecDepth 100000 in
set_option maxHeartbeats 800000 in
theorem insV_room (g n cap i q : Nat) (cur : Array Value) (xs : List Value) (pa pv : Value) (w : World) (hg : Bk w g cur 159) (hn : xs.length = n * 2) (hc : n + 1 ≤ cap) (hs : cur.size = cap * 2) (hx : cur.toList.take (n * 2) = xs) (hi : i < n) (hb : n ≤ 1000000) (h1c : ∀ u ∈ xs, u.oneCell' = true) (hpc : ∀ u ∈ [pa, pv], u.oneCell' = true) (hq : Bk w q #[pa, pv] 159) (hne : q ≠ g) :
    Calls Tryz.prog 243 #[.slice (some ⟨g, 0, none⟩) n cap, .int .i64 i, .slice (some ⟨q, 0, none⟩) 1 1] w fun e w' => e = .returned (.slice (some ⟨g, 0, none⟩) (n + 1) cap) ∧ ∃ cur', Bk w' g cur' 159 ∧ cur'.size = cap * 2 ∧ cur'.toList.take ((n + 1) * 2) = (xs.take (i * 2) ++ [pa, pv] ++ xs.drop (i * 2)) ∧ w.grownBy w' (some g) := by
  obtain ⟨i0, hi0, hz0, hz1, hz2⟩ := info_parts info_wls
  have hz2' : ((i : Int) == (n : Int)) = false := beq_eq_false_iff_ne.2 (by omega)
  have hsh1 : w.shape? q = some (159, 2) := by simp [World.shape?, show w.heap[q]? = _ from hq]
  have hsh2 : w.shape? g = some (159, cur.size) := by simp [World.shape?, show w.heap[g]? = _ from hg]
  have hov : ∀ lb cb, (callFunc 281 #[.slice (some ⟨q, 0, none⟩) 1 1, .slice (some ⟨g, (i + 1) * 2, none⟩) lb cb]).run Tryz.prog w = .ok (.value (.bool false)) w := fun lb cb => by
    rw [run_callFunc_extern Tryz.func281 (by kernel_rfl) (by kernel_rfl) (by kernel_rfl) (e := Extern.SlicesOverlaps.overlaps #[29, 29] #[4]) (by kernel_rfl),
      Go.Lib.run_overlaps_apart w 29 4 159 Tryz.underlying29 2 (by intro W; simp [sizeOf, typeInfo, hi0, hz1]) ⟨q, 0, none⟩ ⟨g, (i + 1) * 2, none⟩ 1 1 lb cb hne _ _ _ _ hsh1 hsh2 (by omega) (hq.frozen 0) (hq.frozen 2)]
    rfl
  obtain ⟨X1, hX1⟩ : ∃ X1, X1 = cur.toList.take ((i + 1) * 2) ++ xs.drop (i * 2) ++ cur.toList.drop ((i + 1) * 2 + (xs.drop (i * 2)).length) := ⟨_, rfl⟩
  obtain ⟨l1, l2, l3⟩ := insV_list (pa := pa) (pv := pv) hn hi (by rw [Array.length_toList, hs]; omega) hx hX1
  have hcp1 := fun W (hW : Bk W g cur 159) ty => run_copy_row2 (P := Tryz.prog) W 29 29 ty 159 i0 g ((i + 1) * 2) (n - i) (cap - (i + 1)) ⟨g, i * 2, none⟩ (n + 1 - i) (cap - i) cur _ (xs.drop (i * 2)) (n - i) Tryz.underlying29 hi0 hz1 hW (by simp only [Nat.min_def]; split <;> omega) (by rw [List.length_drop, hn]; omega)
    (cells_row hW _ _ fun j hj => by
      have hj' : j < (n - i) * 2 := by rw [List.length_drop, hn] at hj; omega
      have e : (cur.toList.take (n * 2))[i * 2 + j]? = cur.toList[i * 2 + j]? := List.getElem?_take_of_lt (by omega)
      rw [← e, hx, ← List.getElem?_eq_getElem hj, List.getElem?_drop]) (by rw [List.length_drop, hn, hs]; omega) (fun u hu => h1c u (List.mem_of_mem_drop hu))
  rw [← hX1] at hcp1
  obtain ⟨X2, hX2⟩ : ∃ X2, X2 = X1.take (i * 2) ++ [pa, pv] ++ X1.drop (i * 2 + 2) := ⟨_, rfl⟩
  rw [← hX2] at l2 l3
  have hcp2 := fun W (hW : Bk W g X1.toArray 159) (hQ : Bk W q #[pa, pv] 159) ty => run_copy_row2 (P := Tryz.prog) W 29 29 ty 159 i0 g (i * 2) (n + 1 - i) (cap - i) ⟨q, 0, none⟩ 1 1 X1.toArray _ [pa, pv] 1 Tryz.underlying29 hi0 hz1 hW (by simp only [Nat.min_def]; split <;> omega) rfl
    (cells_row hQ 0 _ fun j hj => by rw [Nat.zero_add]; exact List.getElem?_eq_getElem hj) (by show i * 2 + 2 ≤ X1.length; have := Array.length_toList (xs := cur); omega) hpc
  simp only [List.length_cons, List.length_nil, Nat.zero_add] at hcp2
  rw [show (i * 2 + (1 + 1) : Nat) = i * 2 + 2 by omega, ← hX2] at hcp2
  have HC1 := hide hcp1
  have HC2 := hide hcp2
  have HL := hide (And.intro (show X2.length = cap * 2 by have := Array.length_toList (xs := cur); omega) l3)
  have hw1 : IntKind.i64.wrap ((i : Int) + 1) = (i : Int) + 1 := by rw [IntKind.wrap_i64]; omega
  have hb1 : (0 : Int) ≤ (i : Int) + 1 := by omega
  have hin : i ≤ n := by omega
  have htn : ((i : Int) + 1).toNat = i + 1 := by omega
  have htm : ((n : Int) + 1).toNat = n + 1 := by omega
  have hb2 : ¬ (cap = i + 1) := by omega
  have hb3 : (i : Int) ≤ (n : Int) + 1 := by omega
  have hb4 : ¬ (cap = i) := by omega
  have hb5 : (0 : Int) ≤ (n : Int) + 1 ∧ (n : Int) + 1 ≤ (cap : Int) := by omega
  have hb6 : (0 : Int) ≤ (i : Int) + 1 ∧ (i : Int) + 1 ≤ (n : Int) + 1 := by omega
  have hb7 : (i : Int) + 1 ≤ (n : Int) + 1 := by omega
  have hb8 : ¬ ((cap : Int) < (n : Int) + 1) := by omega
  clear hcp1 hcp2 l1 l2 l3 hX1 hX2 hx hs hsh1 hsh2
  go_enter Tryz.func243, Tryz.ntmps243
  go_wp2_with (simp only [hov])
  go_still_tail 8, (by kernel_rfl)
  change wpList _ _ _ _ _ w.drew
  have hg1 : Bk w.drew g cur 159 := hg
  have hq1 : Bk w.drew q #[pa, pv] 159 := hq
  have gr1 : w.grownBy w.drew (some g) := ⟨rfl, rfl, rfl, Nat.le_refl _, fun _ _ _ => rfl⟩
  clear hov
  generalize w.drew = w1 at *
  have c1 := HC1.out w1 hg1
  have hg2 := setRow_bk hg1 X1.toArray
  have gr2 := setRow_grown w1 g X1.toArray
  have hq2 := hq1.grown gr2 (by simp only [ne_eq, Option.some.injEq]; omega)
  have c2 := HC2.out _ hg2 hq2
  have hg3 := setRow_bk hg2 X2.toArray
  have gr3 := (gr1.trans gr2).trans (setRow_grown (w1.setRow g X1.toArray) g X2.toArray)
  go_wp2_with (first
    | (at_builtin; refine wpList_copy_run2 _ rfl _ _ _ _ rfl _ _ rfl rfl (c1 _) ?_)
    | (at_builtin; refine wpList_copy_run2 _ rfl _ _ _ _ rfl _ _ rfl rfl (c2 _) ?_))

  go_ret
  exact ⟨rfl, X2.toArray, hg3, by rw [List.size_toArray, HL.out.1], HL.out.2, gr3⟩
theorem insV_list2 {xs : List Value} {n i : Nat} {cur : List Value} {pa pv : Value} (hn : xs.length = n * 2) (hi : i < n) (hc : (n + 1) * 2 ≤ cur.length) (hx : cur.take (i * 2) = xs.take (i * 2)) {X1 : List Value} (h1 : X1 = cur.take (i * 2) ++ [pa, pv] ++ cur.drop (i * 2 + 2)) :
    X1.length = cur.length ∧ (X1.take ((i + 1) * 2) ++ xs.drop (i * 2) ++ X1.drop ((i + 1) * 2 + (xs.drop (i * 2)).length)).length = cur.length ∧ (X1.take ((i + 1) * 2) ++ xs.drop (i * 2) ++ X1.drop ((i + 1) * 2 + (xs.drop (i * 2)).length)).take ((n + 1) * 2) = xs.take (i * 2) ++ [pa, pv] ++ xs.drop (i * 2) := by
  obtain ⟨hD, hlen⟩ := insV pa pv hn hi
  have hl : X1.length = cur.length := by
    rw [h1]
    simp only [List.length_append, List.length_take, List.length_drop, List.length_cons, List.length_nil]
    omega
  have e1 : X1.take ((i + 1) * 2) = xs.take (i * 2) ++ [pa, pv] := by
    rw [h1, hx]
    have : (xs.take (i * 2) ++ [pa, pv]).length = (i + 1) * 2 := by
      rw [List.length_append, List.length_take, hn, Nat.min_eq_left (by omega)]
      simp only [List.length_cons, List.length_nil]
      omega
    rw [← this, List.take_left]
  refine ⟨hl, ?_, ?_⟩
  · simp only [List.length_append, List.length_take, List.length_drop, hl, hn] at hD ⊢
    omega
  · rw [e1, ← hlen, List.take_left]
set_option maxRecDepth 100000 in
set_option maxHeartbeats 800000 in
theorem insV_grow (base g n i q : Nat) (cur : Array Value) (xs : List Value) (pa pv : Value) (w : World) (hg : Bk w g cur 159) (hn : xs.length = n * 2) (hx : cur.toList.take (n * 2) = xs) (hi : i < n) (hb : n ≤ 1000000) (h1c : ∀ u ∈ xs, u.oneCell' = true) (hpc : ∀ u ∈ [pa, pv], u.oneCell' = true) (hq : Bk w q #[pa, pv] 159) (hbase : base ≤ w.heap.size) :
    Calls Tryz.prog 243 #[.slice (some ⟨g, 0, none⟩) n n, .int .i64 i, .slice (some ⟨q, 0, none⟩) 1 1] w fun e w' => ∃ G, e = .returned (.slice (some ⟨w.heap.size, 0, none⟩) (n + 1) G) ∧ w'.ownsRow base 159 2 (.slice (some ⟨w.heap.size, 0, none⟩) (n + 1) G) (n + 1) ((xs.take (i * 2) ++ [pa, pv] ++ xs.drop (i * 2))) ∧ w.grownBy w' none := by
  obtain ⟨i0, hi0, hz0, hz1, hz2⟩ := info_parts info_wls
  have hgl : g < w.heap.size := hg.lt
  have hql : q < w.heap.size := hq.lt
  have hz2' : ((i : Int) == (n : Int)) = false := beq_eq_false_iff_ne.2 (by omega)
  have hT : cur.toList.take (i * 2) = xs.take (i * 2) := by rw [← hx, List.take_take, Nat.min_eq_left (by omega)]
  have hold : (Builtin.firstCells i0.size i (.slice (some ⟨g, 0, none⟩) i n)).run Tryz.prog w.drew = .ok (xs.take (i * 2)).toArray w.drew :=
    run_firstCells_some w.drew i0.size i ⟨g, 0, none⟩ i n _ (by rw [List.length_take, hn, hz1, Nat.min_eq_left (by omega)]) (cells_row (show Bk w.drew g cur _ from hg) 0 _ fun j hj => by
      have hj' : j < i * 2 := by rw [List.length_take, hn, Nat.min_eq_left (by omega)] at hj; exact hj
      rw [Nat.zero_add, ← List.getElem?_eq_getElem hj, ← hT, List.getElem?_take_of_lt hj'])
  have hap := fun ty => Go.Lib.run_append_grow_zeros (P := Tryz.prog) w 29 3 ty 159 i0 (.agg #[.int .i64 0, .slice none 0 0]) .i64 .i64 Tryz.underlying29 Tryz.underlying3 hi0 hz0 (some ⟨g, 0, none⟩) i n (xs.take (i * 2)) hold (n + 1 - i) (by omega) (by rw [hz1]; omega) (by omega) (by omega) (by rw [hz2]; omega) (growslice_fits (by omega) (by rw [hz2]; omega))
  have eN : i + (n + 1 - i) = n + 1 := by omega
  rw [eN] at hap
  have hC1 := grownCap_ge w (n + 1) n 159
  have hC2 := grownCap_le_maxLen w (n + 1) n 159 (by unfold maxLen; omega)
  generalize grownCap w (n + 1) n 159 = G at *
  obtain ⟨c0, hc0⟩ : ∃ c0, c0 = (xs.take (i * 2)).toArray ++ Builtin.zeroCells (Value.agg #[.int .i64 0, .slice none 0 0]).cells (n + 1 - i) ++ Builtin.zeroCells (Value.agg #[.int .i64 0, .slice none 0 0]).cells (G - (n + 1)) := ⟨_, rfl⟩
  have hc1 : c0.size = G * 2 := by
    rw [hc0]
    simp only [Array.size_append, size_zeroCells, List.size_toArray, List.length_take, hn]
    rw [Nat.min_eq_left (by omega), show (Value.agg #[.int .i64 0, .slice none 0 0]).cells.size = 2 from rfl]
    omega
  have hc2 : c0.toList.take (i * 2) = xs.take (i * 2) := by
    rw [hc0]
    simp only [Array.toList_append]
    rw [List.append_assoc]
    exact List.take_left' (by rw [List.length_take, hn, Nat.min_eq_left (by omega)])
  rw [← hc0] at hap
  clear hc0 hold
  obtain ⟨X1, hX1⟩ : ∃ X1, X1 = c0.toList.take (i * 2) ++ [pa, pv] ++ c0.toList.drop (i * 2 + 2) := ⟨_, rfl⟩
  obtain ⟨l1, l2, l3⟩ := insV_list2 (pa := pa) (pv := pv) hn hi (by rw [Array.length_toList, hc1]; omega) hc2 hX1
  have hcp1 := fun W (hW : Bk W w.heap.size c0 159) (hQ : Bk W q #[pa, pv] 159) ty => run_copy_row2 (P := Tryz.prog) W 29 29 ty 159 i0 w.heap.size (i * 2) (n + 1 - i) (G - i) ⟨q, 0, none⟩ 1 1 c0 _ [pa, pv] 1 Tryz.underlying29 hi0 hz1 hW (by simp only [Nat.min_def]; split <;> omega) rfl
    (cells_row hQ 0 _ fun j hj => by rw [Nat.zero_add]; exact List.getElem?_eq_getElem hj) (by rw [hc1]; simp only [List.length_cons, List.length_nil]; omega) hpc
  simp only [List.length_cons, List.length_nil, Nat.zero_add] at hcp1
  rw [show (i * 2 + (1 + 1) : Nat) = i * 2 + 2 by omega, ← hX1] at hcp1
  obtain ⟨X2, hX2⟩ : ∃ X2, X2 = X1.take ((i + 1) * 2) ++ xs.drop (i * 2) ++ X1.drop ((i + 1) * 2 + (xs.drop (i * 2)).length) := ⟨_, rfl⟩
  rw [← hX2] at l2 l3
  have hcp2 := fun W (hW : Bk W w.heap.size X1.toArray 159) (hG : Bk W g cur 159) ty => run_copy_row2 (P := Tryz.prog) W 29 29 ty 159 i0 w.heap.size ((i + 1) * 2) (n - i) (G - (i + 1)) ⟨g, i * 2, none⟩ (n - i) (n - i) X1.toArray _ (xs.drop (i * 2)) (n - i) Tryz.underlying29 hi0 hz1 hW (by simp only [Nat.min_def]; split <;> omega) (by rw [List.length_drop, hn]; omega)
    (cells_row hG _ _ fun j hj => by
      have hj' : j < (n - i) * 2 := by rw [List.length_drop, hn] at hj; omega
      have e : (cur.toList.take (n * 2))[i * 2 + j]? = cur.toList[i * 2 + j]? := List.getElem?_take_of_lt (by omega)
      rw [← e, hx, ← List.getElem?_eq_getElem hj, List.getElem?_drop]) (by show (i + 1) * 2 + (xs.drop (i * 2)).length ≤ X1.length; have := Array.length_toList (xs := c0); rw [List.length_drop, hn]; omega) (fun u hu => h1c u (List.mem_of_mem_drop hu))
  simp only at hcp2
  rw [← hX2] at hcp2
  have HC1 := hide hcp1
  have HC2 := hide hcp2
  have HL := hide (And.intro (show X2.length = G * 2 by rw [l2, Array.length_toList, hc1]) l3)
  have hGm : G ≤ 9223372036854775807 := by unfold maxLen at hC2; omega
  have hw1 : IntKind.i64.wrap ((i : Int) + 1) = (i : Int) + 1 := by rw [IntKind.wrap_i64]; omega
  have hb1 : (0 : Int) ≤ (i : Int) + 1 := by omega
  have hin : i ≤ n := by omega
  have htn : ((i : Int) + 1).toNat = i + 1 := by omega
  have hb2 : ¬ (G = i + 1) := by omega
  have hb3 : (i : Int) ≤ (n : Int) + 1 := by omega
  have hb4 : ¬ (G = i) := by omega
  have hb5 : ¬ (n = i) := by omega
  have hb6 : (0 : Int) ≤ (i : Int) + 1 ∧ (i : Int) + 1 ≤ (n : Int) + 1 := by omega
  have hb7 : (i : Int) + 1 ≤ (n : Int) + 1 := by omega
  have hb8 : (n : Int) < (n : Int) + 1 := by omega
  have hk : (n : Int) + 1 - (i : Int) = ((n + 1 - i : Nat) : Int) := by omega
  have hAP := hide hap
  clear hcp1 hcp2 l1 l2 l3 hX1 hX2 hx hT hc1 hc2 hap eN
  go_enter Tryz.func243, Tryz.ntmps243
  have g1 : Bk (w.alloc (.cells c0 159)).drew w.heap.size c0 159 := Bk.new w c0 159
  have b0 : Below w.heap.size w (w.alloc (.cells c0 159)).drew := ((Below.refl w.heap.size w).alloc (Nat.le_refl _) (.cells c0 159)).drew
  have q1 := hq.below b0 hql
  have gg1 := hg.below b0 hgl
  have c1 := HC1.out _ g1 q1
  have g2 := setRow_bk g1 X1.toArray
  have gg2 := gg1.grown (setRow_grown (w.alloc (.cells c0 159)).drew w.heap.size X1.toArray) (by simp only [ne_eq, Option.some.injEq]; omega)
  go_wp2_with (first
    | (at_builtin; refine Go.Lib.wpList_append_run _ rfl _ _ _ _ rfl _ _ rfl rfl _ _ (hAP.out _) ?_)
    | (at_builtin; refine wpList_copy_run2 _ rfl _ _ _ _ rfl _ _ rfl rfl (c1 _) ?_))
  go_still_tail 8, (by kernel_rfl)
  change wpList _ _ _ _ _ (World.drew _)
  have g2' : Bk ((w.alloc (.cells c0 159)).drew.setRow w.heap.size X1.toArray).drew w.heap.size X1.toArray 159 := g2
  have gg2' : Bk ((w.alloc (.cells c0 159)).drew.setRow w.heap.size X1.toArray).drew g cur 159 := gg2
  have c2 := HC2.out _ g2' gg2'
  have g3 := setRow_bk g2' X2.toArray
  have b1 := ((grown_below_rowV b0 (setRow_grown (w.alloc (.cells c0 159)).drew w.heap.size X1.toArray) (Nat.le_refl _) b0.size).drew)
  have b2 := grown_below_rowV b1 (setRow_grown _ w.heap.size X2.toArray) (Nat.le_refl _) b1.size
  generalize ((w.alloc (.cells c0 159)).drew.setRow w.heap.size X1.toArray).drew = w2 at *
  go_wp2_with (at_builtin; refine wpList_copy_run2 _ rfl _ _ _ _ rfl _ _ rfl rfl (c2 _) ?_)
  go_ret
  exact ⟨G, rfl, own_mk hbase g3 hC1 hC2 (by rw [List.size_toArray, HL.out.1]) HL.out.2, ⟨b2.os, b2.tape, b2.output, b2.size, fun k hk _ => b2.block k hk⟩⟩
/-- Where the cells of a slice of the call's own lie now: in its own block still, or in a new one. -/
def MovedV (v v' : Value) (w : World) : Prop := v'.ownBlock = v.ownBlock ∨ ∃ b, v'.ownBlock = some b ∧ w.heap.size ≤ b
set_option maxRecDepth 100000 in
set_option maxHeartbeats 800000 in
theorem insV_end (base q n : Nat) (vm : Value) (xs : List Value) (pa pv : Value) (w : World) (ho : w.ownsRow base 159 2 vm n xs) (hb : n ≤ 1000000) (hpc : ∀ u ∈ [pa, pv], u.oneCell' = true) (hq : Bk w q #[pa, pv] 159) (hbase : base ≤ w.heap.size) :
    Calls Tryz.prog 243 #[vm, .int .i64 n, .slice (some ⟨q, 0, none⟩) 1 1] w fun e w' => ∃ v', e = .returned v' ∧ w'.ownsRow base 159 2 v' (n + 1) (xs ++ [pa, pv]) ∧ w.grownBy w' vm.ownBlock ∧ MovedV vm v' w := by
  obtain ⟨i0, hi0, hz0, hz1, hz2⟩ := info_parts info_wls
  have hR : RdV w w.heap.size (some ⟨q, 0, none⟩) [pa, pv] := fun _ => ⟨q, 0, rfl, hq.lt, fun j hj => by
    rw [Nat.zero_add, hq.cell j]
    simp only [List.getElem?_toArray]
    exact List.getElem?_eq_getElem hj⟩
  obtain ⟨A, c, rfl⟩ := own_shape ho
  obtain ⟨v', w', h1, h2, h3, h4⟩ := run_append_rv (P := Tryz.prog) w base 2 (by omega) 29 29 159 i0 (.agg #[.int .i64 0, .slice none 0 0]) 32 Tryz.underlying29 hi0 hz0 hz1 hz2 rfl (.slice A n c) n xs ho (some ⟨q, 0, none⟩) [pa, pv] 1 1 w.heap.size rfl hpc hR (by unfold maxLen; omega) (by omega) hbase
  have HO := hide (And.intro h2 (And.intro h3 (show MovedV (.slice A n c) v' w from h4.imp id fun e => ⟨_, e, Nat.le_refl _⟩)))
  have hcut : ∀ W, (Instr.slice 29 (.slice A n c) (some (.int .i64 (n : Int))) none none).run Tryz.prog W = .ok (.slice (if c = n then A else A.map (·.add (n * 2))) 0 (c - n)) W := fun W => by
    by_cases hc : c = n <;> simp [go_sem, hc]
  generalize (if c = n then A else A.map (·.add (n * 2))) = Z at hcut
  clear h2 h3 h4 hR ho
  go_enter Tryz.func243, Tryz.ntmps243
  go_wp2_with (at_builtin; refine Go.Lib.wpList_append_run _ rfl _ _ _ _ rfl _ _ rfl rfl _ _ h1 ?_)
  go_ret
  exact ⟨v', rfl, HO.out⟩
/-- One put in, wherever there is room or none. -/
theorem insertV_any (base q i n : Nat) (vm : Value) (xs : List Value) (pa pv : Value) (w : World) (hi : i ≤ n) (ho : w.ownsRow base 159 2 vm n xs) (hb : n ≤ 1000000) (h1c : ∀ u ∈ xs, u.oneCell' = true) (hpc : ∀ u ∈ [pa, pv], u.oneCell' = true) (hq : Bk w q #[pa, pv] 159) (hne : vm.ownBlock ≠ some q) (hbase : base ≤ w.heap.size) :
    Calls Tryz.prog 243 #[vm, .int .i64 i, .slice (some ⟨q, 0, none⟩) 1 1] w fun e w' => ∃ v', e = .returned v' ∧ w'.ownsRow base 159 2 v' (n + 1) (xs.take (i * 2) ++ [pa, pv] ++ xs.drop (i * 2)) ∧ w.grownBy w' vm.ownBlock ∧ MovedV vm v' w := by
  have hn : xs.length = n * 2 := ho.1
  by_cases hin : i = n
  · subst hin
    rw [List.take_of_length_le (by omega), List.drop_eq_nil_of_le (by omega), List.append_nil]
    exact insV_end base q i vm xs pa pv w ho hb hpc hq hbase
  · have hlt : i < n := by omega
    obtain ⟨g, cap, cur, rfl, hbg, hg, hnc, hcm, hs, hx⟩ := own_open ho (by omega)
    by_cases hr : n + 1 ≤ cap
    · refine (insV_room g n cap i q cur xs pa pv w hg hn hr hs hx hlt hb h1c hpc hq (fun e => hne (by rw [e]; rfl))).mono ?_
      rintro e w' ⟨rfl, cur', h1, h2, h3, h4⟩
      exact ⟨_, rfl, own_mk hbg h1 hr hcm h2 h3, h4, .inl rfl⟩
    · obtain rfl : cap = n := by omega
      refine (insV_grow base g cap i q cur xs pa pv w hg hn hx hlt hb h1c hpc hq hbase).mono ?_
      rintro e w' ⟨G, rfl, h1, h2⟩
      exact ⟨_, rfl, h1, ⟨h2.os, h2.tape, h2.output, h2.size, fun k hk _ => h2.block k hk (fun e => by cases e)⟩, .inr ⟨_, rfl, Nat.le_refl _⟩⟩
end Go.Proofs.YtnnfkmjhaljplaaGreatDoor
namespace Go.Proofs.YtnnfkmjhaljplaaGreatDoor
open Go.RowKit
theorem risO_mono {os : List Wls} (h : risO os) : ∀ p q (hp : p < os.length) (hq : q < os.length), p ≤ q → os[p].a ≤ os[q].a := fun p q hp hq hpq => by
  rcases Nat.lt_or_ge p q with hlt | hge
  · have := List.pairwise_iff_getElem.1 h p q hp hq hlt; omega
  · obtain rfl : p = q := by omega
    exact Int.le_refl _
/-- What a search has shut out. -/
def SrchW (os : List Wls) (t : Int) (lo hi : Nat) : Prop := (∀ p (hp : p < os.length), p < lo → os[p].a < t) ∧ (∀ p (hp : p < os.length), hi ≤ p → t ≤ os[p].a)
/-- Where it ends. -/
structure FoundW (os : List Wls) (t : Int) (i : Nat) (f : Bool) : Prop where
  le : i ≤ os.length
  low : ∀ p (hp : p < os.length), p < i → os[p].a < t
  high : ∀ p (hp : p < os.length), i ≤ p → t ≤ os[p].a
  hit : f = true ↔ ∃ x, os[i]? = some x ∧ x.a = t
theorem SrchW.found {os : List Wls} {t : Int} {i : Nat} {f : Bool} (h : SrchW os t i i) (hi : i ≤ os.length) (hf : f = true ↔ ∃ x, os[i]? = some x ∧ x.a = t) : FoundW os t i f := ⟨hi, h.1, h.2, hf⟩
theorem FoundW.yes {os : List Wls} {t : Int} {i : Nat} (h : FoundW os t i true) : ∃ (hi : i < os.length), os[i].a = t := by
  obtain ⟨x, h1, h2⟩ := h.hit.1 rfl
  have hi : i < os.length := by
    rcases Nat.lt_or_ge i os.length with a | a
    · exact a
    · rw [List.getElem?_eq_none a] at h1; cases h1
  rw [List.getElem?_eq_getElem hi] at h1
  cases h1
  exact ⟨hi, h2⟩
theorem FoundW.no {os : List Wls} {t : Int} {i : Nat} (h : FoundW os t i false) (hr : risO os) : ∀ w ∈ os, w.a ≠ t := fun w hw e => by
  obtain ⟨p, hp, rfl⟩ := List.getElem_of_mem hw
  rcases Nat.lt_or_ge p i with a | a
  · have := h.low p hp a; omega
  · rcases Nat.lt_or_ge i p with b | b
    · have h1 := h.high i (by omega) (Nat.le_refl _)
      have h2 := List.pairwise_iff_getElem.1 hr i p (by omega) hp b
      omega
    · obtain rfl : p = i := by omega
      have := h.hit.2 ⟨os[p], List.getElem?_eq_getElem hp, e⟩
      cases this
theorem byPlace_any (x : Wls) (a : Option Addr) (n c : Nat) (t : Int) (w : World) :
    Calls Tryz.prog 247 #[.agg #[.int .i64 x.a, .slice a n c], .int .i64 t] w fun e w' => e = .returned (.int .i64 (cmpI x.a t)) ∧ Below w.heap.size w w' := by
  go_enter Tryz.func247, Tryz.ntmps247
  go_wp2_with fail
  refine (compare_any x.a t _).mono ?_
  rintro e w1 ⟨rfl, rfl⟩
  go_wp2
  go_ret
  exact ⟨rfl, by go_grown⟩
set_option maxRecDepth 100000 in
set_option maxHeartbeats 1600000 in
theorem searchW_any (os : List Wls) (A : Option Addr) (c : Nat) (ta : Int) (w : World) (hb : os.length ≤ 1000000) (hr : risO os) (h : RdW w w.heap.size A os) :
    Calls Tryz.prog 246 #[.slice A os.length c, .int .i64 ta, .func (.func 247) #[] #[]] w fun e w' => ∃ i f, e = .returned (.tuple #[.int .i64 (i : Nat), .bool f]) ∧ FoundW os ta i f ∧ Below w.heap.size w w' := by
  have HM := hide (risO_mono hr)
  clear hr
  go_enter Tryz.func246, Tryz.ntmps246
  go_wp2
  go_loopw [9, 10] (fun s9 s10 wr => ∃ lo hi : Nat, s9 = .int .i64 lo ∧ s10 = .int .i64 hi ∧ lo ≤ hi ∧ hi ≤ os.length ∧ Below w.heap.size w wr ∧ Hid (SrchW os ta lo hi)) (fun s9 s10 _ => (intOf s10).toNat - (intOf s9).toNat)
  case atStart => exact ⟨0, os.length, rfl, rfl, Nat.zero_le _, Nat.le_refl _, Below.refl _ _, hide ⟨fun p hp h => by omega, fun p hp h => by omega⟩⟩
  case round =>
    obtain ⟨lo, hi, rfl, rfl, hlh, hin, hbw, HS⟩ := hrel
    by_cases hlt : lo < hi
    · obtain ⟨b, off, a, d, rfl, hbb, c0, c1, hle, hcm, hrd⟩ := (h.below hbw).get (i := (lo + hi) / 2) (by omega)
      obtain ⟨X, hX⟩ : ∃ X, X = os[(lo + hi) / 2]'(by omega) := ⟨_, rfl⟩
      rw [← hX] at c0 c1
      have HX := hide hX
      have i0 : (0 : Int) ≤ ((lo : Int) + (hi : Int)) / 2 := by omega
      have i1 : ((lo : Int) + (hi : Int)) / 2 < (os.length : Int) := by omega
      have i2 : (((lo : Int) + (hi : Int)) / 2).toNat = (lo + hi) / 2 := by omega
      clear hX hrd hle
      go_wp2_with fail
      refine (byPlace_any X a X.ids.length d ta _).mono ?_
      rintro e w1 ⟨rfl, b1⟩
      have B1 := hbw.trans (b1.mono hbw.size)
      clear c0 c1 hbw b1
      by_cases hx : X.a < ta
      · have e1 : decide (cmpI X.a ta < 0) = true := decide_eq_true (cmpI_lt.2 hx)
        have HN := hide (show SrchW os ta ((lo + hi) / 2 + 1) hi from ⟨fun p hp hpl => by
          have := HM.out p ((lo + hi) / 2) hp (by omega) (by omega)
          rw [← HX.out] at this
          omega, HS.out.2⟩)
        clear hx
        go_wp2
        go_roundw
        case rel => exact ⟨(lo + hi) / 2 + 1, hi, by rw [show ((lo : Int) + (hi : Int)) / 2 + 1 = (((lo + hi) / 2 + 1 : Nat) : Int) by omega], rfl, by omega, hin, B1, HN⟩
        case measure => simp [intOf]; omega
      · have e1 : decide (cmpI X.a ta < 0) = false := decide_eq_false (fun e => hx (cmpI_lt.1 e))
        have HN := hide (show SrchW os ta lo ((lo + hi) / 2) from ⟨HS.out.1, fun p hp hpl => by
          have := HM.out ((lo + hi) / 2) p (by omega) hp hpl
          rw [← HX.out] at this
          omega⟩)
        clear hx
        go_wp2
        go_roundw
        case rel => exact ⟨lo, (lo + hi) / 2, rfl, by rw [show ((lo : Int) + (hi : Int)) / 2 = (((lo + hi) / 2 : Nat) : Int) by omega], by omega, by omega, B1, HN⟩
        case measure => simp [intOf]; omega
    · obtain rfl : hi = lo := by omega
      by_cases hn : hi < os.length
      · obtain ⟨b, off, a, d, rfl, hbb, c0, c1, hle, hcm, hrd⟩ := (h.below hbw).get hn
        have f0 : decide ((hi : Int) < (os.length : Int)) = true := decide_eq_true (by omega)
        have HF := hide (show FoundW os ta hi (decide (cmpI os[hi].a ta = 0)) from HS.out.found hin (by
          rw [decide_eq_true_eq, cmpI_eq, List.getElem?_eq_getElem hn]
          exact ⟨fun e => ⟨_, rfl, e⟩, fun ⟨_, e1, e2⟩ => by cases e1; exact e2⟩))
        obtain ⟨X, hX⟩ : ∃ X, X = os[hi] := ⟨_, rfl⟩
        rw [← hX] at c0 c1 HF hle hrd
        clear hX hle hrd
        go_wp2_with fail
        refine (byPlace_any X a X.ids.length d ta _).mono ?_
        rintro e w1 ⟨rfl, b1⟩
        have B1 := hbw.trans (b1.mono hbw.size)
        go_wp2
        go_ret2
        exact ⟨hi, _, by congr 1, HF.out, B1⟩
      · have HF := hide (show FoundW os ta hi false from HS.out.found hin (by
          rw [List.getElem?_eq_none (by omega)]
          exact ⟨fun e => (by cases e), fun ⟨_, e1, _⟩ => (by cases e1)⟩))
        go_wp2
        go_ret2
        exact ⟨hi, false, rfl, HF.out, hbw⟩
theorem placeW_any (os : List Wls) (A : Option Addr) (c : Nat) (ta : Int) (w : World) (hb : os.length ≤ 1000000) (hr : risO os) (h : RdW w w.heap.size A os) :
    Calls Tryz.prog 207 #[.slice A os.length c, .int .i64 ta] w fun e w' => ∃ i f, e = .returned (.tuple #[.int .i64 (i : Nat), .bool f]) ∧ FoundW os ta i f ∧ Below w.heap.size w w' := by
  go_enter Tryz.func207, Tryz.ntmps207
  go_wp2_with fail
  refine (searchW_any os A c ta w hb hr h).mono ?_
  rintro e w1 ⟨i, f, rfl, hF, hb1⟩
  go_wp2
  go_ret2
  exact ⟨i, f, rfl, hF, hb1⟩
end Go.Proofs.YtnnfkmjhaljplaaGreatDoor
namespace Go.Proofs.YtnnfkmjhaljplaaGreatDoor
open Go.RowKit
/-- Only rows of us are turned, and new memory. -/
structure Spare (us : List Value) (w w' : World) : Prop where
  os : w'.os = w.os
  tape : w'.tape = w.tape
  output : w'.output = w.output
  size : w.heap.size ≤ w'.heap.size
  block : ∀ g, g < w.heap.size → (∀ u ∈ us, u.ownBlock ≠ some g) → w'.heap[g]? = w.heap[g]?
section
variable {w w1 w' : World} {us : List Value} {base : Nat} {v : Value} {os : List Wls}
theorem Spare.refl (us : List Value) (w : World) : Spare us w w := ⟨rfl, rfl, rfl, Nat.le_refl _, fun _ _ _ => rfl⟩
theorem Spare.more {row : Option Nat} (h : Spare us w w1) (hg : w1.grownBy w' row) (hr : ∀ g, row = some g → (∃ u ∈ us, u.ownBlock = some g) ∨ w.heap.size ≤ g) : Spare us w w' :=
  ⟨hg.os.trans h.os, hg.tape.trans h.tape, hg.output.trans h.output, Nat.le_trans h.size hg.size, fun g hl hn => (hg.block g (Nat.lt_of_lt_of_le hl h.size) (fun e => by
    rcases hr g e.symm with ⟨u, hu, e2⟩ | hge
    · exact hn u hu e2
    · omega)).trans (h.block g hl hn)⟩
theorem Spare.of_below (h : Below w.heap.size w w') : Spare us w w' := ⟨h.os, h.tape, h.output, h.size, fun g hl _ => h.block g hl⟩
theorem Spare.then_ (h : Spare us w w1) (hb : Below w1.heap.size w1 w') : Spare us w w' := h.more (row := none) ⟨hb.os, hb.tape, hb.output, hb.size, fun k hk _ => hb.block k hk⟩ (fun g e => by cases e)
theorem Spare.bk {g : Nat} {cs : Array Value} {t : TypeId} (h : Spare us w w') (hb : Bk w g cs t) (hn : ∀ u ∈ us, u.ownBlock ≠ some g) : Bk w' g cs t := (h.block g hb.lt hn).trans hb
theorem Spare.below {B : Nat} (h : Spare us w w') (hB : B ≤ w.heap.size) (hu : ∀ u ∈ us, ∀ b, u.ownBlock = some b → B ≤ b) : Below B w w' := ⟨h.os, h.tape, h.output, h.size, fun k hk => h.block k (by omega) fun u hu' e => by have := hu u hu' k e; omega⟩
theorem wlR_insert : ∀ {os : List Wls} {us : List Value}, us.length = os.length → ∀ (i : Nat) (_ : i ≤ os.length) (x : Wls) (u : Value), wlR (os.take i ++ x :: os.drop i) (us.take i ++ u :: us.drop i) = (wlR os us).take (i * 2) ++ [.int .i64 x.a, u] ++ (wlR os us).drop (i * 2)
  | os, us, _, 0, _, x, u => by simp [wlR]
  | [], _, _, i + 1, hi, _, _ => by simp at hi
  | _ :: _, [], h, _ + 1, _, _, _ => by simp at h
  | y :: r, v :: us, h, i + 1, hi, x, u => by
    have := wlR_insert (os := r) (us := us) (by simpa using h) i (by simpa using hi) x u
    rw [show (i + 1) * 2 = i * 2 + 1 + 1 by omega]
    simp only [List.take_succ_cons, List.drop_succ_cons, List.cons_append, wlR] at this ⊢
    rw [this]
theorem getElem?_ins {α : Type} (l : List α) (i : Nat) (hi : i ≤ l.length) (x : α) (j : Nat) : (l.take i ++ x :: l.drop i)[j]? = if j < i then l[j]? else if j = i then some x else l[j - 1]? := by
  have hl : (l.take i).length = i := by rw [List.length_take]; omega
  by_cases h1 : j < i
  · rw [if_pos h1, List.getElem?_append_left (by omega), List.getElem?_take_of_lt h1]
  · rw [if_neg h1, List.getElem?_append_right (by omega), hl]
    by_cases h2 : j = i
    · subst h2; rw [if_pos rfl, Nat.sub_self]; rfl
    · rw [if_neg h2, show j - i = (j - i - 1) + 1 by omega, List.getElem?_cons_succ, List.getElem?_drop]
      congr 1
      omega
/-- A list without ids put in. -/
theorem OwnW.insert {v' : Value} {i : Nat} {a : Int} (h : OwnW w base v os us) (hi : i ≤ os.length) (ho : w'.ownsRow base 159 2 v' (os.length + 1) ((wlR os us).take (i * 2) ++ [.int .i64 a, .slice none 0 0] ++ (wlR os us).drop (i * 2))) (hg : w.grownBy w' v.ownBlock) :
    OwnW w' base v' (os.take i ++ ⟨a, []⟩ :: os.drop i) (us.take i ++ .slice none 0 0 :: us.drop i) := by
  have hl : (os.take i ++ ⟨a, []⟩ :: os.drop i).length = os.length + 1 := by simp only [List.length_append, List.length_cons, List.length_take, List.length_drop]; omega
  have hul : i ≤ us.length := by rw [h.len]; exact hi
  refine ⟨by rw [hl, wlR_insert h.len i hi]; exact ho, by rw [hl]; simp only [List.length_append, List.length_cons, List.length_take, List.length_drop, h.len]; omega, fun j hj => ?_, ?_⟩
  · have hget := getElem?_ins os i hi ⟨a, []⟩ j
    have hget2 := getElem?_ins us i hul (.slice none 0 0) j
    rw [List.getElem?_eq_getElem hj] at hget
    rw [hl] at hj
    have keep : ∀ (k : Nat) (hk : k < os.length), ∃ u, us[k]? = some u ∧ w'.ownsRow base 191 2 u os[k].ids.length (cels (wids os[k].ids)) := fun k hk => by
      obtain ⟨u, h1, h2⟩ := h.rows k hk
      exact ⟨u, h1, h2.kept hg (own_sep fun b hb e => h.far h1 b hb e)⟩
    by_cases h1 : j < i
    · rw [if_pos h1] at hget hget2
      obtain ⟨u, g1, g2⟩ := keep j (by omega)
      rw [List.getElem?_eq_getElem (by omega), Option.some.injEq] at hget
      exact ⟨u, hget2.trans g1, by rw [hget]; exact g2⟩
    · rw [if_neg h1] at hget hget2
      by_cases h2 : j = i
      · rw [if_pos h2, Option.some.injEq] at hget
        rw [if_pos h2] at hget2
        exact ⟨_, hget2, by rw [hget]; exact World.ownsRow_nil _ _ _ _⟩
      · rw [if_neg h2] at hget hget2
        obtain ⟨u, g1, g2⟩ := keep (j - 1) (by omega)
        rw [List.getElem?_eq_getElem (by omega), Option.some.injEq] at hget
        exact ⟨u, hget2.trans g1, by rw [hget]; exact g2⟩
  · intro p q x y hpq hx hy b hb e
    rw [getElem?_ins us i hul] at hx hy
    have key : ∀ (p : Nat) (x : Value), (if p < i then us[p]? else if p = i then some (.slice none 0 0) else us[p - 1]?) = some x → x.ownBlock = some b → ∃ k, us[k]? = some x ∧ ((p < i ∧ k = p) ∨ (i < p ∧ k = p - 1)) := by
      intro p x hx hb
      by_cases h1 : p < i
      · rw [if_pos h1] at hx; exact ⟨p, hx, .inl ⟨h1, rfl⟩⟩
      · rw [if_neg h1] at hx
        by_cases h2 : p = i
        · rw [if_pos h2] at hx; cases hx; cases hb
        · rw [if_neg h2] at hx; exact ⟨p - 1, hx, .inr ⟨by omega, rfl⟩⟩
    obtain ⟨k, k1, k2⟩ := key p x hx hb
    obtain ⟨l, l1, l2⟩ := key q y hy e
    exact h.apart k l x y (by omega) k1 l1 b hb e
end
theorem insW_yes {a : Int} {x : Wid} : ∀ {os : List Wls} {i : Nat} (_ : FoundW os a i true) (hi : i < os.length), insW a x os = os.set i ⟨os[i].a, os[i].ids ++ [x]⟩
  | [], i, _, hi => by simp at hi
  | w :: r, 0, h, _ => by
    obtain ⟨_, e⟩ := h.yes
    simp only [List.getElem_cons_zero] at e
    rw [insW, if_neg (by omega), if_pos e]
    simp [e]
  | w :: r, i + 1, h, hi => by
    have h0 := h.low 0 (by simp) (by omega)
    simp only [List.getElem_cons_zero] at h0
    have ht : FoundW r a i true := ⟨by have := h.le; simpa using this, fun p hp hpi => by have := h.low (p + 1) (by simpa using hp) (by omega); simpa using this, fun p hp hpi => by have := h.high (p + 1) (by simpa using hp) (by omega); simpa using this, by have := h.hit; simpa using this⟩
    rw [insW, if_neg (by omega), if_neg (by omega), insW_yes ht (by simpa using hi)]
    simp
theorem insW_no {a : Int} {x : Wid} : ∀ {os : List Wls} {i : Nat} (_ : FoundW os a i false), insW a x os = os.take i ++ ⟨a, [x]⟩ :: os.drop i
  | [], i, h => by simp [insW]
  | w :: r, 0, h => by
    have h1 := h.high 0 (by simp) (by omega)
    simp only [List.getElem_cons_zero] at h1
    have h2 : w.a ≠ a := fun e => by have := h.hit.2 ⟨w, rfl, e⟩; cases this
    rw [insW, if_pos (by omega)]
    simp
  | w :: r, i + 1, h => by
    have h0 := h.low 0 (by simp) (by omega)
    simp only [List.getElem_cons_zero] at h0
    have ht : FoundW r a i false := ⟨by have := h.le; simpa using this, fun p hp hpi => by have := h.low (p + 1) (by simpa using hp) (by omega); simpa using this, fun p hp hpi => by have := h.high (p + 1) (by simpa using hp) (by omega); simpa using this, by have := h.hit; simpa using this⟩
    rw [insW, if_neg (by omega), if_neg (by omega), insW_no ht]
    simp
theorem wids_snoc (l : List Wid) (x : Wid) : cels (wids l) ++ cels [⟨x.c, x.i⟩] = cels (wids (l ++ [x])) := by
  rw [← cels_append]
  unfold wids
  rw [List.map_append]
  rfl
theorem OwnW.one {w : World} {base : Nat} {v : Value} {os : List Wls} {us : List Value} (h : OwnW w base v os us) : ∀ u ∈ us, u.oneCell' = true := fun u hu => by
  obtain ⟨i, hi⟩ := List.getElem?_of_mem hu
  obtain ⟨_, h2⟩ := h.at_ hi
  obtain ⟨A, c, rfl⟩ := own_shape h2
  rfl
set_option maxRecDepth 100000 in
set_option maxHeartbeats 1600000 in
theorem addWrite_any (base : Nat) (v : Value) (os : List Wls) (us : List Value) (a : Int) (x : Wid) (w : World) (ho : OwnW w base v os us) (hr : risO os) (hl : os.length ≤ 1000) (hm : ∀ y ∈ os, y.ids.length ≤ 1000) (hbase : base ≤ w.heap.size) :
    Calls Tryz.prog 202 #[v, .int .i64 a, .agg #[.int .i64 x.c, .int .i64 x.i]] w fun e w' => ∃ v' us', e = .returned v' ∧ OwnW w' base v' (insW a x os) us' ∧ Spare (v :: us) w w' := by
  obtain ⟨A, n, c, hv⟩ : ∃ A n c, v = .slice A n c := by obtain ⟨A, c, e⟩ := own_shape ho.row; exact ⟨A, _, c, e⟩
  subst hv
  obtain rfl := ho.n_eq
  obtain ⟨i0, hi0, hz0, hz1, hz2⟩ := info_parts info_wid
  obtain ⟨W, hW⟩ : ∃ W, W = w.alloc (Obj.cells #[.int .i64 x.c, .int .i64 x.i] 191) := ⟨_, rfl⟩
  have kp : Bk W w.heap.size #[.int .i64 x.c, .int .i64 x.i] 191 := by rw [hW]; exact Bk.new w _ _
  have hoW : OwnW W base (.slice A os.length c) os us := by rw [hW]; exact ho.alloc _
  have hWz : W.heap.size = w.heap.size + 1 := by rw [hW]; simp
  have SW : Spare (.slice A os.length c :: us) w W := by rw [hW]; exact Spare.of_below ((Below.refl _ _).alloc (Nat.le_refl _) _)
  have HOLD := hide (show (∀ b, (Value.slice A os.length c).ownBlock = some b → b < w.heap.size) ∧ ∀ u ∈ us, ∀ b, u.ownBlock = some b → b < w.heap.size from ⟨fun b e => (ho.row.lt b e).2, fun u hu b e => (ho.bound u hu b e).2⟩)
  have HW := hide hW
  clear hW ho
  go_enter Tryz.func202, Tryz.ntmps202
  go_wp2_with fail
  rw [← HW.out]
  refine (placeW_any os A c a W (by omega) hr hoW.rd).mono ?_
  rintro e w1 ⟨i, f, rfl, hF, b1⟩
  have ho1 := hoW.below b1
  have kp1 := kp.kept b1
  have S1 := SW.then_ b1
  have hzw1 := b1.size
  clear hoW kp SW b1
  cases f
  · have HI := hide (insW_no (x := x) hF)
    have hil := hF.le
    obtain ⟨w2, hw2⟩ : ∃ w2, w2 = w1.alloc (Obj.cells #[.int .i64 a, .slice none 0 0] 159) := ⟨_, rfl⟩
    have kq : Bk w2 w1.heap.size #[.int .i64 a, .slice none 0 0] 159 := by rw [hw2]; exact Bk.new w1 _ _
    have ho2 : OwnW w2 base (.slice A os.length c) os us := by rw [hw2]; exact ho1.alloc _
    have kp2 : Bk w2 w.heap.size #[.int .i64 x.c, .int .i64 x.i] 191 := by rw [hw2]; exact kp1.alloc _
    have S2 : Spare (.slice A os.length c :: us) w w2 := by rw [hw2]; exact S1.then_ ((Below.refl _ _).alloc (Nat.le_refl _) _)
    have hz2' : w2.heap.size = w1.heap.size + 1 := by rw [hw2]; simp
    have HW2 := hide hw2
    have INS := hide (insertV_any base w1.heap.size i os.length (.slice A os.length c) (wlR os us) (.int .i64 a) (.slice none 0 0) w2 hil ho2.row (by omega) (wlR_one ho2.one) (by intro u hu; simp at hu; rcases hu with rfl | rfl <;> rfl) kq (fun e => by have := (ho1.row.lt _ e).2; omega) (by omega))
    clear hw2 ho1 kp1 S1 kq hF
    go_wp2_with fail
    rw [← HW2.out]
    refine INS.out.mono ?_
    rintro e w3 ⟨v', rfl, o3, g3, m3⟩
    have ho3 := ho2.insert (a := a) hil o3 g3
    have kp3 := kp2.grown g3 (fun e => own_box ho2.row kp2 (by decide) e.symm)
    have S3 := S2.more g3 (fun g e => .inl ⟨_, List.mem_cons_self, e⟩)
    have hz3 := g3.size
    have hi3 : i < (os.take i ++ (⟨a, []⟩ : Wls) :: os.drop i).length := by simp only [List.length_append, List.length_cons, List.length_take, List.length_drop]; omega
    have hget : (os.take i ++ (⟨a, []⟩ : Wls) :: os.drop i)[i]'hi3 = ⟨a, []⟩ := by
      have h1 := getElem?_ins os i hil (⟨a, []⟩ : Wls) i
      rw [List.getElem?_eq_getElem hi3, if_neg (Nat.lt_irrefl _), if_pos rfl] at h1
      exact Option.some.inj h1
    have HF := hide (show (os.take i ++ (⟨a, []⟩ : Wls) :: os.drop i).set i ⟨a, [] ++ [x]⟩ = insW a x os by
      have hl : (os.take i).length = i := by rw [List.length_take]; omega
      rw [HI.out, List.set_append_right _ _ (by omega), hl, Nat.sub_self]
      rfl)
    have hfresh : ∀ b, v'.ownBlock = some b → (∃ u ∈ (Value.slice A os.length c :: us), u.ownBlock = some b) ∨ w.heap.size ≤ b := fun b hb => by
      rcases m3 with e | ⟨b', e, hb'⟩
      · exact .inl ⟨_, List.mem_cons_self, e.symm.trans hb⟩
      · rw [hb] at e; cases e; exact .inr (by omega)
    have husf : ∀ u ∈ (us.take i ++ Value.slice none 0 0 :: us.drop i), ∀ b, u.ownBlock = some b → ∃ u ∈ (Value.slice A os.length c :: us), u.ownBlock = some b := fun u hu b hb => by
      rcases List.mem_append.1 hu with hu | hu
      · exact ⟨u, List.mem_cons_of_mem _ (List.mem_of_mem_take hu), hb⟩
      · rcases List.mem_cons.1 hu with rfl | hu
        · cases hb
        · exact ⟨u, List.mem_cons_of_mem _ (List.mem_of_mem_drop hu), hb⟩
    obtain ⟨os3, hos3⟩ : ∃ l, l = os.take i ++ (⟨a, []⟩ : Wls) :: os.drop i := ⟨_, rfl⟩
    obtain ⟨us3, hus3⟩ : ∃ l, l = us.take i ++ Value.slice none 0 0 :: us.drop i := ⟨_, rfl⟩
    rw [← hos3] at ho3 HF
    rw [← hus3] at ho3 husf
    have hi3' : i < os3.length := by rw [hos3]; exact hi3
    have hget' : os3[i] = ⟨a, []⟩ := by subst hos3; exact hget
    have hl3 : os3.length ≤ 1001 := by rw [hos3]; simp only [List.length_append, List.length_cons, List.length_take, List.length_drop]; omega
    have hLa : os3[i].a = a := by rw [hget']
    have hLi : os3[i].ids = [] := by rw [hget']
    have HF2 := hide (show os3.set i ⟨os3[i].a, os3[i].ids ++ [x]⟩ = insW a x os by rw [hLa, hLi]; exact HF.out)
    have hm3 : os3[i].ids.length ≤ 1000 := by rw [hLi]; simp
    clear hos3 hus3 hget hi3 o3 g3 m3 ho2 kp2 S2 HF hget' hLa hLi INS HI
    obtain ⟨A3, c3, hv3⟩ := own_shape ho3.row
    subst hv3
    obtain ⟨gv, rfl⟩ : ∃ g, A3 = some ⟨g, 0, none⟩ := by
      rcases ho3.row.2 with ⟨h', h''⟩ | ⟨g, cap, cur, h', _⟩
      · omega
      · simp only [Value.slice.injEq] at h'
        exact ⟨g, h'.1⟩
    have hiz : ¬ os3.length ≤ i := by omega
    obtain ⟨u, hui, hru⟩ := ho3.rows i hi3'
    obtain ⟨L, hL⟩ : ∃ L, L = os3[i].ids := ⟨_, rfl⟩
    obtain ⟨ai, hai⟩ : ∃ q, q = os3[i].a := ⟨_, rfl⟩
    rw [← hL] at hru hm3
    rw [← hL, ← hai] at HF2
    obtain ⟨ak, ck, hu⟩ := own_shape hru
    subst hu
    have HLA := hide (And.intro hL hai)
    clear hL hai
    have hrd : OwnW w3.drew base (.slice (some ⟨gv, 0, none⟩) os3.length c3) os3 us3 := ho3.below (Below.refl _ _).drew
    have kpd : Bk w3.drew w.heap.size #[.int .i64 x.c, .int .i64 x.i] 191 := kp3
    have Sd := S3.then_ (Below.refl w3.heap.size w3).drew
    have hzd : w3.drew.heap.size = w3.heap.size := rfl
    go_wp2_with fail
    obtain ⟨wy, hwy⟩ : ∃ wy, wy = w3.drew := ⟨_, rfl⟩
    rw [← hwy] at hrd kpd Sd hzd
    have AC : ∀ w', Bk w' w.heap.size #[.int .i64 x.c, .int .i64 x.i] 191 → w'.cell? ⟨w.heap.size, 0, none⟩ = some (Value.int .i64 x.c) ∧ w'.cell? ⟨w.heap.size, 1, none⟩ = some (Value.int .i64 x.i) := fun w' h => ⟨(h.cell 0).trans rfl, (h.cell 1).trans rfl⟩
    have hcell : ∀ w', OwnW w' base (.slice (some ⟨gv, 0, none⟩) os3.length c3) os3 us3 → w'.cell? ⟨gv, i * 2 + 1, none⟩ = some (Value.slice ak L.length ck) := fun w' h => by
      have hwl := wlR_length h.len
      rw [h.row.cellAt (i * 2 + 1) (by omega), (wlR_get h.len i hi3').2]
      exact hui
    have a0 := AC _ kpd
    have s0 := hcell _ hrd
    have hs1 := hrd.alloc (.cells #[.int .i64 x.c, .int .i64 x.i] 191)
    have kpa := kpd.alloc (.cells #[.int .i64 x.c, .int .i64 x.i] 191)
    have Sa := Sd.then_ ((Below.refl wy.heap.size wy).alloc (Nat.le_refl _) (.cells #[.int .i64 x.c, .int .i64 x.i] 191))
    have a1 := AC _ kpa
    have s1 := hcell _ hs1
    have hBl := RdC.one_new wy ⟨x.c, x.i⟩ 191
    obtain ⟨_, hoM⟩ := hs1.at_ hui
    have hoL : (wy.alloc (.cells #[.int .i64 x.c, .int .i64 x.i] 191)).ownsRow base 191 2 (.slice ak L.length ck) L.length (cels (wids L)) := by rw [← HLA.out.1] at hoM; exact hoM
    have hzy : base ≤ (wy.alloc (.cells #[.int .i64 x.c, .int .i64 x.i] 191)).heap.size := by simp; omega
    have hnp : some w.heap.size ≠ (Value.slice ak L.length ck).ownBlock := fun e => by
      obtain ⟨u2, h1, h2⟩ := husf _ (List.mem_of_getElem? hui) _ e.symm
      rcases List.mem_cons.1 h1 with rfl | h1
      · have := HOLD.out.1 _ h2; omega
      · have := HOLD.out.2 _ h1 _ h2; omega
    have hgvp : w.heap.size ≠ gv := fun e => own_box hrd.row kpd (by decide) (by rw [e]; rfl)
    subst hwy
    clear kp3 ho3 S3 hrd kpd Sd hoM
    refine wp_region_F 9 (fun w' => w'.cell? ⟨w.heap.size, 0, none⟩ = some (Value.int .i64 x.c) ∧ w'.cell? ⟨w.heap.size, 1, none⟩ = some (Value.int .i64 x.i)) (fun w' => w'.cell? ⟨gv, i * 2 + 1, none⟩ = some (Value.slice ak L.length ck)) (by kernel_rfl) ⟨a0, s0⟩ (fun hHeld => ?_)
    try simp only [Act.put, List.setIfInBounds_toArray, List.set_cons_zero, List.set_cons_succ]
    refine wpAnyF_take (i := 0) (v := ?_) (by (simp only [List.getElem?_toArray, List.getElem?_cons_zero]; rfl)) (by kernel_rfl) (by kernel_rfl) (by kernel_rfl) (by decide) (by exact fun _ _ _ h => h) ⟨hHeld.1, .inr hHeld.2⟩ (Or.inl ⟨by rfl, ?_⟩) ?_
    rotate_left
    · (intro w' _; go_simp <;> with_reducible rfl)
    try simp only [Act.put, List.setIfInBounds_toArray, List.set_cons_zero, List.set_cons_succ]
    refine wpAnyF_take (i := 1) (v := ?_) (by (simp only [List.getElem?_toArray, List.getElem?_cons_succ, List.getElem?_cons_zero]; rfl)) (by kernel_rfl) (by kernel_rfl) (by kernel_rfl) (by decide) (by exact fun _ _ _ h => h) ⟨hHeld.1, .inr hHeld.2⟩ (Or.inl ⟨by rfl, ?_⟩) ?_
    rotate_left
    · (intro w' _; go_simp <;> with_reducible rfl)
    try simp only [Act.put, List.setIfInBounds_toArray, List.set_cons_zero, List.set_cons_succ]
    refine wpAnyF_take (i := 2) (v := ?_) (by (simp only [List.getElem?_toArray, List.getElem?_cons_succ, List.getElem?_cons_zero]; rfl)) (by kernel_rfl) (by kernel_rfl) (by kernel_rfl) (by decide) (by exact fun _ _ _ h => h) ⟨hHeld.1, .inr hHeld.2⟩ (Or.inl ⟨by rfl, ?_⟩) ?_
    rotate_left
    · (intro w' _; go_simp <;> with_reducible rfl)
    try simp only [Act.put, List.setIfInBounds_toArray, List.set_cons_zero, List.set_cons_succ]
    refine wpAnyF_take (i := 3) (v := ?_) (by (simp only [List.getElem?_toArray, List.getElem?_cons_succ, List.getElem?_cons_zero]; rfl)) (by kernel_rfl) (by kernel_rfl) (by kernel_rfl) (by decide) (by exact fun _ _ _ h => h) ⟨hHeld.1, .inr hHeld.2⟩ (Or.inl ⟨by rfl, ?_⟩) ?_
    rotate_left
    · (intro w' _; go_simp <;> with_reducible rfl)
    try simp only [Act.put, List.setIfInBounds_toArray, List.set_cons_zero, List.set_cons_succ]
    refine wpAnyF_take (i := 4) (v := ?_) (by (simp only [List.getElem?_toArray, List.getElem?_cons_succ, List.getElem?_cons_zero]; rfl)) (by kernel_rfl) (by kernel_rfl) (by kernel_rfl) (by decide) (by exact fun _ _ _ h => h) ⟨hHeld.1, .inr hHeld.2⟩ (Or.inl ⟨by rfl, ?_⟩) ?_
    rotate_left
    · (intro w' _; go_simp <;> with_reducible rfl)
    try simp only [Act.put, List.setIfInBounds_toArray, List.set_cons_zero, List.set_cons_succ]
    refine wpAnyF_take (i := 5) (v := ?_) (by (simp only [List.getElem?_toArray, List.getElem?_cons_succ, List.getElem?_cons_zero]; rfl)) (by kernel_rfl) (by kernel_rfl) (by kernel_rfl) (by decide) (by exact fun _ _ _ h => h) ⟨hHeld.1, .inr hHeld.2⟩ (Or.inl ⟨by rfl, ?_⟩) ?_
    rotate_left
    · (intro w' _; go_simp <;> with_reducible rfl)
    try simp only [Act.put, List.setIfInBounds_toArray, List.set_cons_zero, List.set_cons_succ]
    refine wpAnyF_load (i := 6) (v := ?_) (by (simp only [List.getElem?_toArray, List.getElem?_cons_succ, List.getElem?_cons_zero]; rfl)) (by kernel_rfl) (by kernel_rfl) (by kernel_rfl) (by decide) (by exact fun _ _ _ h => h) hHeld (by kernel_rfl) (by kernel_rfl) (Or.inl ⟨by rfl, ?_⟩) ?_
    rotate_left
    · (intro w' hSw; (try dsimp only at hSw); obtain hSb0 := hSw; go_simp <;> with_reducible rfl)
    try simp only [Act.put, List.setIfInBounds_toArray, List.set_cons_zero, List.set_cons_succ]
    refine wpAnyF_keep (i := 7) (v := ?_) (by (simp only [List.getElem?_toArray, List.getElem?_cons_succ, List.getElem?_cons_zero]; rfl)) (by kernel_rfl) (by kernel_rfl) (by kernel_rfl) (by decide) (by exact fun _ _ _ h => h) ⟨hHeld.1, .inr hHeld.2⟩ (Or.inl ⟨by rfl, ?_⟩) ?_
    rotate_left
    · (intro w' hSw; (try dsimp only at hSw); obtain ⟨hSa0, hSa1⟩ := hSw; go_simp <;> with_reducible rfl)
    try simp only [Act.put, List.setIfInBounds_toArray, List.set_cons_zero, List.set_cons_succ]
    refine wpAnyF_ready (rs := [8]) (by kernel_rfl) (by simp) ?_
    refine AllReadyF.cons (by (simp only [List.getElem?_toArray, List.getElem?_cons_succ, List.getElem?_cons_zero]; rfl)) (fun K hK => ?_) AllReadyF.nil
    go_simp
    refine hK.out _ _ ⟨a1, s1⟩ (fun hNew => ?_)
    clear hK K hHeld
    have hHeld := hNew
    clear hNew
    try simp only [Act.put, List.setIfInBounds_toArray, List.set_cons_zero, List.set_cons_succ]
    refine wpAnyF_ready (rs := [9]) (by kernel_rfl) (by simp) ?_
    refine AllReadyF.last (by (simp only [List.getElem?_toArray, List.getElem?_cons_succ, List.getElem?_cons_zero]; rfl)) (by kernel_rfl) (fun K hK => ?_) AllReadyF.nil
    refine step_append_rc _ (by rfl) (.tmp 29) (.tmp 31) 157 (by rfl) base 191 i0 (.agg #[.int .i64 0, .int .i64 0]) 16 Tryz.underlying157 hi0 hz0 hz1 hz2 rfl (.slice ak L.length ck) L.length (cels (wids L)) (by rfl) hoL (some ⟨w3.drew.heap.size, 0, none⟩) [⟨x.c, x.i⟩] 1 (w3.drew.heap.size + 1) (by rfl) hBl (by unfold maxLen; simp only [List.length_cons, List.length_nil]; omega) (by simp only [List.length_cons, List.length_nil]; omega) hzy ?_
    intro v5 w5 o5 g5 hat5
    simp only [List.length_cons, List.length_nil, Nat.zero_add] at o5
    rw [wids_snoc] at o5
    obtain ⟨D5, d5, hv5⟩ := own_shape o5
    subst hv5
    have r5 := hs1.row.kept g5 (own_sep fun b hb e => own_types hoL hs1.row (by decide) b e hb)
    have hwl5 := wlR_length hs1.len
    have hc5 : w5.cell? ⟨gv, i * 2 + 1, none⟩ = some (Value.slice ak L.length ck) := by rw [r5.cellAt (i * 2 + 1) (by omega), (wlR_get hs1.len i hi3').2]; exact hui
    have hf5 := r5.frozenAt (i * 2 + 1)
    have H5 := hide (hs1.swap (l := L ++ [x]) hui hi3' g5 (fun b e => .inl e) (by rw [List.length_append, List.length_singleton]; exact o5) (fun b hb => by
        rcases hat5 with e | e
        · exact .inl (e.symm.trans hb)
        · rw [e] at hb; simp only [Option.some.injEq] at hb; exact .inr fun j y _ hy => hs1.fresh (Nat.le_of_eq hb) hy))
    have S5 := (Sa.more g5 (fun g e => .inl (husf _ (List.mem_of_getElem? hui) _ e))).more (grown_set w5 gv (i * 2 + 1) (.slice D5 (L.length + 1) d5)) (fun g e => hfresh g e)
    have kp5 := kpa.grown g5 hnp
    have A5 := AC _ kp5
    have A6 := AC _ (kp5.far (p := ⟨gv, i * 2 + 1, none⟩) hgvp (.slice D5 (L.length + 1) d5))
    clear kpa kp5 o5 g5 hat5 hoL hBl hs1 r5 hwl5 Sa
    refine hK.out _ _ A5 ?_
    clear hK K
    try simp only [Act.put, List.setIfInBounds_toArray, List.set_cons_zero, List.set_cons_succ]
    refine wpAnyF_take (i := 10) (v := ?_) (by (simp only [List.getElem?_toArray, List.getElem?_cons_succ, List.getElem?_cons_zero]; rfl)) (by kernel_rfl) (by kernel_rfl) (by kernel_rfl) (by decide) (by exact fun _ _ _ h => h) ⟨A5, .inl (by kernel_rfl)⟩ (Or.inl ⟨by rfl, ?_⟩) ?_
    rotate_left
    · (intro w' _; go_simp <;> with_reducible rfl)
    try simp only [Act.put, List.setIfInBounds_toArray, List.set_cons_zero, List.set_cons_succ]
    refine wpAnyF_take (i := 11) (v := ?_) (by (simp only [List.getElem?_toArray, List.getElem?_cons_succ, List.getElem?_cons_zero]; rfl)) (by kernel_rfl) (by kernel_rfl) (by kernel_rfl) (by decide) (by exact fun _ _ _ h => h) ⟨A5, .inl (by kernel_rfl)⟩ (Or.inl ⟨by rfl, ?_⟩) ?_
    rotate_left
    · (intro w' _; go_simp <;> with_reducible rfl)
    try simp only [Act.put, List.setIfInBounds_toArray, List.set_cons_zero, List.set_cons_succ]
    refine wpAnyF_ready (rs := [12]) (by kernel_rfl) (by simp) ?_
    refine AllReadyF.last (by (simp only [List.getElem?_toArray, List.getElem?_cons_succ, List.getElem?_cons_zero]; rfl)) (by kernel_rfl) (fun K hK => ?_) AllReadyF.nil
    go_simp
    refine hK.out _ _ A6 ?_
    clear hK K
    try simp only [Act.put, List.setIfInBounds_toArray, List.set_cons_zero, List.set_cons_succ]
    refine wpAnyF_done (by kernel_rfl) ?_ _
    go_wp2
    go_ret
    have H6 := H5.out
    rw [← HLA.out.2, HF2.out] at H6
    exact ⟨_, _, rfl, H6, S5⟩
  · have HI := hide (insW_yes (x := x) hF)
    obtain ⟨hil, hia⟩ := hF.yes
    have HF2 := hide (show os.set i ⟨os[i].a, os[i].ids ++ [x]⟩ = insW a x os from (HI.out hil).symm)
    have hm3 : os[i].ids.length ≤ 1000 := hm _ (List.getElem_mem hil)
    have hfresh : ∀ b, (Value.slice A os.length c).ownBlock = some b → (∃ u ∈ (Value.slice A os.length c :: us), u.ownBlock = some b) ∨ w.heap.size ≤ b := fun b hb => .inl ⟨_, List.mem_cons_self, hb⟩
    have husf : ∀ u ∈ us, ∀ b, u.ownBlock = some b → ∃ u ∈ (Value.slice A os.length c :: us), u.ownBlock = some b := fun u hu b hb => ⟨u, List.mem_cons_of_mem _ hu, hb⟩
    clear hF HI hia hm
    obtain ⟨gv, rfl⟩ : ∃ g, A = some ⟨g, 0, none⟩ := by
      rcases ho1.row.2 with ⟨h', h''⟩ | ⟨g, cap, cur, h', _⟩
      · omega
      · simp only [Value.slice.injEq] at h'
        exact ⟨g, h'.1⟩
    have hiz : ¬ os.length ≤ i := by omega
    obtain ⟨u, hui, hru⟩ := ho1.rows i hil
    obtain ⟨L, hL⟩ : ∃ L, L = os[i].ids := ⟨_, rfl⟩
    obtain ⟨ai, hai⟩ : ∃ q, q = os[i].a := ⟨_, rfl⟩
    rw [← hL] at hru hm3
    rw [← hL, ← hai] at HF2
    obtain ⟨ak, ck, hu⟩ := own_shape hru
    subst hu
    have HLA := hide (And.intro hL hai)
    clear hL hai
    have hrd : OwnW w1.drew base (.slice (some ⟨gv, 0, none⟩) os.length c) os us := ho1.below (Below.refl _ _).drew
    have kpd : Bk w1.drew w.heap.size #[.int .i64 x.c, .int .i64 x.i] 191 := kp1
    have Sd := S1.then_ (Below.refl w1.heap.size w1).drew
    have hzd : w1.drew.heap.size = w1.heap.size := rfl
    go_wp2_with fail
    obtain ⟨wy, hwy⟩ : ∃ wy, wy = w1.drew := ⟨_, rfl⟩
    rw [← hwy] at hrd kpd Sd hzd
    have AC : ∀ w', Bk w' w.heap.size #[.int .i64 x.c, .int .i64 x.i] 191 → w'.cell? ⟨w.heap.size, 0, none⟩ = some (Value.int .i64 x.c) ∧ w'.cell? ⟨w.heap.size, 1, none⟩ = some (Value.int .i64 x.i) := fun w' h => ⟨(h.cell 0).trans rfl, (h.cell 1).trans rfl⟩
    have hcell : ∀ w', OwnW w' base (.slice (some ⟨gv, 0, none⟩) os.length c) os us → w'.cell? ⟨gv, i * 2 + 1, none⟩ = some (Value.slice ak L.length ck) := fun w' h => by
      have hwl := wlR_length h.len
      rw [h.row.cellAt (i * 2 + 1) (by omega), (wlR_get h.len i hil).2]
      exact hui
    have a0 := AC _ kpd
    have s0 := hcell _ hrd
    have hs1 := hrd.alloc (.cells #[.int .i64 x.c, .int .i64 x.i] 191)
    have kpa := kpd.alloc (.cells #[.int .i64 x.c, .int .i64 x.i] 191)
    have Sa := Sd.then_ ((Below.refl wy.heap.size wy).alloc (Nat.le_refl _) (.cells #[.int .i64 x.c, .int .i64 x.i] 191))
    have a1 := AC _ kpa
    have s1 := hcell _ hs1
    have hBl := RdC.one_new wy ⟨x.c, x.i⟩ 191
    obtain ⟨_, hoM⟩ := hs1.at_ hui
    have hoL : (wy.alloc (.cells #[.int .i64 x.c, .int .i64 x.i] 191)).ownsRow base 191 2 (.slice ak L.length ck) L.length (cels (wids L)) := by rw [← HLA.out.1] at hoM; exact hoM
    have hzy : base ≤ (wy.alloc (.cells #[.int .i64 x.c, .int .i64 x.i] 191)).heap.size := by simp; omega
    have hnp : some w.heap.size ≠ (Value.slice ak L.length ck).ownBlock := fun e => by
      obtain ⟨u2, h1, h2⟩ := husf _ (List.mem_of_getElem? hui) _ e.symm
      rcases List.mem_cons.1 h1 with rfl | h1
      · have := HOLD.out.1 _ h2; omega
      · have := HOLD.out.2 _ h1 _ h2; omega
    have hgvp : w.heap.size ≠ gv := fun e => own_box hrd.row kpd (by decide) (by rw [e]; rfl)
    subst hwy
    clear kp1 ho1 S1 hrd kpd Sd hoM
    refine wp_region_F 9 (fun w' => w'.cell? ⟨w.heap.size, 0, none⟩ = some (Value.int .i64 x.c) ∧ w'.cell? ⟨w.heap.size, 1, none⟩ = some (Value.int .i64 x.i)) (fun w' => w'.cell? ⟨gv, i * 2 + 1, none⟩ = some (Value.slice ak L.length ck)) (by kernel_rfl) ⟨a0, s0⟩ (fun hHeld => ?_)
    try simp only [Act.put, List.setIfInBounds_toArray, List.set_cons_zero, List.set_cons_succ]
    refine wpAnyF_take (i := 0) (v := ?_) (by (simp only [List.getElem?_toArray, List.getElem?_cons_zero]; rfl)) (by kernel_rfl) (by kernel_rfl) (by kernel_rfl) (by decide) (by exact fun _ _ _ h => h) ⟨hHeld.1, .inr hHeld.2⟩ (Or.inl ⟨by rfl, ?_⟩) ?_
    rotate_left
    · (intro w' _; go_simp <;> with_reducible rfl)
    try simp only [Act.put, List.setIfInBounds_toArray, List.set_cons_zero, List.set_cons_succ]
    refine wpAnyF_take (i := 1) (v := ?_) (by (simp only [List.getElem?_toArray, List.getElem?_cons_succ, List.getElem?_cons_zero]; rfl)) (by kernel_rfl) (by kernel_rfl) (by kernel_rfl) (by decide) (by exact fun _ _ _ h => h) ⟨hHeld.1, .inr hHeld.2⟩ (Or.inl ⟨by rfl, ?_⟩) ?_
    rotate_left
    · (intro w' _; go_simp <;> with_reducible rfl)
    try simp only [Act.put, List.setIfInBounds_toArray, List.set_cons_zero, List.set_cons_succ]
    refine wpAnyF_take (i := 2) (v := ?_) (by (simp only [List.getElem?_toArray, List.getElem?_cons_succ, List.getElem?_cons_zero]; rfl)) (by kernel_rfl) (by kernel_rfl) (by kernel_rfl) (by decide) (by exact fun _ _ _ h => h) ⟨hHeld.1, .inr hHeld.2⟩ (Or.inl ⟨by rfl, ?_⟩) ?_
    rotate_left
    · (intro w' _; go_simp <;> with_reducible rfl)
    try simp only [Act.put, List.setIfInBounds_toArray, List.set_cons_zero, List.set_cons_succ]
    refine wpAnyF_take (i := 3) (v := ?_) (by (simp only [List.getElem?_toArray, List.getElem?_cons_succ, List.getElem?_cons_zero]; rfl)) (by kernel_rfl) (by kernel_rfl) (by kernel_rfl) (by decide) (by exact fun _ _ _ h => h) ⟨hHeld.1, .inr hHeld.2⟩ (Or.inl ⟨by rfl, ?_⟩) ?_
    rotate_left
    · (intro w' _; go_simp <;> with_reducible rfl)
    try simp only [Act.put, List.setIfInBounds_toArray, List.set_cons_zero, List.set_cons_succ]
    refine wpAnyF_take (i := 4) (v := ?_) (by (simp only [List.getElem?_toArray, List.getElem?_cons_succ, List.getElem?_cons_zero]; rfl)) (by kernel_rfl) (by kernel_rfl) (by kernel_rfl) (by decide) (by exact fun _ _ _ h => h) ⟨hHeld.1, .inr hHeld.2⟩ (Or.inl ⟨by rfl, ?_⟩) ?_
    rotate_left
    · (intro w' _; go_simp <;> with_reducible rfl)
    try simp only [Act.put, List.setIfInBounds_toArray, List.set_cons_zero, List.set_cons_succ]
    refine wpAnyF_take (i := 5) (v := ?_) (by (simp only [List.getElem?_toArray, List.getElem?_cons_succ, List.getElem?_cons_zero]; rfl)) (by kernel_rfl) (by kernel_rfl) (by kernel_rfl) (by decide) (by exact fun _ _ _ h => h) ⟨hHeld.1, .inr hHeld.2⟩ (Or.inl ⟨by rfl, ?_⟩) ?_
    rotate_left
    · (intro w' _; go_simp <;> with_reducible rfl)
    try simp only [Act.put, List.setIfInBounds_toArray, List.set_cons_zero, List.set_cons_succ]
    refine wpAnyF_load (i := 6) (v := ?_) (by (simp only [List.getElem?_toArray, List.getElem?_cons_succ, List.getElem?_cons_zero]; rfl)) (by kernel_rfl) (by kernel_rfl) (by kernel_rfl) (by decide) (by exact fun _ _ _ h => h) hHeld (by kernel_rfl) (by kernel_rfl) (Or.inl ⟨by rfl, ?_⟩) ?_
    rotate_left
    · (intro w' hSw; (try dsimp only at hSw); obtain hSb0 := hSw; go_simp <;> with_reducible rfl)
    try simp only [Act.put, List.setIfInBounds_toArray, List.set_cons_zero, List.set_cons_succ]
    refine wpAnyF_keep (i := 7) (v := ?_) (by (simp only [List.getElem?_toArray, List.getElem?_cons_succ, List.getElem?_cons_zero]; rfl)) (by kernel_rfl) (by kernel_rfl) (by kernel_rfl) (by decide) (by exact fun _ _ _ h => h) ⟨hHeld.1, .inr hHeld.2⟩ (Or.inl ⟨by rfl, ?_⟩) ?_
    rotate_left
    · (intro w' hSw; (try dsimp only at hSw); obtain ⟨hSa0, hSa1⟩ := hSw; go_simp <;> with_reducible rfl)
    try simp only [Act.put, List.setIfInBounds_toArray, List.set_cons_zero, List.set_cons_succ]
    refine wpAnyF_ready (rs := [8]) (by kernel_rfl) (by simp) ?_
    refine AllReadyF.cons (by (simp only [List.getElem?_toArray, List.getElem?_cons_succ, List.getElem?_cons_zero]; rfl)) (fun K hK => ?_) AllReadyF.nil
    go_simp
    refine hK.out _ _ ⟨a1, s1⟩ (fun hNew => ?_)
    clear hK K hHeld
    have hHeld := hNew
    clear hNew
    try simp only [Act.put, List.setIfInBounds_toArray, List.set_cons_zero, List.set_cons_succ]
    refine wpAnyF_ready (rs := [9]) (by kernel_rfl) (by simp) ?_
    refine AllReadyF.last (by (simp only [List.getElem?_toArray, List.getElem?_cons_succ, List.getElem?_cons_zero]; rfl)) (by kernel_rfl) (fun K hK => ?_) AllReadyF.nil
    refine step_append_rc _ (by rfl) (.tmp 29) (.tmp 31) 157 (by rfl) base 191 i0 (.agg #[.int .i64 0, .int .i64 0]) 16 Tryz.underlying157 hi0 hz0 hz1 hz2 rfl (.slice ak L.length ck) L.length (cels (wids L)) (by rfl) hoL (some ⟨w1.drew.heap.size, 0, none⟩) [⟨x.c, x.i⟩] 1 (w1.drew.heap.size + 1) (by rfl) hBl (by unfold maxLen; simp only [List.length_cons, List.length_nil]; omega) (by simp only [List.length_cons, List.length_nil]; omega) hzy ?_
    intro v5 w5 o5 g5 hat5
    simp only [List.length_cons, List.length_nil, Nat.zero_add] at o5
    rw [wids_snoc] at o5
    obtain ⟨D5, d5, hv5⟩ := own_shape o5
    subst hv5
    have r5 := hs1.row.kept g5 (own_sep fun b hb e => own_types hoL hs1.row (by decide) b e hb)
    have hwl5 := wlR_length hs1.len
    have hc5 : w5.cell? ⟨gv, i * 2 + 1, none⟩ = some (Value.slice ak L.length ck) := by rw [r5.cellAt (i * 2 + 1) (by omega), (wlR_get hs1.len i hil).2]; exact hui
    have hf5 := r5.frozenAt (i * 2 + 1)
    have H5 := hide (hs1.swap (l := L ++ [x]) hui hil g5 (fun b e => .inl e) (by rw [List.length_append, List.length_singleton]; exact o5) (fun b hb => by
        rcases hat5 with e | e
        · exact .inl (e.symm.trans hb)
        · rw [e] at hb; simp only [Option.some.injEq] at hb; exact .inr fun j y _ hy => hs1.fresh (Nat.le_of_eq hb) hy))
    have S5 := (Sa.more g5 (fun g e => .inl (husf _ (List.mem_of_getElem? hui) _ e))).more (grown_set w5 gv (i * 2 + 1) (.slice D5 (L.length + 1) d5)) (fun g e => hfresh g e)
    have kp5 := kpa.grown g5 hnp
    have A5 := AC _ kp5
    have A6 := AC _ (kp5.far (p := ⟨gv, i * 2 + 1, none⟩) hgvp (.slice D5 (L.length + 1) d5))
    clear kpa kp5 o5 g5 hat5 hoL hBl hs1 r5 hwl5 Sa
    refine hK.out _ _ A5 ?_
    clear hK K
    try simp only [Act.put, List.setIfInBounds_toArray, List.set_cons_zero, List.set_cons_succ]
    refine wpAnyF_take (i := 10) (v := ?_) (by (simp only [List.getElem?_toArray, List.getElem?_cons_succ, List.getElem?_cons_zero]; rfl)) (by kernel_rfl) (by kernel_rfl) (by kernel_rfl) (by decide) (by exact fun _ _ _ h => h) ⟨A5, .inl (by kernel_rfl)⟩ (Or.inl ⟨by rfl, ?_⟩) ?_
    rotate_left
    · (intro w' _; go_simp <;> with_reducible rfl)
    try simp only [Act.put, List.setIfInBounds_toArray, List.set_cons_zero, List.set_cons_succ]
    refine wpAnyF_take (i := 11) (v := ?_) (by (simp only [List.getElem?_toArray, List.getElem?_cons_succ, List.getElem?_cons_zero]; rfl)) (by kernel_rfl) (by kernel_rfl) (by kernel_rfl) (by decide) (by exact fun _ _ _ h => h) ⟨A5, .inl (by kernel_rfl)⟩ (Or.inl ⟨by rfl, ?_⟩) ?_
    rotate_left
    · (intro w' _; go_simp <;> with_reducible rfl)
    try simp only [Act.put, List.setIfInBounds_toArray, List.set_cons_zero, List.set_cons_succ]
    refine wpAnyF_ready (rs := [12]) (by kernel_rfl) (by simp) ?_
    refine AllReadyF.last (by (simp only [List.getElem?_toArray, List.getElem?_cons_succ, List.getElem?_cons_zero]; rfl)) (by kernel_rfl) (fun K hK => ?_) AllReadyF.nil
    go_simp
    refine hK.out _ _ A6 ?_
    clear hK K
    try simp only [Act.put, List.setIfInBounds_toArray, List.set_cons_zero, List.set_cons_succ]
    refine wpAnyF_done (by kernel_rfl) ?_ _
    go_wp2
    go_ret
    have H6 := H5.out
    rw [← HLA.out.2, HF2.out] at H6
    exact ⟨_, _, rfl, H6, S5⟩
end Go.Proofs.YtnnfkmjhaljplaaGreatDoor
namespace Go.Proofs.YtnnfkmjhaljplaaGreatDoor
open Go.RowKit
theorem sumO_mem : ∀ {l : List Wls} {x : Wls}, x ∈ l → x.ids.length ≤ sumO l
  | y :: r, x, h => by
    rcases List.mem_cons.1 h with rfl | h
    · simp [sumO]
    · have := sumO_mem h; simp only [sumO]; omega
theorem insW_len {a : Int} {x : Wid} : ∀ {os : List Wls}, (insW a x os).length ≤ os.length + 1
  | [] => by simp [insW]
  | v :: r => by
    have := insW_len (a := a) (x := x) (os := r)
    rw [insW]
    split
    · simp
    · split
      · simp
      · simp only [List.length_cons]; omega
theorem ordR_len : ∀ r : List Stp, (ordR r).length ≤ r.length ∧ sumO (ordR r) ≤ r.length
  | [] => by simp [ordR, sumO]
  | s :: r => by
    obtain ⟨h1, h2⟩ := ordR_len r
    rw [ordR]
    by_cases hk : s.e.k = 1
    · rw [if_pos hk, putW_ins (ordR_all r).1, sum_ins]
      have := insW_len (a := s.e.a) (x := ⟨s.c, (cntL r s.c : Nat)⟩) (os := ordR r)
      simp only [List.length_cons]
      omega
    · rw [if_neg hk]
      simp only [List.length_cons]
      omega
theorem ordW_len (ss : List Stp) : (ordW ss).length ≤ ss.length ∧ sumO (ordW ss) ≤ ss.length := by
  have := ordR_len ss.reverse
  rw [List.length_reverse] at this
  exact this
theorem ordW_ris (ss : List Stp) : risO (ordW ss) := (ordR_all ss.reverse).1
theorem ordW_nil : ordW [] = [] := rfl
theorem ordW_yes {ss : List Stp} {s : Stp} (h : s.e.k = 1) : ordW (ss ++ [s]) = insW s.e.a ⟨s.c, (cntL ss s.c : Nat)⟩ (ordW ss) := by rw [ordW_snoc, if_pos h, putW_ins (ordW_ris ss)]
theorem ordW_no {ss : List Stp} {s : Stp} (h : ¬ s.e.k = 1) : ordW (ss ++ [s]) = ordW ss := by rw [ordW_snoc, if_neg h]
/-- How far each core is, as the program counts. -/
def dnA (ss : List Stp) : Array Value := #[.int .i64 (cntL ss 0 : Nat), .int .i64 (cntL ss 1 : Nat), .int .i64 (cntL ss 2 : Nat), .int .i64 (cntL ss 3 : Nat)]
theorem dnA_get (ss : List Stp) {i : Nat} (h : i < 4) : (dnA ss)[i]? = some (.int .i64 (cntL ss (i : Int) : Nat)) := by
  rcases (show i = 0 ∨ i = 1 ∨ i = 2 ∨ i = 3 by omega) with rfl | rfl | rfl | rfl <;> rfl
theorem dnA_set (ss : List Stp) (s : Stp) {i : Nat} (h : i < 4) (hs : s.c = (i : Int)) : (dnA ss).setIfInBounds i (.int .i64 ((cntL ss (i : Int) : Int) + 1)) = dnA (ss ++ [s]) := by
  have key : ∀ j : Int, cntL (ss ++ [s]) j = cntL ss j + if s.c = j then 1 else 0 := fun j => by rw [cntL_append]; simp [cntL]
  unfold dnA
  rw [key 0, key 1, key 2, key 3, hs]
  rcases (show i = 0 ∨ i = 1 ∨ i = 2 ∨ i = 3 by omega) with rfl | rfl | rfl | rfl <;> simp
set_option maxRecDepth 100000 in
set_option maxHeartbeats 1600000 in
theorem ordersOf_any (ss : List Stp) (A : Option Addr) (c : Nat) (w : World) (hl : ss.length ≤ 32) (hG : ∀ s ∈ ss, 0 ≤ s.c ∧ s.c < 4) (h : RdP w w.heap.size A ss) :
    Calls Tryz.prog 152 #[.slice A ss.length c] w fun e w' => ∃ v us, e = .returned v ∧ OwnW w' w.heap.size v (ordW ss) us ∧ Below w.heap.size w w' := by
  obtain ⟨W, hW⟩ : ∃ W, W = w.alloc (Obj.cells #[.int .i64 0, .int .i64 0, .int .i64 0, .int .i64 0] 126) := ⟨_, rfl⟩
  have kd0 : Bk W w.heap.size (dnA []) 126 := by rw [hW]; exact Bk.new w _ _
  have B0 : Below w.heap.size w W := by rw [hW]; exact (Below.refl _ _).alloc (Nat.le_refl _) _
  have HW := hide hW
  have HG := hide hG
  clear hW hG
  go_enter Tryz.func152, Tryz.ntmps152
  go_wp2_with (rw [← HW.out])
  go_loopw [4, 9] (fun v i wr => ∃ (k : Nat) (os : List Wls) (us : List Value), k ≤ ss.length ∧ i = .int .i64 k ∧ OwnW wr w.heap.size v os us ∧ Bk wr w.heap.size (dnA (ss.take k)) 126 ∧ Below w.heap.size w wr ∧ Hid (os = ordW (ss.take k))) (fun _ i _ => ss.length - (intOf i).toNat)
  case atStart => exact ⟨0, [], [], Nat.zero_le _, rfl, OwnW.nil_ _ _, kd0, B0, hide ordW_nil.symm⟩
  case round =>
    clear kd0 B0
    obtain ⟨k, os, us, hk, rfl, ho, kd, hb, HO⟩ := hrel
    obtain ⟨Av, cv, hv⟩ := own_shape ho.row
    subst hv
    by_cases hlt : k < ss.length
    · obtain ⟨b, off, rfl, hbb, hc0, hc1, hc2, hc3⟩ := (h.below hb).get hlt
      have hcr := HG.out _ (List.getElem_mem hlt)
      obtain ⟨i, hi⟩ := Int.eq_ofNat_of_zero_le hcr.1
      have hi4 : i < 4 := by omega
      obtain ⟨x, hx⟩ : ∃ x, x = ss[k] := ⟨_, rfl⟩
      obtain ⟨P, hP⟩ : ∃ P, P = ss.take k := ⟨_, rfl⟩
      rw [← hx] at hc0 hc1 hc2 hc3 hi
      rw [← hP] at kd HO
      have HT := hide (show ss.take (k + 1) = P ++ [x] by rw [List.take_succ_eq_append_getElem hlt, hP, hx])
      have hPl : P.length ≤ 32 := by rw [hP, List.length_take]; omega
      have hn32 := cntL_le P (i : Int)
      obtain ⟨n, hn⟩ : ∃ n, n = cntL P (i : Int) := ⟨_, rfl⟩
      rw [← hn] at hn32
      have HSET := hide (dnA_set P x hi4 hi)
      have hcd := (kd.cell i).trans (dnA_get P hi4)
      rw [← hn] at hcd HSET
      have hol : os.length ≤ 1000 ∧ ∀ y ∈ os, y.ids.length ≤ 1000 := by
        rw [HO.out]
        obtain ⟨h1, h2⟩ := ordW_len P
        exact ⟨by omega, fun y hy => by have := sumO_mem hy; omega⟩
      have hri : risO os := by rw [HO.out]; exact ordW_ris P
      have hz := hb.size
      have hHI := hide hi
      rw [hi] at hc0
      obtain ⟨W1, hW1⟩ : ∃ W1, W1 = wr.alloc (Obj.cells #[.int .i64 i, .int .i64 x.e.k, .int .i64 x.e.a, .int .i64 x.e.v] 121) := ⟨_, rfl⟩
      have kp : Bk W1 wr.heap.size #[.int .i64 i, .int .i64 x.e.k, .int .i64 x.e.a, .int .i64 x.e.v] 121 := by rw [hW1]; exact Bk.new wr _ _
      have kd1 : Bk W1 w.heap.size (dnA P) 126 := by rw [hW1]; exact kd.alloc _
      have ho1 : OwnW W1 w.heap.size (.slice Av os.length cv) os us := by rw [hW1]; exact ho.alloc _
      have hb1 : Below w.heap.size w W1 := by rw [hW1]; exact hb.alloc hz _
      have hz1 := hb1.size
      have hk0 := kd.lt
      have q0 := (kp.cell 0).trans (rfl : _ = some (Value.int .i64 i))
      have q1 := (kp.cell 1).trans (rfl : _ = some (Value.int .i64 x.e.k))
      have q2 := (kp.cell 2).trans (rfl : _ = some (Value.int .i64 x.e.a))
      have q3 := (kp.cell 3).trans (rfl : _ = some (Value.int .i64 x.e.v))
      have hcd1 := (kd1.cell i).trans (dnA_get P hi4)
      rw [← hn] at hcd1
      have hf1 := kd1.frozen i
      have HW1 := hide hW1
      have HN := hide hn
      have hne : w.heap.size ≠ wr.heap.size := by omega
      have hwr : IntKind.i64.wrap ((n : Int) + 1) = (n : Int) + 1 := by rw [IntKind.wrap_i64]; omega
      have hA2 : ¬ 4 ≤ i := by omega
      have hka : (0 : Int) ≤ (i : Int) := by omega
      have hkb : (i : Int) < 4 := by omega
      clear hx hP hW1 hn hcr hi kd ho hcd
      by_cases hkk : x.e.k = 1
      · have HY := hide (show ordW (P ++ [x]) = insW x.e.a ⟨(i : Int), (n : Nat)⟩ os by rw [ordW_yes hkk, hHI.out, HN.out, HO.out])
        rw [hkk] at hc1 q1 HW1 kp
        have AW := hide (fun V (hV : OwnW V w.heap.size (.slice Av os.length cv) os us) (hs : w.heap.size ≤ V.heap.size) => addWrite_any w.heap.size (.slice Av os.length cv) os us x.e.a ⟨(i : Int), (n : Nat)⟩ V hV hri hol.1 hol.2 hs)
        clear hkk
        go_upto_region 7 with fail
        rw [← HW1.out]
        go_still_tail 11, (by kernel_rfl)
        change wpList _ _ _ _ _ W1.drew
        have ho2 : OwnW W1.drew w.heap.size (.slice Av os.length cv) os us := ho1.below (Below.refl _ _).drew
        have kd2 : Bk W1.drew w.heap.size (dnA P) 126 := kd1
        have kp2 : Bk W1.drew wr.heap.size #[.int .i64 i, .int .i64 1, .int .i64 x.e.a, .int .i64 x.e.v] 121 := kp
        have hb2 : Below w.heap.size w W1.drew := hb1.drew
        clear ho1 kd1 kp hb1 hcd1 hf1 q0 q1 q2 q3 hz1
        generalize W1.drew = W2 at *
        go_wp2_with fail
        refine (AW.out W2 ho2 hb2.size).mono ?_
        rintro e W3 ⟨v', us', rfl, ho3, S3⟩
        have kd3 := S3.bk kd2 (fun u hu => by
          rcases List.mem_cons.1 hu with rfl | hu
          · exact own_box ho2.row kd2 (by decide)
          · obtain ⟨j, hj⟩ := List.getElem?_of_mem hu
            obtain ⟨_, h2⟩ := ho2.at_ hj
            exact own_box h2 kd2 (by decide))
        have kp3 := S3.bk kp2 (fun u hu => by
          rcases List.mem_cons.1 hu with rfl | hu
          · exact own_box ho2.row kp2 (by decide)
          · obtain ⟨j, hj⟩ := List.getElem?_of_mem hu
            obtain ⟨_, h2⟩ := ho2.at_ hj
            exact own_box h2 kp2 (by decide))
        have hb3 := hb2.trans (S3.below hb2.size (fun u hu b hb => by
          rcases List.mem_cons.1 hu with rfl | hu
          · exact (ho2.row.lt b hb).1
          · exact (ho2.bound u hu b hb).1))
        have p0 := (kp3.cell 0).trans (rfl : _ = some (Value.int .i64 i))
        have hcd3 := (kd3.cell i).trans (dnA_get P hi4)
        rw [← HN.out] at hcd3
        have hf3 := kd3.frozen i
        have kd4 := kd3.set_ i (.int .i64 ((n : Int) + 1))
        rw [HSET.out] at kd4
        have ho4 := ho3.keptB (grown_set W3 w.heap.size i (.int .i64 ((n : Int) + 1))) (fun b hb e => own_box ho3.row kd3 (by decide) (hb.trans e.symm)) (fun u hu b hb e => by
          obtain ⟨j, hj⟩ := List.getElem?_of_mem hu
          obtain ⟨_, h2⟩ := ho3.at_ hj
          exact own_box h2 kd3 (by decide) (hb.trans e.symm))
        have hb4 := hb3.setCell (p := ⟨w.heap.size, i, none⟩) (Nat.le_refl _) (.int .i64 ((n : Int) + 1))
        have H4 := hide (And.intro kd4 (And.intro ho4 hb4))
        clear kd2 kp2 ho2 hb2 S3 kp3 kd3 ho3 hb3 kd4 ho4 hb4
        go_wp2
        go_roundw
        case rel => exact ⟨k + 1, _, us', by omega, by go_num, H4.out.2.1, by rw [HT.out]; exact H4.out.1, H4.out.2.2, hide (by rw [HT.out, HY.out])⟩
        case measure => simp [intOf]; omega
      · have HY := hide (show ordW (P ++ [x]) = os by rw [ordW_no hkk, HO.out])
        have f0 : (x.e.k == 1) = false := beq_eq_false_iff_ne.2 hkk
        have kd4 := kd1.set_ i (.int .i64 ((n : Int) + 1))
        rw [HSET.out] at kd4
        have ho4 := ho1.keptB (grown_set W1 w.heap.size i (.int .i64 ((n : Int) + 1))) (fun b hb e => own_box ho1.row kd1 (by decide) (hb.trans e.symm)) (fun u hu b hb e => by
          obtain ⟨j, hj⟩ := List.getElem?_of_mem hu
          obtain ⟨_, h2⟩ := ho1.at_ hj
          exact own_box h2 kd1 (by decide) (hb.trans e.symm))
        have hb4 := hb1.setCell (p := ⟨w.heap.size, i, none⟩) (Nat.le_refl _) (.int .i64 ((n : Int) + 1))
        have H4 := hide (And.intro kd4 (And.intro ho4 hb4))
        clear kd1 kp ho1 hb1 kd4 ho4 hb4 hkk
        go_upto_region 8 with fail
        rw [← HW1.out]
        go_wp2
        go_roundw
        case rel => exact ⟨k + 1, _, us, by omega, by go_num, H4.out.2.1, by rw [HT.out]; exact H4.out.1, H4.out.2.2, hide (by rw [HT.out, HY.out])⟩
        case measure => simp [intOf]; omega
    · obtain rfl : k = ss.length := by omega
      rw [List.take_length] at HO
      have e := HO.out
      subst e
      go_wp2
      go_ret
      exact ⟨_, rfl, ⟨us, ho⟩, hb⟩
end Go.Proofs.YtnnfkmjhaljplaaGreatDoor
