/- What the laws' walks rest upon, part 16. -/
import Derived.Test.YtnnfkmjhaljplaaGreatM15
import Derived.StillTailTactics
import Derived.Lib.Hide
import Derived.Laws.Externs
import Derived.Lib.Overlaps
import Derived.Test.YtnnfkmjhaljplaaGreatM07
import Derived.Deep.RegionHeld3
import Derived.Deep.DeepCutAuto
import Derived.BigQuiet
import Derived.Test.YtnnfkmjhaljplaaGreatM04
import Derived.OneCell
namespace Go.Proofs.YtnnfkmjhaljplaaGreat
open Go.RowKit
theorem zero_cells (n : Nat) : ∀ v ∈ (Builtin.zeroCells (Value.agg #[.int .i64 0, .int .i64 0]).cells n).toList, v.oneCell' = true := by
  intro v hv
  simp only [Builtin.zeroCells, Array.toList_map, List.mem_map, Value.cells] at hv
  obtain ⟨j, _, rfl⟩ := hv
  have hj : j % 2 = 0 ∨ j % 2 = 1 := by omega
  rcases hj with h | h <;> simp [h] <;> rfl
theorem del_list {mem : List Cel} {n i : Nat} {cur : List Value} (hn : mem.length = n) (hi : i < n) (hx : cur.take (n * 2) = cels mem) :
    (cur.take (i * 2) ++ cels (mem.drop (i + 1)) ++ cur.drop (i * 2 + (cels (mem.drop (i + 1))).length)).take ((n - 1) * 2) = cels (mem.take i ++ mem.drop (i + 1)) := by
  have h1 : cur.take (i * 2) = cels (mem.take i) := by
    rw [← cels_take, ← hx, List.take_take, Nat.min_eq_left (by omega)]
  rw [h1, cels_append]
  have hl : (cels (mem.take i) ++ cels (mem.drop (i + 1))).length = (n - 1) * 2 := by
    rw [List.length_append, cels_length, cels_length, List.length_take, List.length_drop, hn, Nat.min_eq_left (by omega)]
    omega
  rw [← hl, List.take_left]
set_option maxRecDepth 100000 in
set_option maxHeartbeats 800000 in
theorem delete_any (g n cap i : Nat) (cur : Array Value) (mem : List Cel) (w : World) (hg : Bk w g cur 139) (hn : mem.length = n) (hc : n ≤ cap) (hs : cur.size = cap * 2) (hx : cur.toList.take (n * 2) = cels mem) (hi : i < n) (hb : n ≤ 1000000) :
    Calls Tryz.prog 94 #[.slice (some ⟨g, 0, none⟩) n cap, .int .i64 i, .int .i64 ((i : Int) + 1)] w fun e w' => e = .returned (.slice (some ⟨g, 0, none⟩) (n - 1) cap) ∧ ∃ cur', Bk w' g cur' 139 ∧ cur'.size = cap * 2 ∧ cur'.toList.take ((n - 1) * 2) = cels (mem.take i ++ mem.drop (i + 1)) ∧ w.grownBy w' (some g) := by
  obtain ⟨i0, hi0, hz0, hz1, hz2⟩ := info_parts info_cell
  have e1 : ¬ n = i := by omega
  have e2 : ((i : Int) == (i : Int) + 1) = false := beq_eq_false_iff_ne.2 (by omega)
  have hcut := fun W => run_cutC g n (i + 1) cap ((i : Int) + 1) W (by omega) (by omega)
  have hhead := fun W => run_headC g n i cap (i : Int) W rfl (by omega)
  have hA := fun W (hW : Bk W g cur 139) ty => run_append_row2 (P := Tryz.prog) W 123 ty 139 i0 Tryz.underlying123 hi0 hz1 g i cap cur _ hW (cutC g (i + 1) cap) (n - (i + 1)) (cap - (i + 1)) (cels (mem.drop (i + 1))) (by rw [cels_length, List.length_drop, hn]) (by
    by_cases hz : cap = i + 1
    · have : mem.drop (i + 1) = [] := List.drop_eq_nil_of_le (by omega)
      rw [this]
      intro j u hj
      simp [cels] at hj
    · unfold cutC
      rw [if_neg hz]
      refine cells_row hW _ _ fun j hj => ?_
      have hj' : j < (n - (i + 1)) * 2 := by rw [cels_length, List.length_drop, hn] at hj; exact hj
      have e : (cur.toList.take (n * 2))[(i + 1) * 2 + j]? = cur.toList[(i + 1) * 2 + j]? := List.getElem?_take_of_lt (by omega)
      rw [← e, hx, ← List.getElem?_eq_getElem hj, ← cels_drop, List.getElem?_drop]) (cels_one _) (by omega) (by omega)
  have hlen : (cur.toList.take (i * 2) ++ cels (mem.drop (i + 1)) ++ cur.toList.drop (i * 2 + (cels (mem.drop (i + 1))).length)).length = cap * 2 := by
    simp only [List.length_append, List.length_take, List.length_drop, cels_length, Array.length_toList, hn, hs]
    omega
  have hdl := del_list hn hi hx
  generalize cur.toList.take (i * 2) ++ cels (mem.drop (i + 1)) ++ cur.toList.drop (i * 2 + (cels (mem.drop (i + 1))).length) = X at *
  have HA := hide hA
  have HX := hide hdl
  have HL := hide hlen
  have eN : i + (n - (i + 1)) = n - 1 := by omega
  rw [eN] at HA
  have c1 : ((n : Int) - 1) = ((n - 1 : Nat) : Int) := by omega
  have hsl := fun W => (show (Instr.slice 123 (.slice (some ⟨g, 0, none⟩) (n - 1) cap) (some (.int .i64 ((n - 1 : Nat) : Int))) (some (.int .i64 (n : Int))) none).run Tryz.prog W = .ok (.slice (some ⟨g, (n - 1) * 2, none⟩) 1 (cap - (n - 1))) W by
    have h1 : (0 : Int) ≤ ((n - 1 : Nat) : Int) ∧ ((n - 1 : Nat) : Int) ≤ (n : Int) := by omega
    have h2 : (0 : Int) ≤ (n : Int) ∧ (n : Int) ≤ (cap : Int) := by omega
    have h3 : ¬ cap = n - 1 := by omega
    have h4 : n - (n - 1) = 1 := by omega
    simp [go_sem, h2, h3, h4])
  have HSL := hide hsl
  clear hA hdl hlen hx hs eN hsl
  go_enter Tryz.func94, Tryz.ntmps94
  go_wp2
  go_still_tail 6, (by kernel_rfl)
  change wpList _ _ _ _ _ w.drew
  have hg1 : Bk w.drew g cur 139 := hg
  have gr1 : w.grownBy w.drew (some g) := ⟨rfl, rfl, rfl, Nat.le_refl _, fun _ _ _ => rfl⟩
  generalize w.drew = w1 at *
  have hap := HA.out w1 hg1
  have hg2 := setRow_bk hg1 X.toArray
  have gr2 := gr1.trans (setRow_grown w1 g X.toArray)
  have HS2 := HSL.out
  have hX : X.toArray.size = cap * 2 := by simpa using HL.out
  obtain ⟨cs, hcs1, hcs2, hcl⟩ := run_clear_row2 (P := Tryz.prog) (w1.setRow g X.toArray) 123 139 0 (.agg #[.int .i64 0, .int .i64 0]) Tryz.underlying123 (by intro W; simp [zeroValue, typeInfo, hi0, hz0]) rfl zero_cells g ((n - 1) * 2) 1 (cap - (n - 1)) X.toArray 139 hg2 (by omega) (by rw [hX]; omega)
  have hg3 := setRow_bk hg2 cs
  have gr3 := gr2.trans (setRow_grown (w1.setRow g X.toArray) g cs)
  have HF := hide (And.intro (hcs1.trans hX) (show cs.toList.take ((n - 1) * 2) = cels (mem.take i ++ mem.drop (i + 1)) by rw [hcs2]; exact HX.out))
  clear hX hcs1 hcs2 HX HL HA HSL
  go_wp2_with (first
    | (at_builtin; refine Go.Lib.wpList_append_run _ rfl _ _ _ _ rfl _ _ rfl rfl _ _ (hap _) ?_)
    | (at_builtin; refine wpList_clear_run _ rfl _ _ rfl _ rfl _ _ hcl ?_))
  go_ret
  exact ⟨rfl, cs, hg3, HF.out.1, HF.out.2, gr3⟩
end Go.Proofs.YtnnfkmjhaljplaaGreat
namespace Go.Proofs.YtnnfkmjhaljplaaGreat
open Go.RowKit
theorem append_types {P : Program} (w : World) (t tx ty e e' : TypeId) (i : TypeInfo) (ht : P.underlying t = some (.slice e)) (hx : P.underlying tx = some (.slice e')) (hi : P.info? e = some i) (B : Option Addr) (m d : Nat) (A : Option Addr) (n c : Nat) :
    (Builtin.append_ #[t, tx] ty #[.slice B m d, .slice A n c]).run P w = (Builtin.append_ #[t, t] ty #[.slice B m d, .slice A n c]).run P w := by
  simp [Builtin.append_, run_underlying ht, run_underlying hx, sizeOf, typeInfo, hi]
theorem grown_below_row {w w1 w' : World} {B g : Nat} (h : Below B w w1) (hg : w1.grownBy w' (some g)) (hb : B ≤ g) (hB : B ≤ w1.heap.size) : Below B w w' :=
  h.trans ⟨hg.os, hg.tape, hg.output, hg.size, fun k hk => hg.block k (by omega) (fun e => by simp only [Option.some.injEq] at e; omega)⟩
theorem ins_list {mem : List Cel} {n i : Nat} {cur : List Value} {a v : Int} (hn : mem.length = n) (hi : i < n) (hc : (n + 1) * 2 ≤ cur.length) (hx : cur.take (n * 2) = cels mem) {X1 : List Value} (h1 : X1 = cur.take ((i + 1) * 2) ++ cels (mem.drop i) ++ cur.drop ((i + 1) * 2 + (cels (mem.drop i)).length)) :
    X1.length = cur.length ∧ (X1.take (i * 2) ++ [Value.int .i64 a, Value.int .i64 v] ++ X1.drop (i * 2 + 2)).length = cur.length ∧ (X1.take (i * 2) ++ [Value.int .i64 a, Value.int .i64 v] ++ X1.drop (i * 2 + 2)).take ((n + 1) * 2) = cels (mem.take i ++ [⟨a, v⟩] ++ mem.drop i) := by
  have hD : (cels (mem.drop i)).length = (n - i) * 2 := by rw [cels_length, List.length_drop, hn]
  have hl : X1.length = cur.length := by
    rw [h1]
    simp only [List.length_append, List.length_take, List.length_drop, hD]
    omega
  have e1 : X1.take (i * 2) = cels (mem.take i) := by
    rw [h1, List.append_assoc, List.take_append_of_le_length (by rw [List.length_take]; omega), List.take_take, Nat.min_eq_left (by omega), ← cels_take, ← hx, List.take_take, Nat.min_eq_left (by omega)]
  have e2 : X1.drop (i * 2 + 2) = cels (mem.drop i) ++ cur.drop ((i + 1) * 2 + (cels (mem.drop i)).length) := by
    rw [h1, List.append_assoc]
    have : (cur.take ((i + 1) * 2)).length = i * 2 + 2 := by rw [List.length_take]; omega
    rw [← this, List.drop_left]
  refine ⟨hl, ?_, ?_⟩
  · simp only [List.length_append, List.length_take, List.length_drop, List.length_cons, List.length_nil, hl]
    omega
  · rw [e1, e2, cels_append, cels_append]
    have hlen : (cels (mem.take i) ++ cels [⟨a, v⟩] ++ cels (mem.drop i)).length = (n + 1) * 2 := by
      simp only [List.length_append, hD, cels_length, List.length_take, hn, List.length_singleton]
      omega
    rw [← List.append_assoc]
    show List.take _ ((cels (mem.take i) ++ cels [⟨a, v⟩] ++ cels (mem.drop i)) ++ _) = _
    rw [← hlen, List.take_left]
set_option maxRecDepth 100000 in
set_option maxHeartbeats 800000 in
theorem ins_room (g n cap i q : Nat) (cur : Array Value) (mem : List Cel) (a v : Int) (w : World) (hg : Bk w g cur 139) (hn : mem.length = n) (hc : n + 1 ≤ cap) (hs : cur.size = cap * 2) (hx : cur.toList.take (n * 2) = cels mem) (hi : i < n) (hb : n ≤ 1000000) (hq : Bk w q #[.int .i64 a, .int .i64 v] 139) (hne : q ≠ g) :
    Calls Tryz.prog 95 #[.slice (some ⟨g, 0, none⟩) n cap, .int .i64 i, .slice (some ⟨q, 0, none⟩) 1 1] w fun e w' => e = .returned (.slice (some ⟨g, 0, none⟩) (n + 1) cap) ∧ ∃ cur', Bk w' g cur' 139 ∧ cur'.size = cap * 2 ∧ cur'.toList.take ((n + 1) * 2) = cels (mem.take i ++ [⟨a, v⟩] ++ mem.drop i) ∧ w.grownBy w' (some g) := by
  obtain ⟨i0, hi0, hz0, hz1, hz2⟩ := info_parts info_cell
  have hz2' : ((i : Int) == (n : Int)) = false := beq_eq_false_iff_ne.2 (by omega)
  have hsh1 : w.shape? q = some (139, 2) := by simp [World.shape?, show w.heap[q]? = _ from hq]
  have hsh2 : w.shape? g = some (139, cur.size) := by simp [World.shape?, show w.heap[g]? = _ from hg]
  have hov : ∀ lb cb, (callFunc 103 #[.slice (some ⟨q, 0, none⟩) 1 1, .slice (some ⟨g, (i + 1) * 2, none⟩) lb cb]).run Tryz.prog w = .ok (.value (.bool false)) w := fun lb cb => by
    rw [run_callFunc_extern Tryz.func103 (by kernel_rfl) (by kernel_rfl) (by kernel_rfl) (e := Extern.SlicesOverlaps.overlaps #[33, 33] #[4]) (by kernel_rfl),
      Go.Lib.run_overlaps_apart w 33 4 139 Tryz.underlying33 2 (by intro W; simp [sizeOf, typeInfo, hi0, hz1]) ⟨q, 0, none⟩ ⟨g, (i + 1) * 2, none⟩ 1 1 lb cb hne _ _ _ _ hsh1 hsh2 (by omega) (hq.frozen 0) (hq.frozen 2)]
    rfl
  obtain ⟨X1, hX1⟩ : ∃ X1, X1 = cur.toList.take ((i + 1) * 2) ++ cels (mem.drop i) ++ cur.toList.drop ((i + 1) * 2 + (cels (mem.drop i)).length) := ⟨_, rfl⟩
  obtain ⟨l1, l2, l3⟩ := ins_list (a := a) (v := v) hn hi (by rw [Array.length_toList, hs]; omega) hx hX1
  have hcp1 := fun W (hW : Bk W g cur 139) ty => run_copy_row2 (P := Tryz.prog) W 123 123 ty 139 i0 g ((i + 1) * 2) (n - i) (cap - (i + 1)) ⟨g, i * 2, none⟩ (n + 1 - i) (cap - i) cur _ (cels (mem.drop i)) (n - i) Tryz.underlying123 hi0 hz1 hW (by simp only [Nat.min_def]; split <;> omega) (by rw [cels_length, List.length_drop, hn])
    (cells_row hW _ _ fun j hj => by
      have hj' : j < (n - i) * 2 := by rw [cels_length, List.length_drop, hn] at hj; exact hj
      have e : (cur.toList.take (n * 2))[i * 2 + j]? = cur.toList[i * 2 + j]? := List.getElem?_take_of_lt (by omega)
      rw [← e, hx, ← List.getElem?_eq_getElem hj, ← cels_drop, List.getElem?_drop]) (by rw [cels_length, List.length_drop, hn, hs]; omega) (cels_one _)
  rw [← hX1] at hcp1
  obtain ⟨X2, hX2⟩ : ∃ X2, X2 = X1.take (i * 2) ++ [Value.int .i64 a, Value.int .i64 v] ++ X1.drop (i * 2 + 2) := ⟨_, rfl⟩
  rw [← hX2] at l2 l3
  have hcp2 := fun W (hW : Bk W g X1.toArray 139) (hQ : Bk W q #[.int .i64 a, .int .i64 v] 139) ty => run_copy_row2 (P := Tryz.prog) W 123 33 ty 139 i0 g (i * 2) (n + 1 - i) (cap - i) ⟨q, 0, none⟩ 1 1 X1.toArray _ [Value.int .i64 a, Value.int .i64 v] 1 Tryz.underlying123 hi0 hz1 hW (by simp only [Nat.min_def]; split <;> omega) rfl
    (cells_row hQ 0 _ fun j hj => by rw [Nat.zero_add]; exact List.getElem?_eq_getElem hj) (by show i * 2 + 2 ≤ X1.length; have := Array.length_toList (xs := cur); omega) (by intro u hu; simp at hu; rcases hu with rfl | rfl <;> rfl)
  simp only [List.length_cons, List.length_nil, Nat.zero_add] at hcp2
  rw [show (i * 2 + (1 + 1) : Nat) = i * 2 + 2 by omega, ← hX2] at hcp2
  have HC1 := hide hcp1
  have HC2 := hide hcp2
  have HL := hide (And.intro (show X2.length = cap * 2 by have := Array.length_toList (xs := cur); omega) l3)
  have hw1 : IntKind.i64.wrap ((i : Int) + 1) = (i : Int) + 1 := by rw [IntKind.wrap_i64]; omega
  have hb1 : (0 : Int) ≤ (i : Int) + 1 := by omega
  have hin : i ≤ n := by omega
  have htn : ((i : Int) + 1).toNat = i + 1 := by omega
  have htm : ((n : Int) + 1).toNat = n + 1 := by omega
  have hb2 : ¬ (cap = i + 1) := by omega
  have hb3 : (i : Int) ≤ (n : Int) + 1 := by omega
  have hb4 : ¬ (cap = i) := by omega
  have hb5 : (0 : Int) ≤ (n : Int) + 1 ∧ (n : Int) + 1 ≤ (cap : Int) := by omega
  have hb6 : (0 : Int) ≤ (i : Int) + 1 ∧ (i : Int) + 1 ≤ (n : Int) + 1 := by omega
  have hb7 : (i : Int) + 1 ≤ (n : Int) + 1 := by omega
  have hb8 : ¬ ((cap : Int) < (n : Int) + 1) := by omega
  clear hcp1 hcp2 l1 l2 l3 hX1 hX2 hx hs hsh1 hsh2
  go_enter Tryz.func95, Tryz.ntmps95
  go_wp2_with (simp only [hov])
  go_still_tail 8, (by kernel_rfl)
  change wpList _ _ _ _ _ w.drew
  have hg1 : Bk w.drew g cur 139 := hg
  have hq1 : Bk w.drew q #[.int .i64 a, .int .i64 v] 139 := hq
  have gr1 : w.grownBy w.drew (some g) := ⟨rfl, rfl, rfl, Nat.le_refl _, fun _ _ _ => rfl⟩
  clear hov
  generalize w.drew = w1 at *
  have c1 := HC1.out w1 hg1
  have hg2 := setRow_bk hg1 X1.toArray
  have gr2 := setRow_grown w1 g X1.toArray
  have hq2 := hq1.grown gr2 (by simp only [ne_eq, Option.some.injEq]; omega)
  have c2 := HC2.out _ hg2 hq2
  have hg3 := setRow_bk hg2 X2.toArray
  have gr3 := (gr1.trans gr2).trans (setRow_grown (w1.setRow g X1.toArray) g X2.toArray)
  go_wp2_with (first
    | (at_builtin; refine wpList_copy_run2 _ rfl _ _ _ _ rfl _ _ rfl rfl (c1 _) ?_)
    | (at_builtin; refine wpList_copy_run2 _ rfl _ _ _ _ rfl _ _ rfl rfl (c2 _) ?_))

  go_ret
  exact ⟨rfl, X2.toArray, hg3, by rw [List.size_toArray, HL.out.1], HL.out.2, gr3⟩
theorem ins_list2 {mem : List Cel} {n i : Nat} {cur : List Value} {a v : Int} (hn : mem.length = n) (hi : i < n) (hc : (n + 1) * 2 ≤ cur.length) (hx : cur.take (i * 2) = cels (mem.take i)) {X1 : List Value} (h1 : X1 = cur.take (i * 2) ++ [Value.int .i64 a, Value.int .i64 v] ++ cur.drop (i * 2 + 2)) :
    X1.length = cur.length ∧ (X1.take ((i + 1) * 2) ++ cels (mem.drop i) ++ X1.drop ((i + 1) * 2 + (cels (mem.drop i)).length)).length = cur.length ∧ (X1.take ((i + 1) * 2) ++ cels (mem.drop i) ++ X1.drop ((i + 1) * 2 + (cels (mem.drop i)).length)).take ((n + 1) * 2) = cels (mem.take i ++ [⟨a, v⟩] ++ mem.drop i) := by
  have hD : (cels (mem.drop i)).length = (n - i) * 2 := by rw [cels_length, List.length_drop, hn]
  have hl : X1.length = cur.length := by
    rw [h1]
    simp only [List.length_append, List.length_take, List.length_drop, List.length_cons, List.length_nil]
    omega
  have e1 : X1.take ((i + 1) * 2) = cels (mem.take i) ++ [Value.int .i64 a, Value.int .i64 v] := by
    rw [h1, hx]
    have : (cels (mem.take i) ++ [Value.int .i64 a, Value.int .i64 v]).length = (i + 1) * 2 := by
      rw [List.length_append, cels_length, List.length_take, hn, Nat.min_eq_left (by omega)]
      simp only [List.length_cons, List.length_nil]
      omega
    rw [← this, List.take_left]
  refine ⟨hl, ?_, ?_⟩
  · simp only [List.length_append, List.length_take, List.length_drop, hl, hD]
    omega
  · rw [e1, cels_append, cels_append]
    have hlen : (cels (mem.take i) ++ cels [⟨a, v⟩] ++ cels (mem.drop i)).length = (n + 1) * 2 := by
      simp only [List.length_append, hD, cels_length, List.length_take, hn, List.length_singleton]
      omega
    show List.take _ ((cels (mem.take i) ++ cels [⟨a, v⟩] ++ cels (mem.drop i)) ++ _) = _
    rw [← hlen, List.take_left]
set_option maxRecDepth 100000 in
set_option maxHeartbeats 800000 in
theorem ins_grow (base g n i q : Nat) (cur : Array Value) (mem : List Cel) (a v : Int) (w : World) (hg : Bk w g cur 139) (hn : mem.length = n) (hx : cur.toList.take (n * 2) = cels mem) (hi : i < n) (hb : n ≤ 1000000) (hq : Bk w q #[.int .i64 a, .int .i64 v] 139) (hbase : base ≤ w.heap.size) :
    Calls Tryz.prog 95 #[.slice (some ⟨g, 0, none⟩) n n, .int .i64 i, .slice (some ⟨q, 0, none⟩) 1 1] w fun e w' => ∃ G, e = .returned (.slice (some ⟨w.heap.size, 0, none⟩) (n + 1) G) ∧ w'.ownsRow base 139 2 (.slice (some ⟨w.heap.size, 0, none⟩) (n + 1) G) (n + 1) (cels (mem.take i ++ [⟨a, v⟩] ++ mem.drop i)) ∧ w.grownBy w' none := by
  obtain ⟨i0, hi0, hz0, hz1, hz2⟩ := info_parts info_cell
  have hgl : g < w.heap.size := hg.lt
  have hql : q < w.heap.size := hq.lt
  have hz2' : ((i : Int) == (n : Int)) = false := beq_eq_false_iff_ne.2 (by omega)
  have hT : cur.toList.take (i * 2) = cels (mem.take i) := by rw [← cels_take, ← hx, List.take_take, Nat.min_eq_left (by omega)]
  have hold : (Builtin.firstCells i0.size i (.slice (some ⟨g, 0, none⟩) i n)).run Tryz.prog w.drew = .ok (cels (mem.take i)).toArray w.drew :=
    run_firstCells_some w.drew i0.size i ⟨g, 0, none⟩ i n _ (by rw [cels_length, List.length_take, hn, hz1, Nat.min_eq_left (by omega)]) (cells_row (show Bk w.drew g cur _ from hg) 0 _ fun j hj => by
      have hj' : j < i * 2 := by rw [cels_length, List.length_take, hn, Nat.min_eq_left (by omega)] at hj; exact hj
      rw [Nat.zero_add, ← List.getElem?_eq_getElem hj, ← hT, List.getElem?_take_of_lt hj'])
  have hap := fun ty => Go.Lib.run_append_grow_zeros (P := Tryz.prog) w 123 3 ty 139 i0 (.agg #[.int .i64 0, .int .i64 0]) .i64 .i64 Tryz.underlying123 Tryz.underlying3 hi0 hz0 (some ⟨g, 0, none⟩) i n (cels (mem.take i)) hold (n + 1 - i) (by omega) (by rw [hz1]; omega) (by omega) (by omega) (by rw [hz2]; omega) (growslice_fits (by omega) (by rw [hz2]; omega))
  have eN : i + (n + 1 - i) = n + 1 := by omega
  rw [eN] at hap
  have hC1 := grownCap_ge w (n + 1) n 139
  have hC2 := grownCap_le_maxLen w (n + 1) n 139 (by unfold maxLen; omega)
  generalize grownCap w (n + 1) n 139 = G at *
  obtain ⟨c0, hc0⟩ : ∃ c0, c0 = (cels (mem.take i)).toArray ++ Builtin.zeroCells (Value.agg #[.int .i64 0, .int .i64 0]).cells (n + 1 - i) ++ Builtin.zeroCells (Value.agg #[.int .i64 0, .int .i64 0]).cells (G - (n + 1)) := ⟨_, rfl⟩
  have hc1 : c0.size = G * 2 := by
    rw [hc0]
    simp only [Array.size_append, size_zeroCells, List.size_toArray, cels_length, List.length_take, hn]
    rw [Nat.min_eq_left (by omega), show (Value.agg #[.int .i64 0, .int .i64 0]).cells.size = 2 from rfl]
    omega
  have hc2 : c0.toList.take (i * 2) = cels (mem.take i) := by
    rw [hc0]
    simp only [Array.toList_append]
    rw [List.append_assoc]
    have : (cels (mem.take i)).length = i * 2 := by rw [cels_length, List.length_take, hn, Nat.min_eq_left (by omega)]
    rw [← this, List.take_left]
  rw [← hc0] at hap
  clear hc0 hold
  obtain ⟨X1, hX1⟩ : ∃ X1, X1 = c0.toList.take (i * 2) ++ [Value.int .i64 a, Value.int .i64 v] ++ c0.toList.drop (i * 2 + 2) := ⟨_, rfl⟩
  obtain ⟨l1, l2, l3⟩ := ins_list2 (a := a) (v := v) hn hi (by rw [Array.length_toList, hc1]; omega) hc2 hX1
  have hcp1 := fun W (hW : Bk W w.heap.size c0 139) (hQ : Bk W q #[.int .i64 a, .int .i64 v] 139) ty => run_copy_row2 (P := Tryz.prog) W 123 33 ty 139 i0 w.heap.size (i * 2) (n + 1 - i) (G - i) ⟨q, 0, none⟩ 1 1 c0 _ [Value.int .i64 a, Value.int .i64 v] 1 Tryz.underlying123 hi0 hz1 hW (by simp only [Nat.min_def]; split <;> omega) rfl
    (cells_row hQ 0 _ fun j hj => by rw [Nat.zero_add]; exact List.getElem?_eq_getElem hj) (by rw [hc1]; simp only [List.length_cons, List.length_nil]; omega) (by intro u hu; simp at hu; rcases hu with rfl | rfl <;> rfl)
  simp only [List.length_cons, List.length_nil, Nat.zero_add] at hcp1
  rw [show (i * 2 + (1 + 1) : Nat) = i * 2 + 2 by omega, ← hX1] at hcp1
  obtain ⟨X2, hX2⟩ : ∃ X2, X2 = X1.take ((i + 1) * 2) ++ cels (mem.drop i) ++ X1.drop ((i + 1) * 2 + (cels (mem.drop i)).length) := ⟨_, rfl⟩
  rw [← hX2] at l2 l3
  have hcp2 := fun W (hW : Bk W w.heap.size X1.toArray 139) (hG : Bk W g cur 139) ty => run_copy_row2 (P := Tryz.prog) W 123 123 ty 139 i0 w.heap.size ((i + 1) * 2) (n - i) (G - (i + 1)) ⟨g, i * 2, none⟩ (n - i) (n - i) X1.toArray _ (cels (mem.drop i)) (n - i) Tryz.underlying123 hi0 hz1 hW (by simp only [Nat.min_def]; split <;> omega) (by rw [cels_length, List.length_drop, hn])
    (cells_row hG _ _ fun j hj => by
      have hj' : j < (n - i) * 2 := by rw [cels_length, List.length_drop, hn] at hj; exact hj
      have e : (cur.toList.take (n * 2))[i * 2 + j]? = cur.toList[i * 2 + j]? := List.getElem?_take_of_lt (by omega)
      rw [← e, hx, ← List.getElem?_eq_getElem hj, ← cels_drop, List.getElem?_drop]) (by show (i + 1) * 2 + (cels (mem.drop i)).length ≤ X1.length; have := Array.length_toList (xs := c0); rw [cels_length, List.length_drop, hn]; omega) (cels_one _)
  simp only at hcp2
  rw [← hX2] at hcp2
  have HC1 := hide hcp1
  have HC2 := hide hcp2
  have HL := hide (And.intro (show X2.length = G * 2 by rw [l2, Array.length_toList, hc1]) l3)
  have hGm : G ≤ 9223372036854775807 := by unfold maxLen at hC2; omega
  have hw1 : IntKind.i64.wrap ((i : Int) + 1) = (i : Int) + 1 := by rw [IntKind.wrap_i64]; omega
  have hb1 : (0 : Int) ≤ (i : Int) + 1 := by omega
  have hin : i ≤ n := by omega
  have htn : ((i : Int) + 1).toNat = i + 1 := by omega
  have hb2 : ¬ (G = i + 1) := by omega
  have hb3 : (i : Int) ≤ (n : Int) + 1 := by omega
  have hb4 : ¬ (G = i) := by omega
  have hb5 : ¬ (n = i) := by omega
  have hb6 : (0 : Int) ≤ (i : Int) + 1 ∧ (i : Int) + 1 ≤ (n : Int) + 1 := by omega
  have hb7 : (i : Int) + 1 ≤ (n : Int) + 1 := by omega
  have hb8 : (n : Int) < (n : Int) + 1 := by omega
  have hk : (n : Int) + 1 - (i : Int) = ((n + 1 - i : Nat) : Int) := by omega
  have hAP := hide hap
  clear hcp1 hcp2 l1 l2 l3 hX1 hX2 hx hT hc1 hc2 hap eN
  go_enter Tryz.func95, Tryz.ntmps95
  have g1 : Bk (w.alloc (.cells c0 139)).drew w.heap.size c0 139 := Bk.new w c0 139
  have b0 : Below w.heap.size w (w.alloc (.cells c0 139)).drew := ((Below.refl w.heap.size w).alloc (Nat.le_refl _) (.cells c0 139)).drew
  have q1 := hq.below b0 hql
  have gg1 := hg.below b0 hgl
  have c1 := HC1.out _ g1 q1
  have g2 := setRow_bk g1 X1.toArray
  have gg2 := gg1.grown (setRow_grown (w.alloc (.cells c0 139)).drew w.heap.size X1.toArray) (by simp only [ne_eq, Option.some.injEq]; omega)
  go_wp2_with (first
    | (at_builtin; refine Go.Lib.wpList_append_run _ rfl _ _ _ _ rfl _ _ rfl rfl _ _ (hAP.out _) ?_)
    | (at_builtin; refine wpList_copy_run2 _ rfl _ _ _ _ rfl _ _ rfl rfl (c1 _) ?_))
  go_still_tail 8, (by kernel_rfl)
  change wpList _ _ _ _ _ (World.drew _)
  have g2' : Bk ((w.alloc (.cells c0 139)).drew.setRow w.heap.size X1.toArray).drew w.heap.size X1.toArray 139 := g2
  have gg2' : Bk ((w.alloc (.cells c0 139)).drew.setRow w.heap.size X1.toArray).drew g cur 139 := gg2
  have c2 := HC2.out _ g2' gg2'
  have g3 := setRow_bk g2' X2.toArray
  have b1 := ((grown_below_row b0 (setRow_grown (w.alloc (.cells c0 139)).drew w.heap.size X1.toArray) (Nat.le_refl _) b0.size).drew)
  have b2 := grown_below_row b1 (setRow_grown _ w.heap.size X2.toArray) (Nat.le_refl _) b1.size
  generalize ((w.alloc (.cells c0 139)).drew.setRow w.heap.size X1.toArray).drew = w2 at *
  go_wp2_with (at_builtin; refine wpList_copy_run2 _ rfl _ _ _ _ rfl _ _ rfl rfl (c2 _) ?_)
  go_ret
  exact ⟨G, rfl, own_mk hbase g3 hC1 hC2 (by rw [List.size_toArray, HL.out.1]) HL.out.2, ⟨b2.os, b2.tape, b2.output, b2.size, fun k hk _ => b2.block k hk⟩⟩
/-- Where the cells of a slice of the call's own lie now: in its own block still, or in a new one. -/
def Moved (v v' : Value) (w : World) : Prop := v'.ownBlock = v.ownBlock ∨ ∃ b, v'.ownBlock = some b ∧ w.heap.size ≤ b
set_option maxRecDepth 100000 in
set_option maxHeartbeats 800000 in
theorem ins_end (base q n : Nat) (vm : Value) (mem : List Cel) (a v : Int) (w : World) (ho : w.ownsRow base 139 2 vm n (cels mem)) (hb : n ≤ 1000000) (hq : Bk w q #[.int .i64 a, .int .i64 v] 139) (hbase : base ≤ w.heap.size) :
    Calls Tryz.prog 95 #[vm, .int .i64 n, .slice (some ⟨q, 0, none⟩) 1 1] w fun e w' => ∃ v', e = .returned v' ∧ w'.ownsRow base 139 2 v' (n + 1) (cels (mem ++ [⟨a, v⟩])) ∧ w.grownBy w' vm.ownBlock ∧ Moved vm v' w := by
  obtain ⟨i0, hi0, hz0, hz1, hz2⟩ := info_parts info_cell
  have hR : RdC w w.heap.size (some ⟨q, 0, none⟩) [⟨a, v⟩] := fun _ => ⟨q, 0, rfl, hq.lt, fun j hj => by
    rw [Nat.zero_add, hq.cell j]
    simp only [List.getElem?_toArray]
    exact List.getElem?_eq_getElem hj⟩
  obtain ⟨A, c, rfl⟩ := own_shape ho
  have hr := fun ty => run_append_rc (P := Tryz.prog) w base 123 ty 139 i0 (.agg #[.int .i64 0, .int .i64 0]) 16 Tryz.underlying123 hi0 hz0 hz1 hz2 rfl (.slice A n c) n (cels mem) ho (some ⟨q, 0, none⟩) [⟨a, v⟩] 1 w.heap.size hR (by unfold maxLen; simp only [List.length_singleton]; omega) (by simp only [List.length_singleton]; omega) hbase
  obtain ⟨v', w', h1, h2, h3, h4⟩ := hr 123
  rw [List.length_singleton, ← append_types w 123 33 123 139 139 i0 Tryz.underlying123 Tryz.underlying33 hi0] at h1
  rw [List.length_singleton, ← cels_append] at h2
  have HO := hide (And.intro h2 (And.intro h3 (show Moved (.slice A n c) v' w from h4.imp id fun e => ⟨_, e, Nat.le_refl _⟩)))
  have hcut : ∀ W, (Instr.slice 123 (.slice A n c) (some (.int .i64 (n : Int))) none none).run Tryz.prog W = .ok (.slice (if c = n then A else A.map (·.add (n * 2))) 0 (c - n)) W := fun W => by
    by_cases hc : c = n <;> simp [go_sem, hc]
  generalize (if c = n then A else A.map (·.add (n * 2))) = Z at hcut
  clear h2 h3 h4 hr hR ho
  go_enter Tryz.func95, Tryz.ntmps95
  go_wp2_with (at_builtin; refine Go.Lib.wpList_append_run _ rfl _ _ _ _ rfl _ _ rfl rfl _ _ h1 ?_)
  go_ret
  exact ⟨v', rfl, HO.out⟩
/-- One put in, wherever there is room or none. -/
theorem insert_any (base q i n : Nat) (vm : Value) (mem : List Cel) (a v : Int) (w : World) (hn : mem.length = n) (hi : i ≤ n) (ho : w.ownsRow base 139 2 vm n (cels mem)) (hb : n ≤ 1000000) (hq : Bk w q #[.int .i64 a, .int .i64 v] 139) (hne : vm.ownBlock ≠ some q) (hbase : base ≤ w.heap.size) :
    Calls Tryz.prog 95 #[vm, .int .i64 i, .slice (some ⟨q, 0, none⟩) 1 1] w fun e w' => ∃ v', e = .returned v' ∧ w'.ownsRow base 139 2 v' (n + 1) (cels (mem.take i ++ [⟨a, v⟩] ++ mem.drop i)) ∧ w.grownBy w' vm.ownBlock ∧ Moved vm v' w := by
  by_cases hin : i = n
  · subst hin
    rw [List.take_of_length_le (by omega), List.drop_eq_nil_of_le (by omega), List.append_nil]
    exact ins_end base q i vm mem a v w ho hb hq hbase
  · have hlt : i < n := by omega
    obtain ⟨g, cap, cur, rfl, hbg, hg, hnc, hcm, hs, hx⟩ := own_open ho (by omega)
    by_cases hr : n + 1 ≤ cap
    · refine (ins_room g n cap i q cur mem a v w hg hn hr hs hx hlt hb hq (fun e => hne (by rw [e]; rfl))).mono ?_
      rintro e w' ⟨rfl, cur', h1, h2, h3, h4⟩
      exact ⟨_, rfl, own_mk hbg h1 hr hcm h2 h3, h4, .inl rfl⟩
    · obtain rfl : cap = n := by omega
      refine (ins_grow base g cap i q cur mem a v w hg hn hx hlt hb hq hbase).mono ?_
      rintro e w' ⟨G, rfl, h1, h2⟩
      exact ⟨_, rfl, h1, ⟨h2.os, h2.tape, h2.output, h2.size, fun k hk _ => h2.block k hk (fun e => by cases e)⟩, .inr ⟨_, rfl, Nat.le_refl _⟩⟩
end Go.Proofs.YtnnfkmjhaljplaaGreat
namespace Go.Proofs.YtnnfkmjhaljplaaGreat
open Go.RowKit
/-- Only the blocks S are turned; there may be more memory. -/
structure But (S : Nat → Prop) (w w' : World) : Prop where
  os : w'.os = w.os
  tape : w'.tape = w.tape
  output : w'.output = w.output
  size : w.heap.size ≤ w'.heap.size
  block : ∀ k, k < w.heap.size → ¬ S k → w'.heap[k]? = w.heap[k]?
section
variable {S S' : Nat → Prop} {a b c w w' : World}
theorem But.refl (S : Nat → Prop) (w : World) : But S w w := ⟨rfl, rfl, rfl, Nat.le_refl _, fun _ _ _ => rfl⟩
theorem But.trans (h : But S a b) (k : But S' b c) (hs : ∀ x, S' x → S x ∨ a.heap.size ≤ x) : But S a c :=
  ⟨k.os.trans h.os, k.tape.trans h.tape, k.output.trans h.output, Nat.le_trans h.size k.size, fun x hx hn => (k.block x (Nat.lt_of_lt_of_le hx h.size) (fun e => by rcases hs x e with e | e; exact hn e; omega)).trans (h.block x hx hn)⟩
theorem But.of_below (h : Below w.heap.size w w') : But S w w' := ⟨h.os, h.tape, h.output, h.size, fun k hk _ => h.block k hk⟩
theorem But.of_grown {row : Option Nat} (h : w.grownBy w' row) (hs : ∀ b, row = some b → S b) : But S w w' := ⟨h.os, h.tape, h.output, h.size, fun k hk hn => h.block k hk (fun e => hn (hs k e.symm))⟩
theorem But.mono (h : But S w w') (hs : ∀ x, x < w.heap.size → S x → S' x) : But S' w w' := ⟨h.os, h.tape, h.output, h.size, fun k hk hn => h.block k hk (fun e => hn (hs k hk e))⟩
theorem But.below (h : But S w w') {B : Nat} (hB : B ≤ w.heap.size) (hs : ∀ x, S x → B ≤ x) : Below B w w' := ⟨h.os, h.tape, h.output, h.size, fun k hk => h.block k (by omega) (fun e => by have := hs k e; omega)⟩
theorem But.bk (h : But S w w') {g : Nat} {cs : Array Value} {t : TypeId} (hk : Bk w g cs t) (hg : ¬ S g) : Bk w' g cs t := (h.block g hk.lt hg).trans hk
theorem But.own (h : But S w w') {base n size : Nat} {e : TypeId} {v : Value} {xs : List Value} (ho : w.ownsRow base e size v n xs) (hv : ∀ b, v.ownBlock = some b → ¬ S b) : w'.ownsRow base e size v n xs := by
  refine ⟨ho.1, ?_⟩
  rcases ho.2 with h1 | ⟨g, cap, cur, rfl, h2, h3, h4⟩
  · exact .inl h1
  · refine .inr ⟨g, cap, cur, rfl, h2, ?_, h4⟩
    rw [h.block g (by have : Bk w g cur e := h3; exact this.lt) (hv g rfl)]
    exact h3
theorem But.cell (h : But S w w') {p : Addr} (hp : p.block < w.heap.size) (hs : ¬ S p.block) : w'.cell? p = w.cell? p := World.cell?_of_block (h.block p.block hp hs)
theorem But.frozen (h : But S w w') {p : Addr} (hp : p.block < w.heap.size) (hs : ¬ S p.block) : w'.frozen? p = w.frozen? p := World.frozen?_of_block (h.block p.block hp hs)
theorem But.set_ (h : But S a b) {g : Nat} (hg : S g) (i : Nat) (u : Value) : But S a (b.setCell ⟨g, i, none⟩ u) := h.trans (S' := S) (But.of_grown (grown_set b g i u) fun x e => by cases e; exact hg) fun _ e => .inl e
end
end Go.Proofs.YtnnfkmjhaljplaaGreat
namespace Go.Proofs.YtnnfkmjhaljplaaGreat
open Go.RowKit
theorem byAddr_any (x1 x2 y1 y2 : Int) (w : World) :
    Calls Tryz.prog 92 #[.agg #[.int .i64 x1, .int .i64 x2], .agg #[.int .i64 y1, .int .i64 y2]] w fun e w' => e = .returned (.int .i64 (cmpI x1 y1)) ∧ Below w.heap.size w w' := by
  go_enter Tryz.func92, Tryz.ntmps92
  go_wp2_with fail
  refine (compare_any x1 y1 _).mono ?_
  rintro e w1 ⟨rfl, rfl⟩
  go_wp2
  go_ret
  exact ⟨rfl, by go_grown⟩
theorem rise_mono {l : List Cel} (h : rise l = true) : ∀ p q (hp : p < l.length) (hq : q < l.length), p ≤ q → l[p].a ≤ l[q].a := by
  induction l with
  | nil => intro p q hp; simp at hp
  | cons c r ih =>
    intro p q hp hq hpq
    rcases p with _ | p
    · rcases q with _ | q
      · exact Int.le_refl _
      · have := rise_lt h (r[q]'(by simp at hq; omega)) (List.getElem_mem _)
        simp only [List.getElem_cons_zero, List.getElem_cons_succ]
        omega
    · rcases q with _ | q
      · omega
      · simp only [List.getElem_cons_succ]
        exact ih (rise_tail h) p q (by simp at hp; omega) (by simp at hq; omega) (by omega)
/-- What a search has shut out. -/
def Srch (mem : List Cel) (t : Int) (lo hi : Nat) : Prop := (∀ p (hp : p < mem.length), p < lo → mem[p].a < t) ∧ (∀ p (hp : p < mem.length), hi ≤ p → t ≤ mem[p].a)
/-- Where it ends. -/
structure Found (mem : List Cel) (t : Int) (i : Nat) (f : Bool) : Prop where
  le : i ≤ mem.length
  low : ∀ c ∈ mem.take i, c.a < t
  high : ∀ c ∈ mem.drop i, t ≤ c.a
  hit : f = true ↔ ∃ c, mem[i]? = some c ∧ c.a = t
theorem Srch.found {mem : List Cel} {t : Int} {i : Nat} {f : Bool} (h : Srch mem t i i) (hi : i ≤ mem.length) (hf : f = true ↔ ∃ c, mem[i]? = some c ∧ c.a = t) : Found mem t i f :=
  ⟨hi, fun c hc => by
    obtain ⟨p, hp, rfl⟩ := List.getElem_of_mem hc
    rw [List.getElem_take]
    exact h.1 p _ (by simp at hp; omega), fun c hc => by
    obtain ⟨p, hp, rfl⟩ := List.getElem_of_mem hc
    rw [List.getElem_drop]
    exact h.2 _ _ (by omega), hf⟩
set_option maxRecDepth 100000 in
set_option maxHeartbeats 1600000 in
theorem search_any (mem : List Cel) (A : Option Addr) (c : Nat) (ta tv : Int) (w : World) (hb : mem.length ≤ 1000000) (hr : rise mem = true) (h : RdC w w.heap.size A mem) :
    Calls Tryz.prog 91 #[.slice A mem.length c, .agg #[.int .i64 ta, .int .i64 tv], .func (.func 92) #[] #[]] w fun e w' => ∃ i f, e = .returned (.tuple #[.int .i64 (i : Nat), .bool f]) ∧ Found mem ta i f ∧ Below w.heap.size w w' := by
  have kb := Bk.new w #[.int .i64 ta, .int .i64 tv] 139
  have hbw := (Below.refl w.heap.size w).alloc (Nat.le_refl _) (Obj.cells #[.int .i64 ta, .int .i64 tv] 139)
  have HM := hide (rise_mono hr)
  clear hr
  go_enter Tryz.func91, Tryz.ntmps91
  go_wp2
  go_loopw [9, 10] (fun s9 s10 wr => ∃ lo hi : Nat, s9 = .int .i64 lo ∧ s10 = .int .i64 hi ∧ lo ≤ hi ∧ hi ≤ mem.length ∧ Below w.heap.size w wr ∧ Bk wr w.heap.size #[.int .i64 ta, .int .i64 tv] 139 ∧ Hid (Srch mem ta lo hi)) (fun s9 s10 _ => (intOf s10).toNat - (intOf s9).toNat)
  case atStart => exact ⟨0, mem.length, rfl, rfl, Nat.zero_le _, Nat.le_refl _, hbw, kb, hide ⟨fun p hp h => by omega, fun p hp h => by omega⟩⟩
  case round =>
    clear kb hbw
    obtain ⟨lo, hi, rfl, rfl, hlh, hin, hbw, kb, HS⟩ := hrel
    have q0 := (kb.cell 0).trans (rfl : _ = some (Value.int .i64 ta))
    have q1 := (kb.cell 1).trans (rfl : _ = some (Value.int .i64 tv))
    by_cases hlt : lo < hi
    · obtain ⟨b, off, rfl, hbb, c0, c1⟩ := (h.below hbw).get (i := (lo + hi) / 2) (by omega)
      obtain ⟨X, hX⟩ : ∃ X, X = mem[(lo + hi) / 2]'(by omega) := ⟨_, rfl⟩
      rw [← hX] at c0 c1
      have HX := hide hX
      have i0 : (0 : Int) ≤ ((lo : Int) + (hi : Int)) / 2 := by omega
      have i1 : ((lo : Int) + (hi : Int)) / 2 < (mem.length : Int) := by omega
      have i2 : (((lo : Int) + (hi : Int)) / 2).toNat = (lo + hi) / 2 := by omega
      clear hX
      go_wp2_with fail
      go_cut [31] (fun s wx => s = .bool (decide (cmpI X.a ta < 0)) ∧ Below wr.heap.size wr wx)
      case first =>
        go_region_held3 (fun w' => w'.cell? ⟨w.heap.size, 0, none⟩ = some (Value.int .i64 ta) ∧ w'.cell? ⟨w.heap.size, 1, none⟩ = some (Value.int .i64 tv) ∧ w'.cell? ⟨b, off + (lo + hi) / 2 * 2, none⟩ = some (Value.int .i64 X.a) ∧ w'.cell? ⟨b, off + (lo + hi) / 2 * 2 + 1, none⟩ = some (Value.int .i64 X.v) ∧ Below wr.heap.size wr w')
          (first | assumption | exact ⟨q0, q1, c0, c1, (Below.refl _ _).drew⟩ | (go_split_ands; exact ⟨cell_kept (by assumption) (by assumption), cell_kept (by assumption) (by assumption), cell_kept (by assumption) (by assumption), cell_kept (by assumption) (by assumption), Below.trans (by assumption) (Below.mono (by assumption) (Below.size (by assumption)))⟩))
          (first
            | (go_at_call 92; (with_reducible refine (byAddr_any _ _ _ _ _).mono ?_); rintro e wa ⟨rfl, ba⟩))
        all_goals
          go_wp2_with fail
          go_meet
          exact ⟨rfl, by go_split_ands; assumption⟩
      case rest =>
        obtain ⟨rfl, C1⟩ := hcut
        have B1 := hbw.trans (C1.mono hbw.size)
        have K1 := kb.kept C1
        clear q0 q1 c0 c1 C1 hbw kb
        by_cases hx : X.a < ta
        · have e1 : decide (cmpI X.a ta < 0) = true := decide_eq_true (cmpI_lt.2 hx)
          have HN := hide (show Srch mem ta ((lo + hi) / 2 + 1) hi from ⟨fun p hp hpl => by
            have := HM.out p ((lo + hi) / 2) hp (by omega) (by omega)
            rw [← HX.out] at this
            omega, HS.out.2⟩)
          rw [e1]
          clear e1 hx
          go_wp2
          go_roundw
          case rel => exact ⟨(lo + hi) / 2 + 1, hi, by rw [show ((lo : Int) + (hi : Int)) / 2 + 1 = (((lo + hi) / 2 + 1 : Nat) : Int) by omega], rfl, by omega, hin, B1, K1, HN⟩
          case measure => simp [intOf]; omega
        · have e1 : decide (cmpI X.a ta < 0) = false := decide_eq_false (fun e => hx (cmpI_lt.1 e))
          have HN := hide (show Srch mem ta lo ((lo + hi) / 2) from ⟨HS.out.1, fun p hp hpl => by
            have := HM.out ((lo + hi) / 2) p (by omega) hp hpl
            rw [← HX.out] at this
            omega⟩)
          rw [e1]
          clear e1 hx
          go_wp2
          go_roundw
          case rel => exact ⟨lo, (lo + hi) / 2, rfl, by rw [show ((lo : Int) + (hi : Int)) / 2 = (((lo + hi) / 2 : Nat) : Int) by omega], by omega, by omega, B1, K1, HN⟩
          case measure => simp [intOf]; omega
    · obtain rfl : hi = lo := by omega
      by_cases hn : hi < mem.length
      · obtain ⟨b, off, rfl, hbb, c0, c1⟩ := (h.below hbw).get hn
        have f0 : decide ((hi : Int) < (mem.length : Int)) = true := decide_eq_true (by omega)
        have HF := hide (show Found mem ta hi (decide (cmpI mem[hi].a ta = 0)) from HS.out.found hin (by
          rw [decide_eq_true_eq, cmpI_eq, List.getElem?_eq_getElem hn]
          exact ⟨fun e => ⟨_, rfl, e⟩, fun ⟨_, e1, e2⟩ => by cases e1; exact e2⟩))
        obtain ⟨X, hX⟩ : ∃ X, X = mem[hi] := ⟨_, rfl⟩
        rw [← hX] at c0 c1 HF
        clear hX
        go_wp2_with fail
        go_cut [6, 7] (fun s6 s7 wx => s6 = .int .i64 hi ∧ s7 = .bool (decide (cmpI X.a ta = 0)) ∧ Below wr.heap.size wr wx)
        case first =>
          go_region_held3 (fun w' => w'.cell? ⟨w.heap.size, 0, none⟩ = some (Value.int .i64 ta) ∧ w'.cell? ⟨w.heap.size, 1, none⟩ = some (Value.int .i64 tv) ∧ w'.cell? ⟨b, off + hi * 2, none⟩ = some (Value.int .i64 X.a) ∧ w'.cell? ⟨b, off + hi * 2 + 1, none⟩ = some (Value.int .i64 X.v) ∧ Below wr.heap.size wr w')
            (first | assumption | exact ⟨q0, q1, c0, c1, (Below.refl _ _).drew⟩ | (go_split_ands; exact ⟨cell_kept (by assumption) (by assumption), cell_kept (by assumption) (by assumption), cell_kept (by assumption) (by assumption), cell_kept (by assumption) (by assumption), Below.trans (by assumption) (Below.mono (by assumption) (Below.size (by assumption)))⟩))
            (first
              | (go_at_call 92; (with_reducible refine (byAddr_any _ _ _ _ _).mono ?_); rintro e wa ⟨rfl, ba⟩))
          all_goals
            go_wp2_with fail
            go_meet
            exact ⟨rfl, congrArg Value.bool (Bool.eq_iff_iff.2 (by simp)), by go_split_ands; assumption⟩
        case rest =>
          obtain ⟨rfl, rfl, C1⟩ := hcut
          go_wp2
          go_ret2
          exact ⟨hi, _, rfl, HF.out, hbw.trans (C1.mono hbw.size)⟩
      · have HF := hide (show Found mem ta hi false from HS.out.found hin (by
          rw [List.getElem?_eq_none (by omega)]
          exact ⟨fun e => (by cases e), fun ⟨_, e1, _⟩ => (by cases e1)⟩))
        go_wp2
        go_quiet (fail)
        go_wp2
        go_ret2
        exact ⟨hi, false, rfl, HF.out, below_drewN hbw _⟩
end Go.Proofs.YtnnfkmjhaljplaaGreat
namespace Go.Proofs.YtnnfkmjhaljplaaGreat
open Go.RowKit
theorem moved_trans {v v1 v2 : Value} {w w1 : World} (h : Moved v v1 w) (k : Moved v1 v2 w1) (hw : w.heap.size ≤ w1.heap.size) : Moved v v2 w := by
  rcases k with e | ⟨b, e, hb⟩
  · rcases h with e2 | ⟨b, e2, hb⟩
    · exact .inl (e.trans e2)
    · exact .inr ⟨b, e.trans e2, hb⟩
  · exact .inr ⟨b, e, Nat.le_trans hw hb⟩
theorem found_back {mem : List Cel} {a v : Int} {i : Nat} {f : Bool} (hr : rise mem = true) (h : Found mem a i f) : putAt mem i f a v = backM mem a v := putAt_back hr h.low h.high h.hit
theorem found_lt {mem : List Cel} {a : Int} {i : Nat} (h : Found mem a i true) : i < mem.length := by
  obtain ⟨c, hc, _⟩ := h.hit.1 rfl
  rcases Nat.lt_or_ge i mem.length with e | e
  · exact e
  · rw [List.getElem?_eq_none e] at hc; cases hc
/-- What write leaves. -/
def WrPost (base pm : Nat) (vm : Value) (m' : List Cel) (w : World) (e : Ending) (w' : World) : Prop :=
  ∃ v', e = .returned (.tuple #[]) ∧ Bk w' pm #[v'] 123 ∧ w'.ownsRow base 139 2 v' m'.length (cels m') ∧ Moved vm v' w ∧ v'.ownBlock ≠ some pm ∧ But (fun k => k = pm ∨ vm.ownBlock = some k) w w'
set_option maxRecDepth 100000 in
set_option maxHeartbeats 3200000 in
theorem write_any (base pm : Nat) (vm : Value) (mem : List Cel) (a v : Int) (w : World) (hr : rise mem = true) (hb : mem.length ≤ 1000000) (kp : Bk w pm #[vm] 123) (o : w.ownsRow base 139 2 vm mem.length (cels mem)) (hnep : vm.ownBlock ≠ some pm) (hbase : base ≤ w.heap.size) :
    Calls Tryz.prog 81 #[.pointer (some ⟨pm, 0, none⟩), .agg #[.int .i64 a, .int .i64 v]] w (WrPost base pm vm (backM mem a v) w) := by
  obtain ⟨W, hW⟩ : ∃ W, W = w.alloc (Obj.cells #[.int .i64 a, .int .i64 v] 139) := ⟨_, rfl⟩
  have kb : Bk W w.heap.size #[.int .i64 a, .int .i64 v] 139 := by rw [hW]; exact Bk.new w _ _
  have kp0 := kp
  have hneb : vm.ownBlock ≠ some w.heap.size := fun e => by have := o.lt _ e; omega
  have hpb : w.heap.size ≠ pm := by have := kp.lt; omega
  have BT : But (fun k => k = pm ∨ vm.ownBlock = some k) w W := by rw [hW]; exact But.of_below ((Below.refl _ _).alloc (Nat.le_refl _) _)
  have hSub : ∀ x, vm.ownBlock = some x → (x = pm ∨ vm.ownBlock = some x) ∨ w.heap.size ≤ x := fun x e => .inl (.inr e)
  have hzW : W.heap.size = w.heap.size + 1 := by rw [hW]; simp
  replace kp : Bk W pm #[vm] 123 := by rw [hW]; exact kp.alloc _
  replace o : W.ownsRow base 139 2 vm mem.length (cels mem) := by rw [hW]; exact o.alloc _
  have HW := hide hW
  clear hW kp0
  obtain ⟨A, c, rfl⟩ := own_shape o
  have p0 := (kp.cell 0).trans (rfl : _ = some (Value.slice A mem.length c))
  have b0 := (kb.cell 0).trans (rfl : _ = some (Value.int .i64 a))
  have b1 := (kb.cell 1).trans (rfl : _ = some (Value.int .i64 v))
  have HS := hide (fun V (hV : Below W.heap.size W V) => search_any mem A c a v V hb hr ((RdC.of_own o).below hV |>.more hV.size))
  go_enter Tryz.func81, Tryz.ntmps81
  go_wp2_with fail
  rw [← HW.out]
  go_cut [4, 5] (fun s4 s5 wx => ∃ i f, s4 = .int .i64 (i : Nat) ∧ s5 = .bool f ∧ Found mem a i f ∧ Below W.heap.size W wx)
  case first =>
    go_region_held3 (fun w' => w'.cell? ⟨pm, 0, none⟩ = some (Value.slice A mem.length c) ∧ w'.cell? ⟨w.heap.size, 0, none⟩ = some (Value.int .i64 a) ∧ w'.cell? ⟨w.heap.size, 1, none⟩ = some (Value.int .i64 v) ∧ Below W.heap.size W w')
      (first | assumption | exact ⟨p0, b0, b1, (Below.refl _ _).drew⟩ | (go_split_ands; exact ⟨cell_kept (by assumption) (by assumption), cell_kept (by assumption) (by assumption), cell_kept (by assumption) (by assumption), Below.trans (by assumption) (Below.mono (by assumption) (Below.size (by assumption)))⟩))
      (first
        | (go_at_call 91; (with_reducible refine (HS.out _ ?_).mono ?_); (go_split_ands; assumption); rintro e wa ⟨i, f, rfl, hF, ba⟩))
    all_goals
      go_wp2_with fail
      go_meet
      exact ⟨i, f, rfl, rfl, hF, by go_split_ands; assumption⟩
  case rest =>
    obtain ⟨i, f, rfl, rfl, hF, C1⟩ := hcut
    replace kb := kb.kept C1
    replace kp := kp.kept C1
    replace o := own_below o C1 (Nat.le_refl _)
    replace BT := BT.trans (S' := fun _ => False) (But.of_below C1) (fun _ e => e.elim)
    have hPB := found_back (v := v) hr hF
    have hzc := C1.size
    clear p0 b0 b1 C1 HS
    cases f
    · by_cases hv : v = 0
      · subst hv
        have hl : mem = backM mem a 0 := by rw [← hPB]; unfold putAt; simp
        have HL := hide hl
        have b1 := (kb.cell 1).trans (rfl : _ = some (Value.int .i64 0))
        clear hPB hl
        go_wp2
        go_end0
        refine ⟨_, rfl, kp, ?_, .inl rfl, hnep, BT⟩
        rw [← HL.out]
        exact o
      · have f1 : (v != 0) = true := bne_iff_ne.2 hv
        have f2 : (v == 0) = false := beq_eq_false_iff_ne.2 hv
        have hl : mem.take i ++ [⟨a, v⟩] ++ mem.drop i = backM mem a v := by rw [← hPB]; unfold putAt; rw [if_neg hv]; simp
        have hn1 : mem.length = mem.length := rfl
        have hi1 := hF.le
        have hb1 := hb
        have HL := hide hl
        have HLn := hide (show mem.length + 1 = (mem.take i ++ [(⟨a, v⟩ : Cel)] ++ mem.drop i).length by simp; omega)
        have hMv : Moved (.slice A mem.length c) (.slice A mem.length c) w := .inl rfl
        have q1 := (kb.cell 1).trans (rfl : _ = some (Value.int .i64 v))
        clear hPB hl hv
        go_wp2_with fail
        clear q1
        have b0 := ((show Bk wc.drew w.heap.size #[.int .i64 a, .int .i64 v] 139 from kb).cell 0).trans (rfl : _ = some (Value.int .i64 a))
        have b1 := ((show Bk wc.drew w.heap.size #[.int .i64 a, .int .i64 v] 139 from kb).cell 1).trans (rfl : _ = some (Value.int .i64 v))
        have p0 := ((show Bk wc.drew pm #[.slice A mem.length c] 123 from kp).cell 0).trans (rfl : _ = some (Value.slice A mem.length c))
        refine wp_region_F 7 (fun w' => w'.cell? ⟨w.heap.size, 0, none⟩ = some (Value.int .i64 a) ∧ w'.cell? ⟨w.heap.size, 1, none⟩ = some (Value.int .i64 v)) (fun w' => w'.cell? ⟨pm, 0, none⟩ = some (Value.slice A mem.length c)) (by kernel_rfl) ⟨⟨b0, b1⟩, p0⟩ (fun hHeld => ?_)
        try simp only [Act.put, List.setIfInBounds_toArray, List.set_cons_zero, List.set_cons_succ]
        have kbd : Bk wc.drew w.heap.size #[.int .i64 a, .int .i64 v] 139 := kb
        have kpd : Bk wc.drew pm #[.slice A mem.length c] 123 := kp
        have od := o.drew
        have Bd := But.trans BT (S' := fun _ => False) (But.of_below (Below.refl wc.heap.size wc).drew) (fun _ e => e.elim)
        have zd : wc.heap.size ≤ wc.drew.heap.size := Nat.le_refl _
        clear kb kp o BT b0 b1 p0
        generalize wc.drew = wy at *
        refine wpAnyF_take (i := 0) (v := ?_) (by (simp only [List.getElem?_toArray, List.getElem?_cons_zero]; rfl)) (by kernel_rfl) (by kernel_rfl) (by kernel_rfl) (by decide) (by exact fun _ _ _ h => h) ⟨hHeld.1, .inr hHeld.2⟩ (Or.inl ⟨by rfl, ?_⟩) ?_
        rotate_left
        · (intro w' _; go_simp <;> with_reducible rfl)
        try simp only [Act.put, List.setIfInBounds_toArray, List.set_cons_zero, List.set_cons_succ]
        refine wpAnyF_take (i := 1) (v := ?_) (by (simp only [List.getElem?_toArray, List.getElem?_cons_succ, List.getElem?_cons_zero]; rfl)) (by kernel_rfl) (by kernel_rfl) (by kernel_rfl) (by decide) (by exact fun _ _ _ h => h) ⟨hHeld.1, .inr hHeld.2⟩ (Or.inl ⟨by rfl, ?_⟩) ?_
        rotate_left
        · (intro w' _; go_simp <;> with_reducible rfl)
        try simp only [Act.put, List.setIfInBounds_toArray, List.set_cons_zero, List.set_cons_succ]
        refine wpAnyF_take (i := 2) (v := ?_) (by (simp only [List.getElem?_toArray, List.getElem?_cons_succ, List.getElem?_cons_zero]; rfl)) (by kernel_rfl) (by kernel_rfl) (by kernel_rfl) (by decide) (by exact fun _ _ _ h => h) ⟨hHeld.1, .inr hHeld.2⟩ (Or.inl ⟨by rfl, ?_⟩) ?_
        rotate_left
        · (intro w' _; go_simp <;> with_reducible rfl)
        try simp only [Act.put, List.setIfInBounds_toArray, List.set_cons_zero, List.set_cons_succ]
        refine wpAnyF_load (i := 3) (v := ?_) (by (simp only [List.getElem?_toArray, List.getElem?_cons_succ, List.getElem?_cons_zero]; rfl)) (by kernel_rfl) (by kernel_rfl) (by kernel_rfl) (by decide) (by exact fun _ _ _ h => h) hHeld (by kernel_rfl) (by kernel_rfl) (Or.inl ⟨by rfl, ?_⟩) ?_
        rotate_left
        · (intro w' hSw; (try dsimp only at hSw); obtain hSb0 := hSw; go_simp <;> with_reducible rfl)
        try simp only [Act.put, List.setIfInBounds_toArray, List.set_cons_zero, List.set_cons_succ]
        refine wpAnyF_take (i := 4) (v := ?_) (by (simp only [List.getElem?_toArray, List.getElem?_cons_succ, List.getElem?_cons_zero]; rfl)) (by kernel_rfl) (by kernel_rfl) (by kernel_rfl) (by decide) (by exact fun _ _ _ h => h) ⟨hHeld.1, .inr hHeld.2⟩ (Or.inl ⟨by rfl, ?_⟩) ?_
        rotate_left
        · (intro w' _; go_simp <;> with_reducible rfl)
        try simp only [Act.put, List.setIfInBounds_toArray, List.set_cons_zero, List.set_cons_succ]
        refine wpAnyF_keep (i := 5) (v := ?_) (by (simp only [List.getElem?_toArray, List.getElem?_cons_succ, List.getElem?_cons_zero]; rfl)) (by kernel_rfl) (by kernel_rfl) (by kernel_rfl) (by decide) (by exact fun _ _ _ h => h) ⟨hHeld.1, .inr hHeld.2⟩ (Or.inl ⟨by rfl, ?_⟩) ?_
        rotate_left
        · (intro w' hSw; (try dsimp only at hSw); obtain ⟨hSa0, hSa1⟩ := hSw; go_simp <;> with_reducible rfl)
        try simp only [Act.put, List.setIfInBounds_toArray, List.set_cons_zero, List.set_cons_succ]
        refine wpAnyF_ready (rs := [6]) (by kernel_rfl) (by simp) ?_
        refine AllReadyF.cons (by (simp only [List.getElem?_toArray, List.getElem?_cons_succ, List.getElem?_cons_zero]; rfl)) (fun K hK => ?_) AllReadyF.nil
        go_simp
        have kb2 := kbd.alloc (.cells #[.int .i64 a, .int .i64 v] 139)
        have kp2 := kpd.alloc (.cells #[.int .i64 a, .int .i64 v] 139)
        refine hK.out _ _ ⟨⟨(kb2.cell 0).trans rfl, (kb2.cell 1).trans rfl⟩, (kp2.cell 0).trans rfl⟩ (fun hNew => ?_)
        clear hK K hHeld
        have hHeld := hNew
        clear hNew
        try simp only [Act.put, List.setIfInBounds_toArray, List.set_cons_zero, List.set_cons_succ]
        refine wpAnyF_ready (rs := [7]) (by kernel_rfl) (by simp) ?_
        refine AllReadyF.last (by (simp only [List.getElem?_toArray, List.getElem?_cons_succ, List.getElem?_cons_zero]; rfl)) (by kernel_rfl) (fun K hK => ?_) AllReadyF.nil
        go_simp
        go_at_call 95
        refine (insert_any base wy.heap.size i (mem.length) (.slice A mem.length c) (mem) a v _ (by first | exact hn1 | rfl) hi1 (od.alloc _) hb1 (Bk.new wy #[.int .i64 a, .int .i64 v] 139) (fun e => by have := od.lt _ e; omega) (by have := Bd.size; simp; omega)).mono ?_
        rintro e w7 ⟨v', rfl, o7, g7, m7⟩
        obtain ⟨A9, c9, rfl⟩ := own_shape o7
        have kb7 := kb2.grown g7 (fun e => hneb e.symm)
        have kp7 := kp2.grown g7 (fun e => hnep e.symm)
        have B7 := (Bd.trans (S' := fun _ => False) (But.of_below ((Below.refl wy.heap.size wy).alloc (Nat.le_refl _) (.cells #[.int .i64 a, .int .i64 v] 139))) (fun _ e => e.elim)).trans (S' := fun k => (Value.slice A mem.length c).ownBlock = some k) (But.of_grown g7 (fun b e => e)) hSub
        have p7 := (kp7.cell 0).trans (rfl : _ = some (Value.slice A mem.length c))
        have f7 := kp7.frozen 0
        have A7 : w7.cell? ⟨w.heap.size, 0, none⟩ = some (Value.int .i64 a) ∧ w7.cell? ⟨w.heap.size, 1, none⟩ = some (Value.int .i64 v) := ⟨(kb7.cell 0).trans rfl, (kb7.cell 1).trans rfl⟩
        have A8 : ∀ x, (w7.setCell ⟨pm, 0, none⟩ x).cell? ⟨w.heap.size, 0, none⟩ = some (Value.int .i64 a) ∧ (w7.setCell ⟨pm, 0, none⟩ x).cell? ⟨w.heap.size, 1, none⟩ = some (Value.int .i64 v) := fun x => ⟨((kb7.far (p := ⟨pm, 0, none⟩) hpb x).cell 0).trans rfl, ((kb7.far (p := ⟨pm, 0, none⟩) hpb x).cell 1).trans rfl⟩
        refine hK.out _ _ A7 ?_
        clear hK K
        try simp only [Act.put, List.setIfInBounds_toArray, List.set_cons_zero, List.set_cons_succ]
        refine wpAnyF_take (i := 8) (v := ?_) (by (simp only [List.getElem?_toArray, List.getElem?_cons_succ, List.getElem?_cons_zero]; rfl)) (by kernel_rfl) (by kernel_rfl) (by kernel_rfl) (by decide) (by exact fun _ _ _ h => h) ⟨A7, .inl (by kernel_rfl)⟩ (Or.inl ⟨by rfl, ?_⟩) ?_
        rotate_left
        · (intro w' _; go_simp <;> with_reducible rfl)
        try simp only [Act.put, List.setIfInBounds_toArray, List.set_cons_zero, List.set_cons_succ]
        refine wpAnyF_ready (rs := [9]) (by kernel_rfl) (by simp) ?_
        refine AllReadyF.last (by (simp only [List.getElem?_toArray, List.getElem?_cons_succ, List.getElem?_cons_zero]; rfl)) (by kernel_rfl) (fun K hK => ?_) AllReadyF.nil
        go_simp
        refine hK.out _ _ (A8 _) ?_
        clear hK K
        try simp only [Act.put, List.setIfInBounds_toArray, List.set_cons_zero, List.set_cons_succ]
        refine wpAnyF_done (by kernel_rfl) ?_ _
        go_wp2
        go_end0
        have hnp7 : (Value.slice A9 (mem.length + 1) c9).ownBlock ≠ some pm := fun e => by
          rcases m7 with e7 | ⟨x, e7, hx⟩
          · rw [e7] at e; exact hnep e
          · rw [e7] at e; simp only [Option.some.injEq] at e; have := kpd.lt; simp at hx; omega
        refine ⟨_, rfl, by have := kp7.set_ 0 (.slice A9 (mem.length + 1) c9); simpa using this, ?_, ?_, hnp7, B7.set_ (.inl rfl) 0 _⟩
        · rw [← HL.out]
          rw [← HLn.out]
          exact ownsRow_setCell_other o7 hnp7 _
        · exact moved_trans hMv m7 (by have := Bd.size; simp; omega)
    · have hlt := found_lt hF
      obtain ⟨g, cap, cur, hvm, hbg, hg, hnc, hcm, hs, hx⟩ := own_open o (by omega)
      simp only [Value.slice.injEq, true_and] at hvm
      obtain ⟨rfl, rfl⟩ := hvm
      have hgp : g ≠ pm := fun e => hnep (by rw [e]; rfl)
      have hgb : g ≠ w.heap.size := fun e => hneb (by rw [e]; rfl)
      have q0 := (kp.cell 0).trans (rfl : _ = some (Value.slice (some ⟨g, 0, none⟩) mem.length c))
      have hi2 : (0 : Int) ≤ (i : Int) := by omega
      go_wp2_with fail
      refine (delete_any g mem.length c i cur mem _ hg rfl hnc hs hx hlt hb).mono ?_
      rintro e w3 ⟨rfl, cur', h1, h2, h3, g3⟩
      clear q0
      replace kb := kb.grown g3 (fun e => by simp only [Option.some.injEq] at e; omega)
      replace kp := kp.grown g3 (fun e => by simp only [Option.some.injEq] at e; omega)
      replace BT := BT.trans (S' := fun k => k = g) (But.of_grown g3 (fun b e => by cases e; rfl)) (fun x e => .inl (.inr (by rw [e]; rfl)))
      have o3 : w3.ownsRow base 139 2 (.slice (some ⟨g, 0, none⟩) (mem.length - 1) c) (mem.length - 1) (cels (mem.take i ++ mem.drop (i + 1))) := own_mk hbg h1 (by omega) hcm h2 h3
      have q0 := (kp.cell 0).trans (rfl : _ = some (Value.slice (some ⟨g, 0, none⟩) mem.length c))
      have qf := kp.frozen 0
      have hz3 := g3.size
      clear h1 h2 h3 g3 o hg hs hx
      obtain ⟨w4, hw4⟩ : ∃ w4, w4 = w3.setCell ⟨pm, 0, none⟩ (Value.slice (some ⟨g, 0, none⟩) (mem.length - 1) c) := ⟨_, rfl⟩
      have kp4 : Bk w4 pm #[.slice (some ⟨g, 0, none⟩) (mem.length - 1) c] 123 := by rw [hw4]; have := kp.set_ 0 (.slice (some ⟨g, 0, none⟩) (mem.length - 1) c); simpa using this
      have kb4 : Bk w4 w.heap.size #[.int .i64 a, .int .i64 v] 139 := by rw [hw4]; exact kb.far (p := ⟨pm, 0, none⟩) hpb _
      have o4 : w4.ownsRow base 139 2 (.slice (some ⟨g, 0, none⟩) (mem.length - 1) c) (mem.length - 1) (cels (mem.take i ++ mem.drop (i + 1))) := by rw [hw4]; exact ownsRow_setCell_other o3 (fun e => hgp (by simpa [Value.ownBlock] using e)) _
      have BT4 : But (fun k => k = pm ∨ (Value.slice (some ⟨g, 0, none⟩) mem.length c).ownBlock = some k) w w4 := by rw [hw4]; exact BT.set_ (.inl rfl) 0 _
      have hz4 : w4.heap.size = w3.heap.size := by rw [hw4]; simp
      have HW4 := hide hw4
      clear hw4 o3 BT
      have hlen1 : (mem.take i ++ mem.drop (i + 1)).length = mem.length - 1 := by simp; omega
      have hMv : Moved (.slice (some ⟨g, 0, none⟩) mem.length c) (.slice (some ⟨g, 0, none⟩) (mem.length - 1) c) w := .inl rfl
      by_cases hv : v = 0
      · subst hv
        have hl : mem.take i ++ mem.drop (i + 1) = backM mem a 0 := by rw [← hPB]; unfold putAt; simp
        have HL := hide hl
        have HH := hide hlen1
        clear hPB hl hlen1
        have b1 := (kb4.cell 1).trans (rfl : _ = some (Value.int .i64 0))
        clear kb kp
        go_wp2_with (rw [← HW4.out])
        go_end0
        refine ⟨_, rfl, kp4, ?_, hMv, hnep, BT4⟩
        rw [← HL.out, HH.out]
        exact o4
      · have f1 : (v != 0) = true := bne_iff_ne.2 hv
        have f2 : (v == 0) = false := beq_eq_false_iff_ne.2 hv
        have hm1 : (mem.take i ++ mem.drop (i + 1)).take i = mem.take i := by rw [List.take_append_of_le_length (by simp; omega), List.take_take, Nat.min_self]
        have hm2 : (mem.take i ++ mem.drop (i + 1)).drop i = mem.drop (i + 1) := by
          have e1 : (mem.take i).length = i := by simp; omega
          have e2 := List.drop_left (l₁ := mem.take i) (l₂ := mem.drop (i + 1))
          rw [e1] at e2
          exact e2
        have hl : (mem.take i ++ mem.drop (i + 1)).take i ++ [⟨a, v⟩] ++ (mem.take i ++ mem.drop (i + 1)).drop i = backM mem a v := by rw [← hPB, hm1, hm2]; unfold putAt; rw [if_neg hv]; simp
        obtain ⟨mem1, hmem1⟩ : ∃ x, x = mem.take i ++ mem.drop (i + 1) := ⟨_, rfl⟩
        rw [← hmem1] at hl o4 hlen1
        have hn1 := hlen1
        have hi1 : i ≤ mem.length - 1 := by omega
        have hb1 : mem.length - 1 ≤ 1000000 := by omega
        have HL := hide hl
        have HLn := hide (show mem.length - 1 + 1 = (mem1.take i ++ [(⟨a, v⟩ : Cel)] ++ mem1.drop i).length by simp; omega)
        have q1 := (kb4.cell 1).trans (rfl : _ = some (Value.int .i64 v))
        clear hPB hl hv hm1 hm2 hmem1 hlen1 kb kp
        go_wp2_with (rw [← HW4.out])
        have kb := kb4
        have kp := kp4
        have o := o4
        have BT := BT4
        clear q1 q0 qf kb4 kp4 o4 BT4
        have b0 := ((show Bk w4.drew w.heap.size #[.int .i64 a, .int .i64 v] 139 from kb).cell 0).trans (rfl : _ = some (Value.int .i64 a))
        have b1 := ((show Bk w4.drew w.heap.size #[.int .i64 a, .int .i64 v] 139 from kb).cell 1).trans (rfl : _ = some (Value.int .i64 v))
        have p0 := ((show Bk w4.drew pm #[.slice (some ⟨g, 0, none⟩) (mem.length - 1) c] 123 from kp).cell 0).trans (rfl : _ = some (Value.slice (some ⟨g, 0, none⟩) (mem.length - 1) c))
        refine wp_region_F 7 (fun w' => w'.cell? ⟨w.heap.size, 0, none⟩ = some (Value.int .i64 a) ∧ w'.cell? ⟨w.heap.size, 1, none⟩ = some (Value.int .i64 v)) (fun w' => w'.cell? ⟨pm, 0, none⟩ = some (Value.slice (some ⟨g, 0, none⟩) (mem.length - 1) c)) (by kernel_rfl) ⟨⟨b0, b1⟩, p0⟩ (fun hHeld => ?_)
        try simp only [Act.put, List.setIfInBounds_toArray, List.set_cons_zero, List.set_cons_succ]
        have kbd : Bk w4.drew w.heap.size #[.int .i64 a, .int .i64 v] 139 := kb
        have kpd : Bk w4.drew pm #[.slice (some ⟨g, 0, none⟩) (mem.length - 1) c] 123 := kp
        have od := o.drew
        have Bd := But.trans BT (S' := fun _ => False) (But.of_below (Below.refl w4.heap.size w4).drew) (fun _ e => e.elim)
        have zd : w4.heap.size ≤ w4.drew.heap.size := Nat.le_refl _
        clear kb kp o BT b0 b1 p0
        generalize w4.drew = wy at *
        refine wpAnyF_take (i := 0) (v := ?_) (by (simp only [List.getElem?_toArray, List.getElem?_cons_zero]; rfl)) (by kernel_rfl) (by kernel_rfl) (by kernel_rfl) (by decide) (by exact fun _ _ _ h => h) ⟨hHeld.1, .inr hHeld.2⟩ (Or.inl ⟨by rfl, ?_⟩) ?_
        rotate_left
        · (intro w' _; go_simp <;> with_reducible rfl)
        try simp only [Act.put, List.setIfInBounds_toArray, List.set_cons_zero, List.set_cons_succ]
        refine wpAnyF_take (i := 1) (v := ?_) (by (simp only [List.getElem?_toArray, List.getElem?_cons_succ, List.getElem?_cons_zero]; rfl)) (by kernel_rfl) (by kernel_rfl) (by kernel_rfl) (by decide) (by exact fun _ _ _ h => h) ⟨hHeld.1, .inr hHeld.2⟩ (Or.inl ⟨by rfl, ?_⟩) ?_
        rotate_left
        · (intro w' _; go_simp <;> with_reducible rfl)
        try simp only [Act.put, List.setIfInBounds_toArray, List.set_cons_zero, List.set_cons_succ]
        refine wpAnyF_take (i := 2) (v := ?_) (by (simp only [List.getElem?_toArray, List.getElem?_cons_succ, List.getElem?_cons_zero]; rfl)) (by kernel_rfl) (by kernel_rfl) (by kernel_rfl) (by decide) (by exact fun _ _ _ h => h) ⟨hHeld.1, .inr hHeld.2⟩ (Or.inl ⟨by rfl, ?_⟩) ?_
        rotate_left
        · (intro w' _; go_simp <;> with_reducible rfl)
        try simp only [Act.put, List.setIfInBounds_toArray, List.set_cons_zero, List.set_cons_succ]
        refine wpAnyF_load (i := 3) (v := ?_) (by (simp only [List.getElem?_toArray, List.getElem?_cons_succ, List.getElem?_cons_zero]; rfl)) (by kernel_rfl) (by kernel_rfl) (by kernel_rfl) (by decide) (by exact fun _ _ _ h => h) hHeld (by kernel_rfl) (by kernel_rfl) (Or.inl ⟨by rfl, ?_⟩) ?_
        rotate_left
        · (intro w' hSw; (try dsimp only at hSw); obtain hSb0 := hSw; go_simp <;> with_reducible rfl)
        try simp only [Act.put, List.setIfInBounds_toArray, List.set_cons_zero, List.set_cons_succ]
        refine wpAnyF_take (i := 4) (v := ?_) (by (simp only [List.getElem?_toArray, List.getElem?_cons_succ, List.getElem?_cons_zero]; rfl)) (by kernel_rfl) (by kernel_rfl) (by kernel_rfl) (by decide) (by exact fun _ _ _ h => h) ⟨hHeld.1, .inr hHeld.2⟩ (Or.inl ⟨by rfl, ?_⟩) ?_
        rotate_left
        · (intro w' _; go_simp <;> with_reducible rfl)
        try simp only [Act.put, List.setIfInBounds_toArray, List.set_cons_zero, List.set_cons_succ]
        refine wpAnyF_keep (i := 5) (v := ?_) (by (simp only [List.getElem?_toArray, List.getElem?_cons_succ, List.getElem?_cons_zero]; rfl)) (by kernel_rfl) (by kernel_rfl) (by kernel_rfl) (by decide) (by exact fun _ _ _ h => h) ⟨hHeld.1, .inr hHeld.2⟩ (Or.inl ⟨by rfl, ?_⟩) ?_
        rotate_left
        · (intro w' hSw; (try dsimp only at hSw); obtain ⟨hSa0, hSa1⟩ := hSw; go_simp <;> with_reducible rfl)
        try simp only [Act.put, List.setIfInBounds_toArray, List.set_cons_zero, List.set_cons_succ]
        refine wpAnyF_ready (rs := [6]) (by kernel_rfl) (by simp) ?_
        refine AllReadyF.cons (by (simp only [List.getElem?_toArray, List.getElem?_cons_succ, List.getElem?_cons_zero]; rfl)) (fun K hK => ?_) AllReadyF.nil
        go_simp
        have kb2 := kbd.alloc (.cells #[.int .i64 a, .int .i64 v] 139)
        have kp2 := kpd.alloc (.cells #[.int .i64 a, .int .i64 v] 139)
        refine hK.out _ _ ⟨⟨(kb2.cell 0).trans rfl, (kb2.cell 1).trans rfl⟩, (kp2.cell 0).trans rfl⟩ (fun hNew => ?_)
        clear hK K hHeld
        have hHeld := hNew
        clear hNew
        try simp only [Act.put, List.setIfInBounds_toArray, List.set_cons_zero, List.set_cons_succ]
        refine wpAnyF_ready (rs := [7]) (by kernel_rfl) (by simp) ?_
        refine AllReadyF.last (by (simp only [List.getElem?_toArray, List.getElem?_cons_succ, List.getElem?_cons_zero]; rfl)) (by kernel_rfl) (fun K hK => ?_) AllReadyF.nil
        go_simp
        go_at_call 95
        refine (insert_any base wy.heap.size i ((mem.length - 1)) (.slice (some ⟨g, 0, none⟩) (mem.length - 1) c) (mem1) a v _ (by first | exact hn1 | rfl) hi1 (od.alloc _) hb1 (Bk.new wy #[.int .i64 a, .int .i64 v] 139) (fun e => by have := od.lt _ e; omega) (by have := Bd.size; simp; omega)).mono ?_
        rintro e w7 ⟨v', rfl, o7, g7, m7⟩
        obtain ⟨A9, c9, rfl⟩ := own_shape o7
        have kb7 := kb2.grown g7 (fun e => hneb e.symm)
        have kp7 := kp2.grown g7 (fun e => hnep e.symm)
        have B7 := (Bd.trans (S' := fun _ => False) (But.of_below ((Below.refl wy.heap.size wy).alloc (Nat.le_refl _) (.cells #[.int .i64 a, .int .i64 v] 139))) (fun _ e => e.elim)).trans (S' := fun k => (Value.slice (some ⟨g, 0, none⟩) (mem.length - 1) c).ownBlock = some k) (But.of_grown g7 (fun b e => e)) hSub
        have p7 := (kp7.cell 0).trans (rfl : _ = some (Value.slice (some ⟨g, 0, none⟩) (mem.length - 1) c))
        have f7 := kp7.frozen 0
        have A7 : w7.cell? ⟨w.heap.size, 0, none⟩ = some (Value.int .i64 a) ∧ w7.cell? ⟨w.heap.size, 1, none⟩ = some (Value.int .i64 v) := ⟨(kb7.cell 0).trans rfl, (kb7.cell 1).trans rfl⟩
        have A8 : ∀ x, (w7.setCell ⟨pm, 0, none⟩ x).cell? ⟨w.heap.size, 0, none⟩ = some (Value.int .i64 a) ∧ (w7.setCell ⟨pm, 0, none⟩ x).cell? ⟨w.heap.size, 1, none⟩ = some (Value.int .i64 v) := fun x => ⟨((kb7.far (p := ⟨pm, 0, none⟩) hpb x).cell 0).trans rfl, ((kb7.far (p := ⟨pm, 0, none⟩) hpb x).cell 1).trans rfl⟩
        refine hK.out _ _ A7 ?_
        clear hK K
        try simp only [Act.put, List.setIfInBounds_toArray, List.set_cons_zero, List.set_cons_succ]
        refine wpAnyF_take (i := 8) (v := ?_) (by (simp only [List.getElem?_toArray, List.getElem?_cons_succ, List.getElem?_cons_zero]; rfl)) (by kernel_rfl) (by kernel_rfl) (by kernel_rfl) (by decide) (by exact fun _ _ _ h => h) ⟨A7, .inl (by kernel_rfl)⟩ (Or.inl ⟨by rfl, ?_⟩) ?_
        rotate_left
        · (intro w' _; go_simp <;> with_reducible rfl)
        try simp only [Act.put, List.setIfInBounds_toArray, List.set_cons_zero, List.set_cons_succ]
        refine wpAnyF_ready (rs := [9]) (by kernel_rfl) (by simp) ?_
        refine AllReadyF.last (by (simp only [List.getElem?_toArray, List.getElem?_cons_succ, List.getElem?_cons_zero]; rfl)) (by kernel_rfl) (fun K hK => ?_) AllReadyF.nil
        go_simp
        refine hK.out _ _ (A8 _) ?_
        clear hK K
        try simp only [Act.put, List.setIfInBounds_toArray, List.set_cons_zero, List.set_cons_succ]
        refine wpAnyF_done (by kernel_rfl) ?_ _
        go_wp2
        go_end0
        have hnp7 : (Value.slice A9 ((mem.length - 1) + 1) c9).ownBlock ≠ some pm := fun e => by
          rcases m7 with e7 | ⟨x, e7, hx⟩
          · rw [e7] at e; exact hnep e
          · rw [e7] at e; simp only [Option.some.injEq] at e; have := kpd.lt; simp at hx; omega
        refine ⟨_, rfl, by have := kp7.set_ 0 (.slice A9 ((mem.length - 1) + 1) c9); simpa using this, ?_, ?_, hnp7, B7.set_ (.inl rfl) 0 _⟩
        · rw [← HL.out]
          rw [← HLn.out]
          exact ownsRow_setCell_other o7 hnp7 _
        · exact moved_trans hMv m7 (by have := Bd.size; simp; omega)
end Go.Proofs.YtnnfkmjhaljplaaGreat
