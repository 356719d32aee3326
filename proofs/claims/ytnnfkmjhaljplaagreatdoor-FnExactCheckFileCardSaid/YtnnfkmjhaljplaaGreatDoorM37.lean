/- What the laws' walks rest upon, part 37. -/
import Derived.Test.YtnnfkmjhaljplaaGreatDoorM36
import Derived.Test.YtnnfkmjhaljplaaGreatDoorM19
namespace Go.Proofs.YtnnfkmjhaljplaaGreatDoor
open Go.RowKit Go.Deep Go.ChangeShapes Go.WideShapes
set_option maxRecDepth 100000
section
variable {H : Type} {enc : TypeId × Value → H} {w : World} {base : Nat} {spare : Nat → Bool} {held : Bool}
instance : Inhabited Wid := ⟨⟨0, 0⟩⟩
instance : Inhabited Wls := ⟨⟨0, []⟩⟩
theorem listW2 {α : Type} {l : List α} (h : l.length = 2) : ∃ a b, l = [a, b] := by
  match l, h with
  | [a, b], _ => exact ⟨a, b, rfl⟩
theorem cells_wid : Tryz.prog.cellsOf 308 = 2 := by kernel_rfl
theorem wid_cells {fuel : Nat} {cs : List Value} {x : DataW H × List MemPlace} (h : DataW.trod enc Tryz.prog w base spare held fuel 308 cs = some x) : ∃ e : Wid, cs = [.int .i64 e.c, .int .i64 e.i] ∧ (I64 e.c ∧ I64 e.i) := by
  obtain ⟨xs, n, _, _, hlen, hxl, hf⟩ := DataW.trod_struct Tryz.underlying308 h
  rw [cells_wid] at hlen
  obtain ⟨c0, c1, rfl⟩ := listW2 hlen
  obtain ⟨y0, y1, rfl⟩ := listW2 (l := xs) hxl
  have h0 : DataW.trod enc Tryz.prog w base spare held n 2 (([c0, c1].drop 0).take (Tryz.prog.cellsOf 2)) = some y0 := hf 0 _ rfl
  have h1 : DataW.trod enc Tryz.prog w base spare held n 2 (([c0, c1].drop 1).take (Tryz.prog.cellsOf 2)) = some y1 := hf 1 _ rfl
  rw [cells_int64] at h0 h1
  obtain ⟨a, rfl, ha⟩ := one_int (v := c0) h0
  obtain ⟨v, rfl, hv⟩ := one_int (v := c1) h1
  exact ⟨⟨a, v⟩, rfl, ha, hv⟩
theorem ids_of {fuel : Nat} {a : Option Addr} {len cap : Nat} {x : DataW H × List MemPlace} (h : DataW.trod enc Tryz.prog w base spare held fuel 154 [.slice a len cap] = some x) :
    ∃ es : List Wid, len = es.length ∧ es.length ≤ cap ∧ cap ≤ maxLen ∧ RdC w w.heap.size a (wids es) := by
  rcases open_slice Tryz.underlying154 h with ⟨hcs, _⟩ | ⟨a', len', cap', m, n, D, Pl, hcs, _, hl, hm, hmm, _, hx⟩
  · simp only [List.cons.injEq, Value.slice.injEq, and_true] at hcs
    obtain ⟨rfl, rfl, rfl⟩ := hcs
    exact ⟨[], rfl, by simp, by simp, RdC.nil_⟩
  · simp only [List.cons.injEq, Value.slice.injEq, and_true] at hcs
    obtain ⟨rfl, rfl, rfl⟩ := hcs
    have hle : len ≤ m := by rw [hmm]; split <;> omega
    obtain ⟨f, hf⟩ := choose_lt (α := Wid) (n := len) (p := fun i e => w.cell? (a'.add (i * 2)) = some (.int .i64 e.c) ∧ w.cell? (a'.add (i * 2 + 1)) = some (.int .i64 e.i)) (fun i hi => by
      obtain ⟨cs, hc, ht⟩ := hx i (by omega)
      obtain ⟨e, rfl, he⟩ := wid_cells ht
      rw [cells_wid] at hc
      obtain ⟨_, _, hat⟩ := World.cells?_some hc
      have q0 := hat 0 (by omega)
      have q1 := hat 1 (by omega)
      rw [add_add] at q0 q1
      exact ⟨e, q0, q1⟩)
    refine ⟨(List.range len).map f, by simp, by simpa using hl, hm, ?_⟩
    intro h0
    rw [cels_length, wids_length, List.length_map, List.length_range] at h0
    obtain ⟨b, off, spot⟩ := a'
    have hspot : spot = none := by simpa [Addr.add] using World.cell?_spot (hf 0 (by omega)).1
    subst hspot
    refine ⟨b, off, rfl, ?_, ?_⟩
    · have := (hf 0 (by omega)).1
      rw [add_plain] at this
      exact block_lt_of_cell this
    · intro i hi
      have hi' : i < len * 2 := by rw [cels_length, wids_length, List.length_map, List.length_range] at hi; exact hi
      obtain ⟨q, hq0, hr⟩ : ∃ q, q < len ∧ (i = q * 2 ∨ i = q * 2 + 1) := ⟨i / 2, by omega, by omega⟩
      have hq := cels_get (wids ((List.range len).map f)) q (by rw [wids_length]; simpa using hq0)
      have hc := hf q hq0
      simp only [add_plain] at hc
      have key : w.cell? ⟨b, off + i, none⟩ = (cels (wids ((List.range len).map f)))[i]? := by
        rcases hr with rfl | rfl
        · rw [hc.1, hq.1]; simp [wids, wid]
        · rw [hc.2, hq.2]; simp [wids, wid]
      rw [key, List.getElem?_eq_getElem hi]
theorem cells_wl : Tryz.prog.cellsOf 156 = 2 := by kernel_rfl
theorem cells_widS : Tryz.prog.cellsOf 154 = 1 := by kernel_rfl
theorem wl_cells {fuel : Nat} {cs : List Value} {x : DataW H × List MemPlace} (h : DataW.trod enc Tryz.prog w base spare held fuel 156 cs = some x) : ∃ (e : Wls) (b : Option Addr) (c : Nat), cs = [.int .i64 e.a, .slice b e.ids.length c] ∧ e.ids.length ≤ c ∧ c ≤ maxLen ∧ RdC w w.heap.size b (wids e.ids) := by
  obtain ⟨xs, n, _, _, hlen, hxl, hf⟩ := DataW.trod_struct Tryz.underlying156 h
  rw [cells_wl] at hlen
  obtain ⟨c0, c1, rfl⟩ := listW2 hlen
  obtain ⟨y0, y1, rfl⟩ := listW2 (l := xs) hxl
  have h0 : DataW.trod enc Tryz.prog w base spare held n 2 (([c0, c1].drop 0).take (Tryz.prog.cellsOf 2)) = some y0 := hf 0 _ rfl
  have h1 : DataW.trod enc Tryz.prog w base spare held n 154 (([c0, c1].drop 1).take (Tryz.prog.cellsOf 154)) = some y1 := hf 1 _ rfl
  rw [cells_int64] at h0
  rw [cells_widS] at h1
  obtain ⟨a, rfl, ha⟩ := one_int (v := c0) h0
  have h1' : DataW.trod enc Tryz.prog w base spare held n 154 [c1] = some y1 := h1
  have hs1 : ∃ b l c, c1 = .slice b l c := by
    rcases open_slice Tryz.underlying154 h1' with ⟨hcs, _⟩ | ⟨b, l, c, _, _, _, _, hcs, _⟩
    · exact ⟨none, 0, 0, by simpa using hcs⟩
    · exact ⟨some b, l, c, by simpa using hcs⟩
  obtain ⟨b, l, c, rfl⟩ := hs1
  obtain ⟨es, rfl, z1, z2, z3⟩ := ids_of h1'
  exact ⟨⟨a, es⟩, b, c, rfl, z1, z2, z3⟩
theorem wls_of {fuel : Nat} {a : Option Addr} {len cap : Nat} {x : DataW H × List MemPlace} (h : DataW.trod enc Tryz.prog w base spare held fuel 70 [.slice a len cap] = some x) :
    ∃ os : List Wls, len = os.length ∧ os.length ≤ cap ∧ cap ≤ maxLen ∧ RdW w w.heap.size a os := by
  rcases open_slice Tryz.underlying70 h with ⟨hcs, _⟩ | ⟨a', len', cap', m, n, D, Pl, hcs, _, hl, hm, hmm, _, hx⟩
  · simp only [List.cons.injEq, Value.slice.injEq, and_true] at hcs
    obtain ⟨rfl, rfl, rfl⟩ := hcs
    exact ⟨[], rfl, by simp, by simp, RdW.nil_⟩
  · simp only [List.cons.injEq, Value.slice.injEq, and_true] at hcs
    obtain ⟨rfl, rfl, rfl⟩ := hcs
    have hle : len ≤ m := by rw [hmm]; split <;> omega
    obtain ⟨f, hf⟩ := choose_lt (α := Wls) (n := len) (p := fun i e => ∃ b c, w.cell? (a'.add (i * 2)) = some (.int .i64 e.a) ∧ w.cell? (a'.add (i * 2 + 1)) = some (.slice b e.ids.length c) ∧ e.ids.length ≤ c ∧ c ≤ maxLen ∧ RdC w w.heap.size b (wids e.ids)) (fun i hi => by
      obtain ⟨cs, hc, ht⟩ := hx i (by omega)
      obtain ⟨e, b, c, rfl, h1, h2, h3⟩ := wl_cells ht
      rw [cells_wl] at hc
      obtain ⟨_, _, hat⟩ := World.cells?_some hc
      have q0 := hat 0 (by omega)
      have q1 := hat 1 (by omega)
      rw [add_add] at q0 q1
      exact ⟨e, b, c, q0, q1, h1, h2, h3⟩)
    refine ⟨(List.range len).map f, by simp, by simpa using hl, hm, ?_⟩
    intro h0
    rw [List.length_map, List.length_range] at h0
    obtain ⟨b, off, spot⟩ := a'
    obtain ⟨_, _, q0, _⟩ := hf 0 h0
    have hspot : spot = none := by simpa [Addr.add] using World.cell?_spot q0
    subst hspot
    rw [add_plain] at q0
    refine ⟨b, off, rfl, block_lt_of_cell q0, fun i hi => ?_⟩
    have hi' : i < len := by simpa using hi
    obtain ⟨b1, c1, q1, q2, q3, q4, q5⟩ := hf i hi'
    rw [add_plain] at q1 q2
    simp only [List.getElem_map, List.getElem_range]
    exact ⟨q1, b1, c1, q2, q3, q4, q5⟩
end
end Go.Proofs.YtnnfkmjhaljplaaGreatDoor
