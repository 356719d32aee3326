/- Arguments that are slices of events, and slices of these, opened to what they read as. -/
import Derived.Test.YtldepledinolmaaGreatDoorChecked
import Derived.Test.YtldepledinolmaaGreatDoorGBase
import Derived.Deep.Slices
import Derived.Deep.Fields
import Derived.ProofKit
namespace Go.Proofs.YtldepledinolmaaGreatDoor
open Go.RowKit Go.Deep Go.ChangeShapes Go.WideShapes
set_option maxRecDepth 100000

section
variable {H : Type} {enc : TypeId × Value → H} {w : World} {base : Nat} {spare : Nat → Bool} {held : Bool}
instance : Inhabited Ev := ⟨⟨0, 0, 0⟩⟩

theorem cells_event : Tryz.prog.cellsOf 125 = 3 := by kernel_rfl
theorem cells_int64 : Tryz.prog.cellsOf 2 = 1 := by kernel_rfl
theorem one_int {fuel : Nat} {v : Value} {x : DataW H × List MemPlace} (h : DataW.trod enc Tryz.prog w base spare held fuel 2 [v] = some x) : ∃ n, v = .int .i64 n ∧ I64 n := by
  obtain ⟨n, hv, _, hw⟩ := DataW.trod_int Tryz.underlying2 h
  have hb := bounds_i64 hw
  have h1 : v = .int .i64 n := List.head_eq_of_cons_eq hv
  exact ⟨n, h1, hb⟩
theorem list3 {α : Type} {l : List α} (h : l.length = 3) : ∃ a b c, l = [a, b, c] := by
  match l, h with
  | [a, b, c], _ => exact ⟨a, b, c, rfl⟩
theorem event_cells {fuel : Nat} {cs : List Value} {x : DataW H × List MemPlace} (h : DataW.trod enc Tryz.prog w base spare held fuel 125 cs = some x) : ∃ e : Ev, cs = [.int .i64 e.k, .int .i64 e.a, .int .i64 e.v] ∧ e.ok := by
  obtain ⟨xs, n, _, _, hlen, hxl, hf⟩ := DataW.trod_struct Tryz.underlying125 h
  rw [cells_event] at hlen
  obtain ⟨c0, c1, c2, rfl⟩ := list3 hlen
  obtain ⟨y0, y1, y2, rfl⟩ := list3 (l := xs) hxl
  have h0 : DataW.trod enc Tryz.prog w base spare held n 2 (([c0, c1, c2].drop 0).take (Tryz.prog.cellsOf 2)) = some y0 := hf 0 _ rfl
  have h1 : DataW.trod enc Tryz.prog w base spare held n 2 (([c0, c1, c2].drop 1).take (Tryz.prog.cellsOf 2)) = some y1 := hf 1 _ rfl
  have h2 : DataW.trod enc Tryz.prog w base spare held n 2 (([c0, c1, c2].drop 2).take (Tryz.prog.cellsOf 2)) = some y2 := hf 2 _ rfl
  rw [cells_int64] at h0 h1 h2
  obtain ⟨k, rfl, hk⟩ := one_int (v := c0) h0
  obtain ⟨a, rfl, ha⟩ := one_int (v := c1) h1
  obtain ⟨v, rfl, hv⟩ := one_int (v := c2) h2
  exact ⟨⟨k, a, v⟩, rfl, hk, ha, hv⟩

/-- An event that came in by value. -/
theorem event_of {r : Reach} {b0 : Nat} {v : Value} {d : DataW H} {p : List MemPlace} (hv : Value.okWide Tryz.prog w r b0 125 v) (h : DataW.Trod enc Tryz.prog w base spare held 125 v d p) :
    ∃ e : Ev, v = .agg #[.int .i64 e.k, .int .i64 e.a, .int .i64 e.v] ∧ e.ok := by
  obtain ⟨cs, rfl, _⟩ := okWide_struct Tryz.underlying125 hv
  obtain ⟨fuel, hf⟩ := h
  obtain ⟨e, he, ho⟩ := event_cells hf
  refine ⟨e, ?_, ho⟩
  obtain ⟨l⟩ := cs
  simp [Value.cells] at he
  rw [he]

/-- A slice of events that came in. -/
theorem events_of {fuel : Nat} {a : Option Addr} {len cap : Nat} {x : DataW H × List MemPlace} (h : DataW.trod enc Tryz.prog w base spare held fuel 88 [.slice a len cap] = some x) :
    ∃ es : List Ev, len = es.length ∧ es.length ≤ cap ∧ cap ≤ maxLen ∧ RdE w w.heap.size a es ∧ OkE es := by
  rcases open_slice Tryz.underlying88 h with ⟨hcs, _⟩ | ⟨a', len', cap', m, n, D, Pl, hcs, _, hl, hm, hmm, _, hx⟩
  · simp only [List.cons.injEq, Value.slice.injEq, and_true] at hcs
    obtain ⟨rfl, rfl, rfl⟩ := hcs
    exact ⟨[], rfl, by simp, by simp, RdE.nil_, OkE.nil_⟩
  · simp only [List.cons.injEq, Value.slice.injEq, and_true] at hcs
    obtain ⟨rfl, rfl, rfl⟩ := hcs
    have hle : len ≤ m := by rw [hmm]; split <;> omega
    obtain ⟨f, hf⟩ := choose_lt (α := Ev) (n := len) (p := fun i e => e.ok ∧ w.cell? (a'.add (i * 3)) = some (.int .i64 e.k) ∧ w.cell? (a'.add (i * 3 + 1)) = some (.int .i64 e.a) ∧ w.cell? (a'.add (i * 3 + 2)) = some (.int .i64 e.v)) (fun i hi => by
      obtain ⟨cs, hc, ht⟩ := hx i (by omega)
      obtain ⟨e, rfl, he⟩ := event_cells ht
      rw [cells_event] at hc
      obtain ⟨_, _, hat⟩ := World.cells?_some hc
      have q0 := hat 0 (by omega)
      have q1 := hat 1 (by omega)
      have q2 := hat 2 (by omega)
      rw [add_add] at q0 q1 q2
      exact ⟨e, he, q0, q1, q2⟩)
    refine ⟨(List.range len).map f, by simp, by simpa using hl, hm, ?_, ?_⟩
    · intro h0
      rw [evs_length, List.length_map, List.length_range] at h0
      obtain ⟨b, off, spot⟩ := a'
      have hspot : spot = none := by simpa [Addr.add] using World.cell?_spot (hf 0 (by omega)).2.1
      subst hspot
      refine ⟨b, off, rfl, ?_, ?_⟩
      · have := (hf 0 (by omega)).2.1
        rw [add_plain] at this
        exact block_lt_of_cell this
      · intro i hi
        have hi' : i < len * 3 := by rw [evs_length, List.length_map, List.length_range] at hi; exact hi
        obtain ⟨q, hq0, hr⟩ : ∃ q, q < len ∧ (i = q * 3 ∨ i = q * 3 + 1 ∨ i = q * 3 + 2) := ⟨i / 3, by omega, by omega⟩
        have hq := evs_get ((List.range len).map f) q (by simpa using hq0)
        have hc := hf q hq0
        simp only [add_plain, List.getElem_map, List.getElem_range] at hc hq
        have key : w.cell? ⟨b, off + i, none⟩ = (evs ((List.range len).map f))[i]? := by
          rcases hr with rfl | rfl | rfl
          · rw [hc.2.1, hq.1]
          · rw [hc.2.2.1, hq.2.1]
          · rw [hc.2.2.2, hq.2.2]
        rw [key, List.getElem?_eq_getElem hi]
    · intro e he
      obtain ⟨i, hi, rfl⟩ := List.mem_map.1 he
      exact (hf i (by simpa using hi)).1
/-- A slice of slices of events that came in. -/
def OkT (t : List (List Ev)) : Prop := ∀ l ∈ t, OkE l
theorem trace_of {fuel : Nat} {a : Option Addr} {len cap : Nat} {x : DataW H × List MemPlace} (h : DataW.trod enc Tryz.prog w base spare held fuel 44 [.slice a len cap] = some x) :
    ∃ t : List (List Ev), len = t.length ∧ t.length ≤ cap ∧ cap ≤ maxLen ∧ RdT w w.heap.size a t ∧ OkT t := by
  rcases open_slice1 Tryz.underlying44 (by kernel_rfl) h with ⟨hcs, _⟩ | ⟨a', len', cap', m, n, V, D, Pl, hcs, _, hl, hm, hmm, _, hx⟩
  · simp only [List.cons.injEq, Value.slice.injEq, and_true] at hcs
    obtain ⟨rfl, rfl, rfl⟩ := hcs
    exact ⟨[], rfl, by simp, by simp, RdT.nil_, fun l hl => by simp at hl⟩
  · simp only [List.cons.injEq, Value.slice.injEq, and_true] at hcs
    obtain ⟨rfl, rfl, rfl⟩ := hcs
    have hle : len ≤ m := by rw [hmm]; split <;> omega
    obtain ⟨f, hf⟩ := choose_lt (α := List Ev) (n := len) (p := fun i l => OkE l ∧ ∃ b c, w.cell? (a'.add i) = some (.slice b l.length c) ∧ l.length ≤ c ∧ c ≤ maxLen ∧ RdE w w.heap.size b l) (fun i hi => by
      obtain ⟨hc, ht⟩ := hx i (by omega)
      have hsl : ∃ b l c, V i = .slice b l c := by
        rcases open_slice Tryz.underlying88 ht with ⟨hcs, _⟩ | ⟨b, l, c, _, _, _, _, hcs, _⟩
        · exact ⟨none, 0, 0, by simpa using hcs⟩
        · exact ⟨some b, l, c, by simpa using hcs⟩
      obtain ⟨b, l, c, hv⟩ := hsl
      rw [hv] at hc ht
      obtain ⟨es, rfl, h1, h2, h3, h4⟩ := events_of ht
      exact ⟨es, h4, b, c, hc, h1, h2, h3⟩)
    refine ⟨(List.range len).map f, by simp, by simpa using hl, hm, ?_, ?_⟩
    · intro h0
      rw [List.length_map, List.length_range] at h0
      obtain ⟨b, off, spot⟩ := a'
      obtain ⟨_, b0, c0, q0, _⟩ := hf 0 h0
      have hspot : spot = none := by simpa [Addr.add] using World.cell?_spot q0
      subst hspot
      rw [add_plain] at q0
      refine ⟨b, off, rfl, block_lt_of_cell q0, fun i hi => ?_⟩
      have hi' : i < len := by simpa using hi
      obtain ⟨_, b1, c1, q1, q2, q3, q4⟩ := hf i hi'
      rw [add_plain] at q1
      simp only [List.getElem_map, List.getElem_range]
      exact ⟨b1, c1, q1, q2, q3, q4⟩
    · intro l hl
      obtain ⟨i, hi, rfl⟩ := List.mem_map.1 hl
      exact (hf i (by simpa using hi)).1
end
end Go.Proofs.YtldepledinolmaaGreatDoor
