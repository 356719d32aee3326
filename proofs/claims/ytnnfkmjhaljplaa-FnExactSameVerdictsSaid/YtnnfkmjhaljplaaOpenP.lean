/- Arguments that are slices of steps, opened to what they read as. -/
import Derived.Test.YtnnfkmjhaljplaaOpen
import Derived.Test.YtnnfkmjhaljplaaGMsi
namespace Go.Proofs.Ytnnfkmjhaljplaa
open Go.RowKit Go.Deep Go.ChangeShapes Go.WideShapes
set_option maxRecDepth 100000

section
variable {H : Type} {enc : TypeId × Value → H} {w : World} {base : Nat} {spare : Nat → Bool} {held : Bool}
instance : Inhabited Stp := ⟨⟨0, ⟨0, 0, 0⟩⟩⟩
theorem cells_step : Try.prog.cellsOf 158 = 4 := by kernel_rfl
theorem list4 {α : Type} {l : List α} (h : l.length = 4) : ∃ a b c d, l = [a, b, c, d] := by
  match l, h with
  | [a, b, c, d], _ => exact ⟨a, b, c, d, rfl⟩
theorem listP2 {α : Type} {l : List α} (h : l.length = 2) : ∃ a b, l = [a, b] := by
  match l, h with
  | [a, b], _ => exact ⟨a, b, rfl⟩
theorem step_cells {fuel : Nat} {cs : List Value} {x : DataW H × List MemPlace} (h : DataW.trod enc Try.prog w base spare held fuel 158 cs = some x) : ∃ s : Stp, cs = [.int .i64 s.c, .int .i64 s.e.k, .int .i64 s.e.a, .int .i64 s.e.v] ∧ stpOk s := by
  obtain ⟨xs, n, _, _, hlen, hxl, hf⟩ := DataW.trod_struct Try.underlying158 h
  rw [cells_step] at hlen
  obtain ⟨c0, c1, c2, c3, rfl⟩ := list4 hlen
  obtain ⟨y0, y1, rfl⟩ := listP2 (l := xs) hxl
  have h0 : DataW.trod enc Try.prog w base spare held n 2 (([c0, c1, c2, c3].drop 0).take (Try.prog.cellsOf 2)) = some y0 := hf 0 _ rfl
  have h1 : DataW.trod enc Try.prog w base spare held n 156 (([c0, c1, c2, c3].drop 1).take (Try.prog.cellsOf 156)) = some y1 := hf 1 _ rfl
  rw [cells_int64] at h0
  rw [cells_event] at h1
  obtain ⟨c, rfl, hc⟩ := one_int (v := c0) h0
  obtain ⟨e, he, ho⟩ := event_cells h1
  simp only [List.drop_succ_cons, List.drop_zero, List.take_succ_cons, List.take_zero, List.cons.injEq, and_true] at he
  obtain ⟨rfl, rfl, rfl⟩ := he
  exact ⟨⟨c, e⟩, rfl, hc, ho⟩
/-- A slice of steps that came in. -/
theorem steps_of {fuel : Nat} {a : Option Addr} {len cap : Nat} {x : DataW H × List MemPlace} (h : DataW.trod enc Try.prog w base spare held fuel 49 [.slice a len cap] = some x) :
    ∃ ss : List Stp, len = ss.length ∧ ss.length ≤ cap ∧ cap ≤ maxLen ∧ RdP w w.heap.size a ss ∧ OkP ss := by
  rcases open_slice Try.underlying49 h with ⟨hcs, _⟩ | ⟨a', len', cap', m, n, D, Pl, hcs, _, hl, hm, hmm, _, hx⟩
  · simp only [List.cons.injEq, Value.slice.injEq, and_true] at hcs
    obtain ⟨rfl, rfl, rfl⟩ := hcs
    exact ⟨[], rfl, by simp, by simp, RdP.nil_, fun s hs => by simp at hs⟩
  · simp only [List.cons.injEq, Value.slice.injEq, and_true] at hcs
    obtain ⟨rfl, rfl, rfl⟩ := hcs
    have hle : len ≤ m := by rw [hmm]; split <;> omega
    obtain ⟨f, hf⟩ := choose_lt (α := Stp) (n := len) (p := fun i s => stpOk s ∧ w.cell? (a'.add (i * 4)) = some (.int .i64 s.c) ∧ w.cell? (a'.add (i * 4 + 1)) = some (.int .i64 s.e.k) ∧ w.cell? (a'.add (i * 4 + 2)) = some (.int .i64 s.e.a) ∧ w.cell? (a'.add (i * 4 + 3)) = some (.int .i64 s.e.v)) (fun i hi => by
      obtain ⟨cs, hc, ht⟩ := hx i (by omega)
      obtain ⟨s, rfl, he⟩ := step_cells ht
      rw [cells_step] at hc
      obtain ⟨_, _, hat⟩ := World.cells?_some hc
      have q0 := hat 0 (by omega)
      have q1 := hat 1 (by omega)
      have q2 := hat 2 (by omega)
      have q3 := hat 3 (by omega)
      rw [add_add] at q0 q1 q2 q3
      exact ⟨s, he, q0, q1, q2, q3⟩)
    refine ⟨(List.range len).map f, by simp, by simpa using hl, hm, ?_, ?_⟩
    · intro h0
      rw [stps_length, List.length_map, List.length_range] at h0
      obtain ⟨b, off, spot⟩ := a'
      have hspot : spot = none := by simpa [Addr.add] using World.cell?_spot (hf 0 (by omega)).2.1
      subst hspot
      refine ⟨b, off, rfl, ?_, ?_⟩
      · have := (hf 0 (by omega)).2.1
        rw [add_plain] at this
        exact block_lt_of_cell this
      · intro i hi
        have hi' : i < len * 4 := by rw [stps_length, List.length_map, List.length_range] at hi; exact hi
        obtain ⟨q, hq0, hr⟩ : ∃ q, q < len ∧ (i = q * 4 ∨ i = q * 4 + 1 ∨ i = q * 4 + 2 ∨ i = q * 4 + 3) := ⟨i / 4, by omega, by omega⟩
        have hq := stps_get ((List.range len).map f) q (by simpa using hq0)
        have hc := hf q hq0
        simp only [add_plain, List.getElem_map, List.getElem_range] at hc hq
        have key : w.cell? ⟨b, off + i, none⟩ = (stps ((List.range len).map f))[i]? := by
          rcases hr with rfl | rfl | rfl | rfl
          · rw [hc.2.1, hq.1]
          · rw [hc.2.2.1, hq.2.1]
          · rw [hc.2.2.2.1, hq.2.2.1]
          · rw [hc.2.2.2.2, hq.2.2.2]
        rw [key, List.getElem?_eq_getElem hi]
    · intro s hs
      obtain ⟨i, hi, rfl⟩ := List.mem_map.1 hs
      exact (hf i (by simpa using hi)).1
end
end Go.Proofs.Ytnnfkmjhaljplaa
