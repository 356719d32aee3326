/- Arguments that are slices of events, and slices of these, opened to what they read as. -/
import Derived.Test.YtnnfkmjhaljplaaChecked
import Derived.Test.YtnnfkmjhaljplaaGBase
import Derived.Deep.Slices
import Derived.Deep.Fields
import Derived.ProofKit
namespace Go.Proofs.Ytnnfkmjhaljplaa
open Go.RowKit Go.Deep Go.ChangeShapes Go.WideShapes
set_option maxRecDepth 100000

section
variable {H : Type} {enc : TypeId × Value → H} {w : World} {base : Nat} {spare : Nat → Bool} {held : Bool}
instance : Inhabited Ev := ⟨⟨0, 0, 0⟩⟩

theorem cells_event : Try.prog.cellsOf 156 = 3 := by kernel_rfl
theorem cells_int64 : Try.prog.cellsOf 2 = 1 := by kernel_rfl
theorem one_int {fuel : Nat} {v : Value} {x : DataW H × List MemPlace} (h : DataW.trod enc Try.prog w base spare held fuel 2 [v] = some x) : ∃ n, v = .int .i64 n ∧ I64 n := by
  obtain ⟨n, hv, _, hw⟩ := DataW.trod_int Try.underlying2 h
  have hb := bounds_i64 hw
  have h1 : v = .int .i64 n := List.head_eq_of_cons_eq hv
  exact ⟨n, h1, hb⟩
theorem list3 {α : Type} {l : List α} (h : l.length = 3) : ∃ a b c, l = [a, b, c] := by
  match l, h with
  | [a, b, c], _ => exact ⟨a, b, c, rfl⟩
theorem event_cells {fuel : Nat} {cs : List Value} {x : DataW H × List MemPlace} (h : DataW.trod enc Try.prog w base spare held fuel 156 cs = some x) : ∃ e : Ev, cs = [.int .i64 e.k, .int .i64 e.a, .int .i64 e.v] ∧ e.ok := by
  obtain ⟨xs, n, _, _, hlen, hxl, hf⟩ := DataW.trod_struct Try.underlying156 h
  rw [cells_event] at hlen
  obtain ⟨c0, c1, c2, rfl⟩ := list3 hlen
  obtain ⟨y0, y1, y2, rfl⟩ := list3 (l := xs) hxl
  have h0 : DataW.trod enc Try.prog w base spare held n 2 (([c0, c1, c2].drop 0).take (Try.prog.cellsOf 2)) = some y0 := hf 0 _ rfl
  have h1 : DataW.trod enc Try.prog w base spare held n 2 (([c0, c1, c2].drop 1).take (Try.prog.cellsOf 2)) = some y1 := hf 1 _ rfl
  have h2 : DataW.trod enc Try.prog w base spare held n 2 (([c0, c1, c2].drop 2).take (Try.prog.cellsOf 2)) = some y2 := hf 2 _ rfl
  rw [cells_int64] at h0 h1 h2
  obtain ⟨k, rfl, hk⟩ := one_int (v := c0) h0
  obtain ⟨a, rfl, ha⟩ := one_int (v := c1) h1
  obtain ⟨v, rfl, hv⟩ := one_int (v := c2) h2
  exact ⟨⟨k, a, v⟩, rfl, hk, ha, hv⟩

/-- An event that came in by value. -/
theorem event_of {r : Reach} {b0 : Nat} {v : Value} {d : DataW H} {p : List MemPlace} (hv : Value.okWide Try.prog w r b0 156 v) (h : DataW.Trod enc Try.prog w base spare held 156 v d p) :
    ∃ e : Ev, v = .agg #[.int .i64 e.k, .int .i64 e.a, .int .i64 e.v] ∧ e.ok := by
  obtain ⟨cs, rfl, _⟩ := okWide_struct Try.underlying156 hv
  obtain ⟨fuel, hf⟩ := h
  obtain ⟨e, he, ho⟩ := event_cells hf
  refine ⟨e, ?_, ho⟩
  obtain ⟨l⟩ := cs
  simp [Value.cells] at he
  rw [he]

/-- A slice of slices of events that came in. -/
def OkT (t : List (List Ev)) : Prop := ∀ l ∈ t, OkE l
end
end Go.Proofs.Ytnnfkmjhaljplaa
