/- An argument that is a frame, opened to what it reads as. -/
import Derived.Test.YtkeifkdaddmkfaaDoorOpen
import Derived.Test.YtkeifkdaddmkfaaDoorFr
namespace Go.Proofs.YtkeifkdaddmkfaaDoor
open Go.RowKit Go.Deep Go.ChangeShapes Go.WideShapes
set_option maxRecDepth 100000

section
variable {H : Type} {enc : TypeId × Value → H} {w : World} {base : Nat} {spare : Nat → Bool} {held : Bool}
theorem cells_frame : Tryd.prog.cellsOf 43 = 2 := by kernel_rfl
theorem cells_eventS : Tryd.prog.cellsOf 41 = 1 := by kernel_rfl
theorem list2 {α : Type} {l : List α} (h : l.length = 2) : ∃ a b, l = [a, b] := by
  match l, h with
  | [a, b], _ => exact ⟨a, b, rfl⟩
/-- A frame that came in by value. -/
theorem frame_of {r : Reach} {b0 : Nat} {v : Value} {d : DataW H} {p : List MemPlace} (hv : Value.okWide Tryd.prog w r b0 43 v) (h : DataW.Trod enc Tryd.prog w base spare held 43 v d p) :
    ∃ (k : Int) (es : List Ev) (a : Option Addr) (c : Nat), v = frV k a es.length c ∧ I64 k ∧ es.length ≤ c ∧ c ≤ maxLen ∧ RdE w w.heap.size a es ∧ OkE es := by
  obtain ⟨cs, rfl, _⟩ := okWide_struct Tryd.underlying43 hv
  obtain ⟨fuel, hf⟩ := h
  obtain ⟨l⟩ := cs
  obtain ⟨xs, n, _, _, hlen, hxl, hg⟩ := DataW.trod_struct Tryd.underlying43 hf
  rw [cells_frame] at hlen
  obtain ⟨c0, c1, rfl⟩ := list2 (l := l) (by simpa [Value.cells] using hlen)
  obtain ⟨y0, y1, rfl⟩ := list2 (l := xs) hxl
  have h0 : DataW.trod enc Tryd.prog w base spare held n 2 (([c0, c1].drop 0).take (Tryd.prog.cellsOf 2)) = some y0 := hg 0 _ rfl
  have h1 : DataW.trod enc Tryd.prog w base spare held n 41 (([c0, c1].drop 1).take (Tryd.prog.cellsOf 41)) = some y1 := hg 1 _ rfl
  rw [cells_int64] at h0
  rw [cells_eventS] at h1
  obtain ⟨k, rfl, hk⟩ := one_int (v := c0) h0
  have h1' : DataW.trod enc Tryd.prog w base spare held n 41 [c1] = some y1 := h1
  have hsl : ∃ b l c, c1 = .slice b l c := by
    rcases open_slice Tryd.underlying41 h1' with ⟨hcs, _⟩ | ⟨b, l, c, _, _, _, _, hcs, _⟩
    · exact ⟨none, 0, 0, by simpa using hcs⟩
    · exact ⟨some b, l, c, by simpa using hcs⟩
  obtain ⟨b, l, c, rfl⟩ := hsl
  obtain ⟨es, rfl, z1, z2, z3, z4⟩ := events_of h1'
  exact ⟨k, es, b, c, rfl, hk, z1, z2, z3, z4⟩
end
end Go.Proofs.YtkeifkdaddmkfaaDoor
