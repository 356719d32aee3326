/- An argument that is a verdict, opened to what it reads as. -/
import Derived.Test.YtnnfkmjhaljplaaOpen
import Derived.Test.YtnnfkmjhaljplaaOpenP
import Derived.Test.YtnnfkmjhaljplaaOpenW
import Derived.Test.YtnnfkmjhaljplaaVerS
namespace Go.Proofs.Ytnnfkmjhaljplaa
open Go.RowKit Go.Deep Go.ChangeShapes Go.WideShapes
set_option maxRecDepth 100000

section
variable {H : Type} {enc : TypeId × Value → H} {w : World} {base : Nat} {held : Bool}
theorem cells_verdict : Try.prog.cellsOf 52 = 6 := by kernel_rfl
theorem cells_vBool : Try.prog.cellsOf 4 = 1 := by kernel_rfl
theorem cells_vBytes : Try.prog.cellsOf 22 = 1 := by kernel_rfl
theorem cells_vSteps : Try.prog.cellsOf 49 = 1 := by kernel_rfl
theorem cells_vLists : Try.prog.cellsOf 50 = 1 := by kernel_rfl
theorem cells_vInts : Try.prog.cellsOf 41 = 1 := by kernel_rfl
theorem list6 {α : Type} {l : List α} (h : l.length = 6) : ∃ a b c d e f, l = [a, b, c, d, e, f] := by
  match l, h with
  | [a, b, c, d, e, f], _ => exact ⟨a, b, c, d, e, f, rfl⟩
/-- A verdict that came in by value. -/
theorem verdict_of {r : Reach} {b0 : Nat} {v : Value} {d : DataW H} {p : List MemPlace} (hv : Value.okWide Try.prog w r b0 52 v) (h : DataW.Trod enc Try.prog w base (fun _ => true) held 52 v d p) :
    ∃ (x : Vd) (A0 A1 A2 A3 : Option Addr) (c0 c1 c2 c3 : Nat), v = vdV x A0 c0 A1 c1 A2 c2 A3 c3 ∧ LenVd maxLen x ∧ (∀ n ∈ x.f, (Lit.int .u8 n).wf = true) ∧ RdVd w w.heap.size A0 A1 A2 A3 x := by
  obtain ⟨cs, rfl, _⟩ := okWide_struct Try.underlying52 hv
  obtain ⟨fuel, hf⟩ := h
  obtain ⟨l⟩ := cs
  obtain ⟨xs, n, _, _, hlen, hxl, hg⟩ := DataW.trod_struct Try.underlying52 hf
  rw [cells_verdict] at hlen
  obtain ⟨a0, a1, a2, a3, a4, a5, rfl⟩ := list6 (l := l) (by simpa [Value.cells] using hlen)
  obtain ⟨y0, y1, y2, y3, y4, y5, rfl⟩ := list6 (l := xs) hxl
  have h0 : DataW.trod enc Try.prog w base (fun _ => true) held n 2 (([a0, a1, a2, a3, a4, a5].drop 0).take (Try.prog.cellsOf 2)) = some y0 := hg 0 _ rfl
  have h1 : DataW.trod enc Try.prog w base (fun _ => true) held n 4 (([a0, a1, a2, a3, a4, a5].drop 1).take (Try.prog.cellsOf 4)) = some y1 := hg 1 _ rfl
  have h2 : DataW.trod enc Try.prog w base (fun _ => true) held n 22 (([a0, a1, a2, a3, a4, a5].drop 2).take (Try.prog.cellsOf 22)) = some y2 := hg 2 _ rfl
  have h3 : DataW.trod enc Try.prog w base (fun _ => true) held n 49 (([a0, a1, a2, a3, a4, a5].drop 3).take (Try.prog.cellsOf 49)) = some y3 := hg 3 _ rfl
  have h4 : DataW.trod enc Try.prog w base (fun _ => true) held n 50 (([a0, a1, a2, a3, a4, a5].drop 4).take (Try.prog.cellsOf 50)) = some y4 := hg 4 _ rfl
  have h5 : DataW.trod enc Try.prog w base (fun _ => true) held n 41 (([a0, a1, a2, a3, a4, a5].drop 5).take (Try.prog.cellsOf 41)) = some y5 := hg 5 _ rfl
  rw [cells_int64] at h0
  rw [cells_vBool] at h1
  rw [cells_vBytes] at h2
  rw [cells_vSteps] at h3
  rw [cells_vLists] at h4
  rw [cells_vInts] at h5
  obtain ⟨k, rfl, _⟩ := one_int (v := a0) h0
  obtain ⟨bb, hb, _⟩ := DataW.trod_bool Try.underlying4 (show DataW.trod enc Try.prog w base (fun _ => true) held n 4 [a1] = some y1 from h1)
  obtain rfl : a1 = .bool bb := List.head_eq_of_cons_eq hb
  have h3' : DataW.trod enc Try.prog w base (fun _ => true) held n 49 [a3] = some y3 := h3
  have h4' : DataW.trod enc Try.prog w base (fun _ => true) held n 50 [a4] = some y4 := h4
  have h2' : DataW.trod enc Try.prog w base (fun _ => true) held n 22 [a2] = some y2 := h2
  have h5' : DataW.trod enc Try.prog w base (fun _ => true) held n 41 [a5] = some y5 := h5
  have s3 : ∃ b l c, a3 = .slice b l c := by
    rcases open_slice Try.underlying49 h3' with ⟨hcs, _⟩ | ⟨b, l, c, _, _, _, _, hcs, _⟩
    · exact ⟨none, 0, 0, by simpa using hcs⟩
    · exact ⟨some b, l, c, by simpa using hcs⟩
  have s4 : ∃ b l c, a4 = .slice b l c := by
    rcases open_slice Try.underlying50 h4' with ⟨hcs, _⟩ | ⟨b, l, c, _, _, _, _, hcs, _⟩
    · exact ⟨none, 0, 0, by simpa using hcs⟩
    · exact ⟨some b, l, c, by simpa using hcs⟩
  obtain ⟨A0, c0, f, rfl, hf0, rf, xf⟩ : ∃ (A0 : Option Addr) (c0 : Nat) (f : List Int), a2 = .slice A0 f.length c0 ∧ f.length ≤ maxLen ∧ Rd .u8 w w.heap.size A0 f ∧ ∀ n ∈ f, (Lit.int .u8 n).wf = true := by
    rcases open_ints Try.underlying22 Try.underlying5 (by kernel_rfl) h2' with ⟨hcs, _⟩ | ⟨x, l, c, zs, hcs, _, hl, hm, hz, _, hcell, hwz⟩
    · obtain rfl : a2 = .slice none 0 0 := List.head_eq_of_cons_eq hcs
      obtain ⟨f, q1, q2, q3, q4⟩ := Rd.of_row (k := .u8) (w := w) (a := none) (len := 0) (cap := 0) (zs := []) (.inl ⟨rfl, rfl, rfl, rfl⟩)
      exact ⟨none, 0, f, by rw [← q1], q2, q3, q4⟩
    · obtain rfl : a2 = .slice (some x) l c := List.head_eq_of_cons_eq hcs
      obtain ⟨f, q1, q2, q3, q4⟩ := Rd.of_row (k := .u8) (w := w) (a := some x) (len := l) (cap := c) (zs := zs) (.inr ⟨_, rfl, hl, hm, by simpa using hz, hcell, hwz⟩)
      exact ⟨some x, c, f, by rw [← q1], q2, q3, q4⟩
  obtain ⟨A3, c3, z, rfl, hz0, rz, _⟩ : ∃ (A0 : Option Addr) (c0 : Nat) (f : List Int), a5 = .slice A0 f.length c0 ∧ f.length ≤ maxLen ∧ Rd .i64 w w.heap.size A0 f ∧ ∀ n ∈ f, (Lit.int .i64 n).wf = true := by
    rcases open_ints Try.underlying41 Try.underlying2 (by kernel_rfl) h5' with ⟨hcs, _⟩ | ⟨x, l, c, zs, hcs, _, hl, hm, hz, _, hcell, hwz⟩
    · obtain rfl : a5 = .slice none 0 0 := List.head_eq_of_cons_eq hcs
      obtain ⟨f, q1, q2, q3, q4⟩ := Rd.of_row (k := .i64) (w := w) (a := none) (len := 0) (cap := 0) (zs := []) (.inl ⟨rfl, rfl, rfl, rfl⟩)
      exact ⟨none, 0, f, by rw [← q1], q2, q3, q4⟩
    · obtain rfl : a5 = .slice (some x) l c := List.head_eq_of_cons_eq hcs
      obtain ⟨f, q1, q2, q3, q4⟩ := Rd.of_row (k := .i64) (w := w) (a := some x) (len := l) (cap := c) (zs := zs) (.inr ⟨_, rfl, hl, hm, by simpa using hz, hcell, hwz⟩)
      exact ⟨some x, c, f, by rw [← q1], q2, q3, q4⟩
  obtain ⟨A1, l1, c1, rfl⟩ := s3
  obtain ⟨A2, l2, c2, rfl⟩ := s4
  obtain ⟨ss, rfl, p1, p2, p3, _⟩ := steps_of h3'
  obtain ⟨os, rfl, r1, r2, r3⟩ := wls_of h4'
  exact ⟨⟨k, bb, f, ss, os, z⟩, A0, A1, A2, A3, c0, c1, c2, c3, rfl, ⟨hf0, Nat.le_trans p1 p2, Nat.le_trans r1 r2, hz0⟩, xf, rf, p3, r3, rz⟩
end
end Go.Proofs.Ytnnfkmjhaljplaa
