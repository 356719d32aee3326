/- Slices of strings, known as rows of numbers: what they read as; cut from a place on; a string laid behind the others. -/
import Derived.Test.YtmdaianbhpppfaaGreatDoorGTxA
import Derived.Test.YtmdaianbhpppfaaGreatDoorGPs
import Derived.Test.YtmdaianbhpppfaaGreatDoorGBase
import Derived.Maps.AppendAt
import Derived.Maps.Range
import Derived.OwnWalk
import Derived.Test.YtmdaianbhpppfaaGreatDoorProg
namespace Go.Proofs.YtmdaianbhpppfaaGreatDoor
open Go.RowKit

/-- Strings that lie in a row. -/
def sts (ls : List (List Int)) : List Value := ls.map fun x => .string (strOfNums x)
theorem sts_length (ls : List (List Int)) : (sts ls).length = ls.length := List.length_map _
theorem sts_app (a b : List (List Int)) : sts (a ++ b) = sts a ++ sts b := List.map_append
/-- Where a slice begins that is cut from place k on. -/
def cutW (A : Option Addr) (k c : Nat) : Option Addr := if c = k then A else A.map (·.add k)
/-- The slice address A leads to the strings ls, in a block below B. -/
def RdS (w : World) (B : Nat) (A : Option Addr) (ls : List (List Int)) : Prop := RdV w B A (sts ls)
section
variable {w w' : World} {B B' : Nat} {A : Option Addr} {ls : List (List Int)}
theorem RdS.nil_ : RdS w B A [] := RdV.nil_
theorem RdS.keep (h : RdS w B A ls) (hk : ∀ p : Addr, p.block < B → w'.cell? p = w.cell? p) : RdS w' B A ls := RdV.keep h hk
theorem RdS.more (h : RdS w B A ls) (hB : B ≤ B') : RdS w B' A ls := RdV.more h hB
theorem RdS.below (h : RdS w B A ls) (hb : Below B w w') : RdS w' B A ls := RdV.below h hb
theorem RdS.drew (h : RdS w B A ls) : RdS w.drew B A ls := h
theorem RdS.alloc (h : RdS w B A ls) (hB : B ≤ w.heap.size) (o : Obj) : RdS (w.alloc o) B A ls := RdV.alloc h hB o
theorem RdS.lt (h : RdS w B A ls) : RdS w w.heap.size A ls := RdV.lt h
theorem RdS.get (h : RdS w B A ls) {i : Nat} (hi : i < ls.length) : ∃ b off, A = some ⟨b, off, none⟩ ∧ b < B ∧ w.cell? ⟨b, off + i, none⟩ = some (.string (strOfNums ls[i])) := by
  obtain ⟨b, off, e, hb, hc⟩ := h (by rw [sts_length]; omega)
  exact ⟨b, off, e, hb, by have := hc i (by rw [sts_length]; exact hi); simpa [sts] using this⟩
theorem RdS.all (h : RdS w B A ls) (h0 : 0 < ls.length) : ∃ b off, A = some ⟨b, off, none⟩ ∧ b < B ∧ ∀ i, (hi : i < ls.length) → w.cell? ⟨b, off + i, none⟩ = some (.string (strOfNums ls[i])) := by
  obtain ⟨b, off, e, hb, hc⟩ := h (by rw [sts_length]; omega)
  exact ⟨b, off, e, hb, fun i hi => by have := hc i (by rw [sts_length]; exact hi); simpa [sts] using this⟩
theorem RdS.cut (h : RdS w B A ls) {n c : Nat} (hn : n ≤ ls.length) (hc : ls.length ≤ c) : RdS w B (cutW A n c) (ls.drop n) := by
  intro h0
  have h1 : n < ls.length := by rw [sts_length, List.length_drop] at h0; omega
  obtain ⟨b, off, rfl, hb, hx⟩ := h.all (by omega)
  refine ⟨b, off + n, ?_, hb, fun i hi => ?_⟩
  · unfold cutW
    rw [if_neg (by omega)]
    simp [Go.WideShapes.add_plain]
  · have hi' : i < (ls.drop n).length := by rw [sts_length] at hi; exact hi
    rw [List.length_drop] at hi'
    have := hx (n + i) (by omega)
    rw [Nat.add_assoc, this]
    simp [sts]
theorem RdS.of_own {base : Nat} {e : TypeId} {n c : Nat} (h : w.ownsRow base e 1 (.slice A n c) n (sts ls)) : RdS w w.heap.size A ls := RdV.of_own h
end
theorem run_cutS (A : Option Addr) (n k c : Nat) (l : Int) (w : World) (hl : l = k) (h : k ≤ n) : (Instr.slice 61 (.slice A n c) (some (.int .i64 l)) none none).run Tryz.prog w = .ok (.slice (cutW A k c) (n - k) (c - k)) w := by
  subst hl
  simp [go_sem, h, cutW]
theorem info_string1 : (Tryz.prog.info? 9).map (fun i => (i.zero, i.size, i.bytes)) = some (some (.string { data := #[] }), 1, 16) := by kernel_rfl
end Go.Proofs.YtmdaianbhpppfaaGreatDoor
