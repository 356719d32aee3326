/- Contracts of the program's PackSteps. -/
import Derived.Test.YtmnpiakcppcmgaaPackS
import Derived.OneCell
import Derived.Test.YtmnpiakcppcmgaaZig
namespace Go.Proofs.Ytmnpiakcppcmgaa
open Go.RowKit

theorem field_value (a b : Int) (W : World) : (Instr.field 25 (.agg #[.int .i64 a, .int .i64 b]) 1).run Try.prog W = .ok (.int .i64 b) W := by kernel_rfl
theorem evsF_of : ∀ l : List Ev, (∀ e ∈ l, evF e = 0) → evsF l = 0
  | [], _ => rfl
  | x :: r, hl => by rw [evsF, if_pos (hl x (by simp))]; exact evsF_of r (fun e he => hl e (by simp [he]))

/-- A row of bytes of the call's own; the captured variable in block g; and all that was there in W is as it was. -/
structure OwnD (W : World) (base g : Nat) (p : Int) (xs : List Int) (v : Value) (w : World) : Prop where
  row : w.ownsRow base 5 1 v xs.length (xs.map (Value.int .u8))
  old : Below W.heap.size W w
  var : Bk w g #[.int .i64 p] 2
  lo : W.heap.size ≤ g
  hi : g < base
  top : base ≤ w.heap.size
section
variable {W w w' : World} {base g : Nat} {p : Int} {xs l : List Int} {v v' : Value}
theorem OwnD.more (h : OwnD W base g p xs v w) (ho : w'.ownsRow base 5 1 v' (xs.length + l.length) (xs.map (Value.int .u8) ++ l.map (Value.int .u8))) (hg : w.grownBy w' v.ownBlock) : OwnD W base g p (xs ++ l) v' w' :=
  ⟨by rw [List.length_append, List.map_append]; exact ho, h.old.trans (grown_below h.row hg h.old.size (by have := h.lo; have := h.hi; omega)), h.var.grown hg (own_apart h.row _ (.inl h.hi)), h.lo, h.hi, by have := h.top; have := hg.size; omega⟩
theorem OwnD.below (h : OwnD W base g p xs v w) (hb : Below w.heap.size w w') : OwnD W base g p xs v w' :=
  ⟨own_below h.row hb (Nat.le_refl _), h.old.trans (hb.mono h.old.size), h.var.kept hb, h.lo, h.hi, by have := h.top; have := hb.size; omega⟩
theorem OwnD.alloc (h : OwnD W base g p xs v w) (o : Obj) : OwnD W base g p xs v (w.alloc o) := h.below ((Below.refl _ _).alloc (Nat.le_refl _) _)
theorem OwnD.drew (h : OwnD W base g p xs v w) : OwnD W base g p xs v w.drew := h.below (Below.refl _ _).drew
theorem OwnD.turn (h : OwnD W base g p xs v w) (n : Int) : OwnD W base g n xs v (w.setCell ⟨g, 0, none⟩ (.int .i64 n)) :=
  ⟨ownsRow_setCell_below h.row (a := ⟨g, 0, none⟩) h.hi _, h.old.setCell h.lo _, by have := h.var.set_ 0 (.int .i64 n); exact this, h.lo, h.hi, by have := h.top; simpa using this⟩
end

end Go.Proofs.Ytmnpiakcppcmgaa
