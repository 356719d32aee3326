/- What the model's bent traces are. -/
import Derived.Test.YtjdbakebcdkfcaaDrawTr
namespace Go.Proofs.Ytjdbakebcdkfcaa
open Go.RowKit

theorem made_nil (n : Nat) : (madeCells (Value.slice none 0 0).cells (n * 1)).toList = List.replicate n (Value.slice none 0 0) := by
  apply List.ext_getElem
  · simp [madeCells]
  · intro i h1 h2
    simp [madeCells, Value.cells, Nat.mod_one]
theorem rdT_nils {w : World} {base n : Nat} {A : Option Addr} {c : Nat} (h : w.ownsRow base 24 1 (.slice A n c) n (List.replicate n (Value.slice none 0 0))) : RdT w w.heap.size A (List.replicate n []) := by
  intro h0
  rw [List.length_replicate] at h0
  rcases h.2 with ⟨_, h''⟩ | ⟨g, cap, cur, h', _⟩
  · omega
  · simp only [Value.slice.injEq] at h'
    obtain ⟨rfl, _, rfl⟩ := h'
    refine ⟨g, 0, rfl, (h.lt g rfl).2, fun i hi => ?_⟩
    have hi' : i < n := by simpa using hi
    refine ⟨none, 0, ?_, by simp, by simp, by simpa using RdE.nil_⟩
    rw [Nat.zero_add, h.cellAt i (by omega), List.getElem?_replicate]
    simp [hi']
theorem OwnT.rd_ {w : World} {base n c : Nat} {A : Option Addr} {t : List (List Ev)} {us : List Value} (h : OwnT w base (.slice A n c) t us) (hn : n = t.length) : RdT w w.heap.size A t := by
  subst hn
  exact h.rd
/-- What the walk is left with: a trace to read, and the source gone on. -/
def BentPost (w : World) (g : Nat) (A : Option Addr) (c : Nat) (l : List Int) (k : Nat) (e : Ending) (w' : World) : Prop :=
  ∃ (t : List (List Ev)) (D : Option Addr) (d : Nat), e = .returned (.slice D t.length d) ∧ t.length ≤ 5 ∧ (∀ x ∈ t, x.length ≤ 20) ∧ (∀ w2 : World, w'.grownBy w2 (some g) → RdT w2 w2.heap.size D t) ∧ Went w g A c l k 260 w'
theorem set_len {t : List (List Ev)} {i n : Nat} {es : List Ev} (h : ∀ x ∈ t, x.length ≤ n) (he : es.length ≤ n) : ∀ x ∈ t.set i es, x.length ≤ n := fun x hx => by
  rcases List.mem_or_eq_of_mem_set hx with a | a
  · exact h x a
  · rw [a]; exact he

/-- The contract of the bent traces, as what draws on it asks. -/
def BentOk : Prop := ∀ (g k : Nat) (A : Option Addr) (c : Nat) (l : List Int) (w : World), Src w g A c l k → k ≤ 100 →
    Calls Try.prog 67 #[.pointer (some ⟨g, 0, none⟩)] w (BentPost w g A c l k)
end Go.Proofs.Ytjdbakebcdkfcaa
