/- Contracts of the model's draws of events. Contracts of the model's draws of traces. What the model's bent traces are. Contracts of the draws of chapter 2: steps and traces with a fault, steps and traces that are the same or not, an event. -/
import Derived.Test.YtifijhfeeammkaaGEv
import Derived.Test.YtifijhfeeammkaaGDraw
import Derived.Test.YtifijhfeeammkaaGUnp
import Derived.Test.YtifijhfeeammkaaGBase
import Derived.Test.YtifijhfeeammkaaGTrS
import Derived.Test.YtifijhfeeammkaaGApp
namespace Go.Proofs.Ytifijhfeeammkaa
open Go.RowKit

/-- The source in block g went on by m readings at most; nothing else below is turned. -/
def Went (w : World) (g : Nat) (A : Option Addr) (c : Nat) (l : List Int) (k m : Nat) (w' : World) : Prop := ∃ k', k' ≤ k + m ∧ Src w' g A c l k' ∧ w.grownBy w' (some g)

end Go.Proofs.Ytifijhfeeammkaa
namespace Go.Proofs.Ytifijhfeeammkaa
open Go.RowKit

theorem one_cellS (A : Option Addr) (n c : Nat) : ∀ u ∈ [Value.slice A n c], u.oneCell' = true := by intro u hu; simp at hu; subst hu; rfl
/-- A new row is apart from what was there. -/
theorem OwnT.fresh {w w' : World} {base : Nat} {v : Value} {t : List (List Ev)} {us : List Value} (h : OwnT w base v t us) {u : Value} {n : Nat} {xs : List Value} (hu : w'.ownsRow w.heap.size 127 3 u n xs) :
    ∀ b, u.ownBlock = some b → v.ownBlock ≠ some b ∧ ∀ (i : Nat) (u' : Value), us[i]? = some u' → u'.ownBlock ≠ some b := by
  intro b hb
  have h1 := (hu.lt b hb).1
  refine ⟨fun e => by have := h.row.lt b e; omega, fun i u' hi e => ?_⟩
  obtain ⟨_, hq, _⟩ := h.at_ hi
  have := hq.lt b e
  omega

end Go.Proofs.Ytifijhfeeammkaa
namespace Go.Proofs.Ytifijhfeeammkaa
open Go.RowKit

theorem made_nil (n : Nat) : (madeCells (Value.slice none 0 0).cells (n * 1)).toList = List.replicate n (Value.slice none 0 0) := by
  apply List.ext_getElem
  · simp [madeCells]
  · intro i h1 h2
    simp [madeCells, Value.cells, Nat.mod_one]
theorem rdT_nils {w : World} {base n : Nat} {A : Option Addr} {c : Nat} (h : w.ownsRow base 189 1 (.slice A n c) n (List.replicate n (Value.slice none 0 0))) : RdT w w.heap.size A (List.replicate n []) := by
  intro h0
  rw [List.length_replicate] at h0
  rcases h.2 with ⟨_, h''⟩ | ⟨g, cap, cur, h', _⟩
  · omega
  · simp only [Value.slice.injEq] at h'
    obtain ⟨rfl, _, rfl⟩ := h'
    refine ⟨g, 0, rfl, (h.lt g rfl).2, fun i hi => ?_⟩
    have hi' : i < n := by simpa using hi
    refine ⟨none, 0, ?_, by simp, by simp, by simpa using RdE.nil_⟩
    rw [Nat.zero_add, h.cellAt i (by omega), List.getElem?_replicate]
    simp [hi']
theorem OwnT.rd_ {w : World} {base n c : Nat} {A : Option Addr} {t : List (List Ev)} {us : List Value} (h : OwnT w base (.slice A n c) t us) (hn : n = t.length) : RdT w w.heap.size A t := by
  subst hn
  exact h.rd
/-- What the walk is left with: a trace to read, and the source gone on. -/
def BentPost (w : World) (g : Nat) (A : Option Addr) (c : Nat) (l : List Int) (k : Nat) (e : Ending) (w' : World) : Prop :=
  ∃ (t : List (List Ev)) (D : Option Addr) (d : Nat), e = .returned (.slice D t.length d) ∧ t.length ≤ 5 ∧ (∀ x ∈ t, x.length ≤ 20) ∧ (∀ w2 : World, w'.grownBy w2 (some g) → RdT w2 w2.heap.size D t) ∧ Went w g A c l k 260 w'
theorem set_len {t : List (List Ev)} {i n : Nat} {es : List Ev} (h : ∀ x ∈ t, x.length ≤ n) (he : es.length ≤ n) : ∀ x ∈ t.set i es, x.length ≤ n := fun x hx => by
  rcases List.mem_or_eq_of_mem_set hx with a | a
  · exact h x a
  · rw [a]; exact he

end Go.Proofs.Ytifijhfeeammkaa
namespace Go.Proofs.Ytifijhfeeammkaa
open Go.RowKit

/-- Events to read, in new memory or none. -/
def EvsPost (w : World) (e : Ending) (w' : World) : Prop := ∃ (es : List Ev) (D : Option Addr) (d : Nat), e = .returned (.slice D es.length d) ∧ es.length ≤ 20 ∧ RdE w' w'.heap.size D es ∧ Below w.heap.size w w'
def TrPost (w : World) (e : Ending) (w' : World) : Prop := ∃ (t : List (List Ev)) (D : Option Addr) (d : Nat), e = .returned (.slice D t.length d) ∧ t.length ≤ 5 ∧ (∀ x ∈ t, x.length ≤ 20) ∧ RdT w' w'.heap.size D t ∧ Below w.heap.size w w'

def EvPost (w : World) (e : Ending) (w' : World) : Prop := ∃ k a v : Int, e = .returned (evV k a v) ∧ Below w.heap.size w w'

end Go.Proofs.Ytifijhfeeammkaa
