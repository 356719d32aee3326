/- What the laws' walks rest upon, part 1. -/
import Derived.Below
import Derived.WalkKit
import Derived.Laws.OwnMore
import Derived.Laws.BytesArg
import Derived.Deep.Draws
import Derived.Maps.AppendAt
import Derived.OpenShut
import Derived.Lib.EndianBits
namespace Go.Proofs.YtnnfkmjhaljplaaGreat
open Go.RowKit
theorem hide {p : Prop} (h : p) : Hid p := h
theorem ret_int {k : IntKind} {a b : Int} (h : a = b) : Ending.returned (.int k a) = .returned (.int k b) := by rw [h]
theorem ret_bool {a b : Bool} (h : a = b) : Ending.returned (.bool a) = .returned (.bool b) := by rw [h]
/-- The slice address A leads to the cells vs, in a block below B. -/
def RdV (w : World) (B : Nat) (A : Option Addr) (vs : List Value) : Prop :=
  0 < vs.length → ∃ b off, A = some ⟨b, off, none⟩ ∧ b < B ∧ ∀ i, (h : i < vs.length) → w.cell? ⟨b, off + i, none⟩ = some vs[i]
/-- The same for integers of one kind. -/
def Rd (k : IntKind) (w : World) (B : Nat) (A : Option Addr) (l : List Int) : Prop := RdV w B A (l.map (Value.int k))
/-- Each number is a byte. -/
def B8 (l : List Int) : Prop := ∀ x ∈ l, 0 ≤ x ∧ x < 256
section
variable {w w' : World} {B B' : Nat} {A : Option Addr} {vs : List Value} {k : IntKind} {l : List Int}
theorem RdV.nil_ : RdV w B A [] := fun h => absurd h (by simp)
theorem RdV.keep (h : RdV w B A vs) (hk : ∀ p : Addr, p.block < B → w'.cell? p = w.cell? p) : RdV w' B A vs := by
  intro h0
  obtain ⟨b, off, e, hb, hc⟩ := h h0
  exact ⟨b, off, e, hb, fun i hi => (hk _ hb).trans (hc i hi)⟩
theorem RdV.more (h : RdV w B A vs) (hB : B ≤ B') : RdV w B' A vs := by
  intro h0
  obtain ⟨b, off, e, hb, hc⟩ := h h0
  exact ⟨b, off, e, by omega, hc⟩
theorem RdV.below (h : RdV w B A vs) (hb : Below B w w') : RdV w' B A vs := h.keep fun _ hp => hb.cell hp
theorem RdV.drew (h : RdV w B A vs) : RdV w.drew B A vs := h
theorem RdV.drewN (h : RdV w B A vs) (n : Nat) : RdV (w.drewN n) B A vs := h
theorem RdV.alloc (h : RdV w B A vs) (hB : B ≤ w.heap.size) (o : Obj) : RdV (w.alloc o) B A vs := h.keep fun p hp => World.cell?_alloc_lt w o p (by omega)
theorem RdV.size_alloc (h : RdV w w.heap.size A vs) (o : Obj) : RdV (w.alloc o) (w.alloc o).heap.size A vs := (h.alloc (Nat.le_refl _) o).more (by simp)
theorem RdV.lt (h : RdV w B A vs) : RdV w w.heap.size A vs := by
  intro h0
  obtain ⟨b, off, e, hb, hc⟩ := h h0
  exact ⟨b, off, e, block_lt_of_cell (hc 0 h0), hc⟩
theorem RdV.of_own {base : Nat} {e : TypeId} {size n c : Nat} (h : w.ownsRow base e size (.slice A n c) n vs) : RdV w w.heap.size A vs := by
  intro h0
  rcases h.2 with ⟨h', h''⟩ | ⟨g, cap, cur, h', _, hg, _, _, _, ht⟩
  · have := h.1
    rw [h'', Nat.zero_mul] at this
    omega
  · simp only [Value.slice.injEq, true_and] at h'
    obtain ⟨rfl, rfl⟩ := h'
    refine ⟨g, 0, rfl, ?_, fun i hi => ?_⟩
    · exact (h.lt g rfl).2
    · rw [h.cellAt (0 + i) (by rw [Nat.zero_add, ← h.1]; exact hi), Nat.zero_add, List.getElem?_eq_getElem hi]
theorem Rd.nil_ : Rd k w B A [] := RdV.nil_
theorem Rd.keep (h : Rd k w B A l) (hk : ∀ p : Addr, p.block < B → w'.cell? p = w.cell? p) : Rd k w' B A l := RdV.keep h hk
theorem Rd.more (h : Rd k w B A l) (hB : B ≤ B') : Rd k w B' A l := RdV.more h hB
theorem Rd.below (h : Rd k w B A l) (hb : Below B w w') : Rd k w' B A l := RdV.below h hb
theorem Rd.drew (h : Rd k w B A l) : Rd k w.drew B A l := h
theorem Rd.drewN (h : Rd k w B A l) (n : Nat) : Rd k (w.drewN n) B A l := h
theorem Rd.alloc (h : Rd k w B A l) (hB : B ≤ w.heap.size) (o : Obj) : Rd k (w.alloc o) B A l := RdV.alloc h hB o
theorem Rd.lt (h : Rd k w B A l) : Rd k w w.heap.size A l := RdV.lt h
theorem Rd.get (h : Rd k w B A l) {i : Nat} (hi : i < l.length) : ∃ b off, A = some ⟨b, off, none⟩ ∧ b < B ∧ w.cell? ⟨b, off + i, none⟩ = some (.int k l[i]) := by
  obtain ⟨b, off, e, hb, hc⟩ := h (by simp; omega)
  exact ⟨b, off, e, hb, by have := hc i (by simpa using hi); simpa using this⟩
theorem Rd.all (h : Rd k w B A l) (h0 : 0 < l.length) : ∃ b off, A = some ⟨b, off, none⟩ ∧ b < B ∧ ∀ i, (hi : i < l.length) → w.cell? ⟨b, off + i, none⟩ = some (.int k l[i]) := by
  obtain ⟨b, off, e, hb, hc⟩ := h (by simpa using h0)
  exact ⟨b, off, e, hb, fun i hi => by have := hc i (by simpa using hi); simpa using this⟩
theorem Rd.of_own {base : Nat} {e : TypeId} {n c : Nat} (h : w.ownsRow base e 1 (.slice A n c) n (l.map (Value.int k))) : Rd k w w.heap.size A l := RdV.of_own h
theorem Rd.take (h : Rd k w B A l) (n : Nat) : Rd k w B A (l.take n) := by
  intro h0
  have h0' : 0 < l.length := by
    rcases l with _ | ⟨x, l⟩
    · simp at h0
    · simp
  obtain ⟨b, off, e, hb, hc⟩ := h.all h0'
  refine ⟨b, off, e, hb, fun i hi => ?_⟩
  have hi' : i < l.length := by simp at hi; omega
  simpa using hc i hi'
/-- What the shell of a proof says of a slice of integers that came in. -/
theorem Rd.of_row {a : Option Addr} {len cap : Nat} {zs : List Int}
    (h : (a = none ∧ len = 0 ∧ cap = 0 ∧ zs = []) ∨
      ∃ x, a = some x ∧ len ≤ cap ∧ cap ≤ maxLen ∧ zs.length = cap ∧ (∀ i, i < zs.length → w.cell? (x.add i) = some (.int k (zs.getD i 0))) ∧ ∀ n ∈ zs, (Lit.int k n).wf = true) :
    ∃ l : List Int, len = l.length ∧ l.length ≤ maxLen ∧ Rd k w w.heap.size a l ∧ ∀ n ∈ l, (Lit.int k n).wf = true := by
  rcases h with ⟨rfl, rfl, rfl, rfl⟩ | ⟨x, rfl, hl, hm, hz, hc, hw⟩
  · exact ⟨[], rfl, by simp, Rd.nil_, by simp⟩
  · refine ⟨zs.take len, by rw [List.length_take]; omega, by rw [List.length_take]; omega, ?_, fun n hn => hw n (List.mem_of_mem_take hn)⟩
    intro h0
    have h1 : 0 < zs.length := by simp at h0; omega
    obtain ⟨b, off, rfl, hc'⟩ := ints_at hc h1
    refine ⟨b, off, rfl, block_lt_of_cell (hc' 0 h1), fun i hi => ?_⟩
    have hi' : i < zs.length := by simp at hi; omega
    rw [hc' i hi']
    simp [List.getD, hi']
end
theorem B8.of_wf {l : List Int} (h : ∀ n ∈ l, (Lit.int .u8 n).wf = true) : B8 l := fun n hn => by
  have := bounds_u8 (h n hn)
  omega
theorem B8.get {l : List Int} (h : B8 l) (i : Nat) (hi : i < l.length) : 0 ≤ l[i] ∧ l[i] < 256 := h _ (List.getElem_mem hi)
theorem B8.append {l m : List Int} (h : B8 l) (h' : B8 m) : B8 (l ++ m) := fun x hx => by
  rcases List.mem_append.1 hx with a | a
  · exact h x a
  · exact h' x a
theorem B8.one {n : Int} (h0 : 0 ≤ n) (h : n < 256) : B8 [n] := fun x hx => by simp at hx; subst hx; exact ⟨h0, h⟩
theorem B8.take {l : List Int} (h : B8 l) (n : Nat) : B8 (l.take n) := fun x hx => h x (List.mem_of_mem_take hx)
theorem B8.drop {l : List Int} (h : B8 l) (n : Nat) : B8 (l.drop n) := fun x hx => h x (List.mem_of_mem_drop hx)
theorem own_mono {w : World} {base base' : Nat} {e : TypeId} {size n : Nat} {v : Value} {xs : List Value} (h : w.ownsRow base e size v n xs) (hb : base' ≤ base) : w.ownsRow base' e size v n xs := by
  refine ⟨h.1, ?_⟩
  rcases h.2 with h' | ⟨g, cap, cur, h1, h2, h3⟩
  · exact .inl h'
  · exact .inr ⟨g, cap, cur, h1, by omega, h3⟩
theorem own_shape {w : World} {base : Nat} {e : TypeId} {size n : Nat} {v : Value} {xs : List Value} (h : w.ownsRow base e size v n xs) : ∃ A c, v = .slice A n c := by
  rcases h.2 with ⟨h', h''⟩ | ⟨g, cap, cur, h', _⟩
  · exact ⟨none, 0, by rw [h', h'']⟩
  · exact ⟨_, _, h'⟩
theorem own_below {w w' : World} {base B : Nat} {e : TypeId} {size n : Nat} {v : Value} {xs : List Value} (h : w.ownsRow base e size v n xs) (hb : Below B w w') (hB : w.heap.size ≤ B) : w'.ownsRow base e size v n xs :=
  h.kept (row := none) ⟨hb.os, hb.tape, hb.output, hb.size, fun k hk _ => hb.block k (by omega)⟩ (by rcases h0 : v.ownBlock with _ | k <;> simp)
/-- Behind a call that laid a cell for its answer first. -/
theorem below_alloc {w w1 : World} {o : Obj} (hb : Below (w.alloc o).heap.size (w.alloc o) w1) : Below w.heap.size w w1 := ((Below.refl _ _).alloc (Nat.le_refl _) o).trans (hb.mono (by simp))
/-- The answer's cell, laid first, behind whatever made new memory alone. -/
theorem res_cell {w w1 : World} {cs : Array Value} {t : TypeId} (hb : Below (w.alloc (.cells cs t)).heap.size (w.alloc (.cells cs t)) w1) (i : Nat) : w1.cell? ⟨w.heap.size, i, none⟩ = cs[i]? :=
  (hb.cell (p := ⟨w.heap.size, i, none⟩) (by simp)).trans (World.cell?_alloc_at (w := w) cs t w.heap.size i rfl)
theorem res_frozen {w w1 : World} {cs : Array Value} {t : TypeId} (hb : Below (w.alloc (.cells cs t)).heap.size (w.alloc (.cells cs t)) w1) (i : Nat) : w1.frozen? ⟨w.heap.size, i, none⟩ = false := by
  rw [hb.frozen (p := ⟨w.heap.size, i, none⟩) (by simp), frozen?_alloc_cells]
  simp [World.frozen?]
section
variable {w W w1 : World} {cs : Array Value} {t : TypeId}
theorem W_cell (hW : W = w.alloc (.cells cs t)) (hb : Below W.heap.size W w1) (i : Nat) : w1.cell? ⟨w.heap.size, i, none⟩ = cs[i]? := by subst hW; exact res_cell hb i
theorem W_frozen (hW : W = w.alloc (.cells cs t)) (hb : Below W.heap.size W w1) (i : Nat) : w1.frozen? ⟨w.heap.size, i, none⟩ = false := by subst hW; exact res_frozen hb i
theorem W_below (hW : W = w.alloc (.cells cs t)) (hb : Below W.heap.size W w1) : Below w.heap.size w w1 := by subst hW; exact below_alloc hb
theorem W_size (hW : W = w.alloc (.cells cs t)) : W.heap.size = w.heap.size + 1 := by subst hW; simp
theorem W_own (hW : W = w.alloc (.cells cs t)) {e : TypeId} {size n : Nat} {v : Value} {xs : List Value} (h : w1.ownsRow W.heap.size e size v n xs) : w1.ownsRow w.heap.size e size v n xs := own_mono h (by rw [W_size hW]; omega)
theorem W_set (hW : W = w.alloc (.cells cs t)) {e : TypeId} {size n : Nat} {v : Value} {xs : List Value} (h : w1.ownsRow W.heap.size e size v n xs) (i : Nat) (u : Value) : (w1.setCell ⟨w.heap.size, i, none⟩ u).ownsRow W.heap.size e size v n xs :=
  ownsRow_setCell_below h (a := ⟨w.heap.size, i, none⟩) (by rw [W_size hW]; simp) u
end
/-- Block g is known whole. -/
def Bk (w : World) (g : Nat) (cs : Array Value) (t : TypeId) : Prop := w.heap[g]? = some (.cells cs t (0, 0))
section
variable {w w' : World} {g B : Nat} {cs : Array Value} {t : TypeId}
theorem Bk.lt (h : Bk w g cs t) : g < w.heap.size := by
  rcases Nat.lt_or_ge g w.heap.size with a | a
  · exact a
  · unfold Bk at h
    rw [Array.getElem?_eq_none a] at h
    exact absurd h (by simp)
theorem Bk.new (w : World) (cs : Array Value) (t : TypeId) : Bk (w.alloc (.cells cs t)) w.heap.size cs t := heap_alloc_new w _
theorem Bk.cell (h : Bk w g cs t) (i : Nat) : w.cell? ⟨g, i, none⟩ = cs[i]? := cell_of_row w g i cs t (0, 0) h
theorem Bk.frozen (h : Bk w g cs t) (i : Nat) : w.frozen? ⟨g, i, none⟩ = false := frozen_of_row w g i cs t h
theorem Bk.below (h : Bk w g cs t) (hb : Below B w w') (hg : g < B) : Bk w' g cs t := (hb.block g hg).trans h
theorem Bk.kept (h : Bk w g cs t) (hb : Below w.heap.size w w') : Bk w' g cs t := h.below hb h.lt
theorem Bk.alloc (h : Bk w g cs t) (o : Obj) : Bk (w.alloc o) g cs t := (Below.heap_alloc w o g h.lt).trans h
theorem Bk.drewN (h : Bk w g cs t) (n : Nat) : Bk (w.drewN n) g cs t := h
theorem Bk.grown {row : Option Nat} (h : Bk w g cs t) (hg : w.grownBy w' row) (hn : some g ≠ row) : Bk w' g cs t := (hg.block g h.lt hn).trans h
theorem Bk.set_ (h : Bk w g cs t) (i : Nat) (u : Value) : Bk (w.setCell ⟨g, i, none⟩ u) g (cs.setIfInBounds i u) t := by
  unfold Bk at h ⊢
  exact heap_setCell_same w g i cs t u h
theorem Bk.far (h : Bk w g cs t) {p : Addr} (hp : g ≠ p.block) (u : Value) : Bk (w.setCell p u) g cs t := (Below.heap_setCell w p u g hp).trans h
end
/-- A row of the call's own lies apart from every block below its base, and from every block made later. -/
theorem own_apart {w : World} {base : Nat} {e : TypeId} {size n : Nat} {v : Value} {xs : List Value} (h : w.ownsRow base e size v n xs) (g : Nat) (hg : g < base ∨ w.heap.size ≤ g) : some g ≠ v.ownBlock := by
  intro he
  have := h.lt g he.symm
  omega
theorem grown_below {w w1 w' : World} {base B : Nat} {e : TypeId} {size n : Nat} {v : Value} {xs : List Value} (h : w.ownsRow base e size v n xs) (hg : w1.grownBy w' v.ownBlock) (hB : B ≤ w1.heap.size) (hb : B ≤ base) : Below B w1 w' :=
  (Below.refl _ _).grown hg hB (fun k hk => by have := h.lt k hk; omega)
section
variable {w w' : World} {B : Nat} {A : Option Addr} {vs : List Value} {k : IntKind} {l : List Int}
/-- What lies below a block is not turned by writes to that block alone. -/
theorem RdV.grown {g : Nat} (h : RdV w g A vs) (hg : w.grownBy w' (some g)) : RdV w' g A vs := by
  intro h0
  obtain ⟨b, off, e, hb, hc⟩ := h h0
  exact ⟨b, off, e, hb, fun i hi => hg.cell (hc i hi) (by simp; omega)⟩
theorem Rd.grown {g : Nat} (h : Rd k w g A l) (hg : w.grownBy w' (some g)) : Rd k w' g A l := RdV.grown h hg
theorem grown_from {a b c : World} {g B : Nat} (h : Below B a b) (hg : b.grownBy c (some g)) (hB : B ≤ b.heap.size) (hr : B ≤ g) : Below B a c :=
  h.grown hg hB (fun k hk => by simp at hk; omega)
end
theorem grown_set (w : World) (g i : Nat) (u : Value) : w.grownBy (w.setCell ⟨g, i, none⟩ u) (some g) :=
  ⟨rfl, rfl, rfl, by simp, fun k _ hk => Below.heap_setCell w ⟨g, i, none⟩ u k (fun e => hk (by simp [e]))⟩
theorem grown_drewN {w w' : World} {row : Option Nat} (h : w.grownBy w' row) (n : Nat) : w.grownBy (w'.drewN n) row := ⟨h.os, h.tape, h.output, h.size, h.block⟩
theorem cell_kept {w w' : World} {a : Addr} {v : Value} (hb : Below w.heap.size w w') (h : w.cell? a = some v) : w'.cell? a = some v := (hb.cell (block_lt_of_cell h)).trans h
end Go.Proofs.YtnnfkmjhaljplaaGreat
namespace Go.Proofs.YtnnfkmjhaljplaaGreat
open Go.RowKit
def zagI (n : Int) : Int := if n % 2 = 0 then n / 2 else -((n + 1) / 2)
def zagC (n : Int) : Int := if 0 ≤ n ∧ n ≤ 2000000000000 then 0 else 3
end Go.Proofs.YtnnfkmjhaljplaaGreat
namespace Go.Proofs.YtnnfkmjhaljplaaGreat
end Go.Proofs.YtnnfkmjhaljplaaGreat
namespace Go.Proofs.YtnnfkmjhaljplaaGreat
open Go.RowKit
/-- The number that groups of seven bits make, the lowest one first. -/
def valL : List Int → Int
  | [] => 0
  | b :: r => b % 128 + 128 * valL r
/-- How many bytes go on. -/
def rdK : List Int → Nat
  | [] => 0
  | b :: r => if 128 ≤ b then rdK r + 1 else 0
def rdGood (l : List Int) : Prop := ∃ h : rdK l < l.length, rdK l < 9 ∧ (rdK l = 0 ∨ l[rdK l] ≠ 0)
open Classical in
noncomputable def rdC (l : List Int) : Int := if rdGood l then 0 else 5
open Classical in
noncomputable def rdV (l : List Int) : Int := if rdGood l then valL (l.take (rdK l + 1)) else 0
open Classical in
noncomputable def rdZ (l : List Int) : Int := if rdGood l then rdK l + 1 else 0
end Go.Proofs.YtnnfkmjhaljplaaGreat
namespace Go.Proofs.YtnnfkmjhaljplaaGreat
end Go.Proofs.YtnnfkmjhaljplaaGreat
namespace Go.Proofs.YtnnfkmjhaljplaaGreat
open Go.RowKit
/-- An event: kind, address, value. -/
structure Ev where
  k : Int
  a : Int
  v : Int
def I64 (n : Int) : Prop := -9223372036854775808 ≤ n ∧ n ≤ 9223372036854775807
def Ev.ok (e : Ev) : Prop := I64 e.k ∧ I64 e.a ∧ I64 e.v
/-- The events' cells, one behind the other. -/
def Ev.row (e : Ev) : List Value := [.int .i64 e.k, .int .i64 e.a, .int .i64 e.v]
def evs : List Ev → List Value
  | [] => []
  | e :: r => .int .i64 e.k :: .int .i64 e.a :: .int .i64 e.v :: evs r
theorem evs_length : ∀ es : List Ev, (evs es).length = es.length * 3
  | [] => rfl
  | e :: r => by simp only [evs, List.length_cons, evs_length r]; omega
theorem evs_append : ∀ (l m : List Ev), evs (l ++ m) = evs l ++ evs m
  | [], _ => rfl
  | e :: r, m => by simp only [evs, List.cons_append, evs_append r m]
theorem evs_get : ∀ (es : List Ev) (i : Nat) (h : i < es.length), (evs es)[i * 3]? = some (.int .i64 es[i].k) ∧ (evs es)[i * 3 + 1]? = some (.int .i64 es[i].a) ∧ (evs es)[i * 3 + 2]? = some (.int .i64 es[i].v)
  | [], i, h => absurd h (Nat.not_lt_zero _)
  | e :: r, 0, _ => ⟨rfl, rfl, rfl⟩
  | e :: r, i + 1, h => by
    have ih := evs_get r i (by simpa using h)
    rw [show (i + 1) * 3 = i * 3 + 1 + 1 + 1 by omega]
    simp only [evs, List.getElem?_cons_succ, List.getElem_cons_succ]
    exact ih
/-- The fault of an event, of steps, of a trace. -/
def evF (e : Ev) : Int := if e.k = 0 ∨ e.k = 1 then (if 0 ≤ e.a ∧ e.a ≤ 999999 ∧ 0 ≤ e.v ∧ e.v ≤ 999999 then 0 else 3) else 1
def evsF : List Ev → Int
  | [] => 0
  | e :: r => if evF e = 0 then evsF r else evF e
def stF (es : List Ev) : Int := if es.length ≤ 8 then evsF es else 2
def stsF : List (List Ev) → Int
  | [] => 0
  | l :: r => if stF l = 0 then stsF r else stF l
def trF (t : List (List Ev)) : Int := if 1 ≤ t.length ∧ t.length ≤ 4 then stsF t else 2
theorem evF_form {e : Ev} (h : ¬ (e.k = 0 ∨ e.k = 1)) : evF e = 1 := if_neg h
theorem evF_range {e : Ev} (h : e.k = 0 ∨ e.k = 1) (h' : ¬ (0 ≤ e.a ∧ e.a ≤ 999999 ∧ 0 ≤ e.v ∧ e.v ≤ 999999)) : evF e = 3 := by unfold evF; rw [if_pos h, if_neg h']
theorem evF_ok {e : Ev} (h : e.k = 0 ∨ e.k = 1) (h' : 0 ≤ e.a ∧ e.a ≤ 999999 ∧ 0 ≤ e.v ∧ e.v ≤ 999999) : evF e = 0 := by unfold evF; rw [if_pos h, if_pos h']
theorem evF_zero {e : Ev} (h : evF e = 0) : (e.k = 0 ∨ e.k = 1) ∧ 0 ≤ e.a ∧ e.a ≤ 999999 ∧ 0 ≤ e.v ∧ e.v ≤ 999999 := by
  unfold evF at h
  by_cases h1 : e.k = 0 ∨ e.k = 1
  · by_cases h2 : 0 ≤ e.a ∧ e.a ≤ 999999 ∧ 0 ≤ e.v ∧ e.v ≤ 999999
    · exact ⟨h1, h2⟩
    · rw [if_pos h1, if_neg h2] at h; omega
  · rw [if_neg h1] at h; omega
theorem evsF_drop (es : List Ev) (i : Nat) (h : i < es.length) : evsF (es.drop i) = if evF es[i] = 0 then evsF (es.drop (i + 1)) else evF es[i] := by
  rw [List.drop_eq_getElem_cons h, evsF]
theorem evsF_next {es : List Ev} {i : Nat} (h : i < es.length) (h0 : evF es[i] = 0) : evsF (es.drop i) = evsF (es.drop (i + 1)) := by rw [evsF_drop es i h, if_pos h0]
theorem evsF_stop {es : List Ev} {i : Nat} (h : i < es.length) (h0 : ¬ evF es[i] = 0) : evsF (es.drop i) = evF es[i] := by rw [evsF_drop es i h, if_neg h0]
theorem evsF_end {es : List Ev} {i : Nat} (h : ¬ i < es.length) : evsF (es.drop i) = 0 := by rw [List.drop_eq_nil_of_le (by omega)]; rfl
theorem stsF_drop (t : List (List Ev)) (i : Nat) (h : i < t.length) : stsF (t.drop i) = if stF t[i] = 0 then stsF (t.drop (i + 1)) else stF t[i] := by
  rw [List.drop_eq_getElem_cons h, stsF]
theorem stsF_next {t : List (List Ev)} {i : Nat} (h : i < t.length) (h0 : stF t[i] = 0) : stsF (t.drop i) = stsF (t.drop (i + 1)) := by rw [stsF_drop t i h, if_pos h0]
theorem stsF_stop {t : List (List Ev)} {i : Nat} (h : i < t.length) (h0 : ¬ stF t[i] = 0) : stsF (t.drop i) = stF t[i] := by rw [stsF_drop t i h, if_neg h0]
theorem stsF_end {t : List (List Ev)} {i : Nat} (h : ¬ i < t.length) : stsF (t.drop i) = 0 := by rw [List.drop_eq_nil_of_le (by omega)]; rfl
theorem stF_many {es : List Ev} (h : ¬ es.length ≤ 8) : stF es = 2 := if_neg h
theorem stF_few {es : List Ev} (h : es.length ≤ 8) : stF es = evsF es := if_pos h
theorem evsF_all {es : List Ev} (h : evsF es = 0) : ∀ e ∈ es, evF e = 0 := by
  induction es with
  | nil => intro e he; simp at he
  | cons x r ih =>
    rw [evsF] at h
    by_cases hx : evF x = 0
    · rw [if_pos hx] at h
      intro e he
      rcases List.mem_cons.1 he with rfl | he
      · exact hx
      · exact ih h e he
    · rw [if_neg hx] at h
      exact absurd h hx
theorem stF_zero {es : List Ev} (h : stF es = 0) : es.length ≤ 8 ∧ evsF es = 0 := by
  by_cases h8 : es.length ≤ 8
  · exact ⟨h8, by rw [← stF_few h8]; exact h⟩
  · rw [stF_many h8] at h; omega
/-- The event that bytes begin with, and how many bytes it has. -/
noncomputable def nextV (d : List Int) : List Int := d.drop (rdZ d).toNat
noncomputable def evAt (d : List Int) (p : Int) : Ev := ⟨rdV d % 2, p + zagI (rdV d / 2), rdV (nextV d)⟩
def evGood (d : List Int) (p : Int) : Prop := rdC d = 0 ∧ rdC (nextV d) = 0 ∧ zagC (rdV d / 2) = 0 ∧ evF (evAt d p) = 0
noncomputable instance (d : List Int) (p : Int) : Decidable (evGood d p) := by unfold evGood; infer_instance
end Go.Proofs.YtnnfkmjhaljplaaGreat
namespace Go.Proofs.YtnnfkmjhaljplaaGreat
open Go.RowKit
/-- The slice address A leads to the events es, in a block below B. -/
def RdE (w : World) (B : Nat) (A : Option Addr) (es : List Ev) : Prop := RdV w B A (evs es)
section
variable {w w' : World} {B B' : Nat} {A : Option Addr} {es : List Ev}
theorem RdE.nil_ : RdE w B A [] := RdV.nil_
theorem RdE.keep (h : RdE w B A es) (hk : ∀ p : Addr, p.block < B → w'.cell? p = w.cell? p) : RdE w' B A es := RdV.keep h hk
theorem RdE.more (h : RdE w B A es) (hB : B ≤ B') : RdE w B' A es := RdV.more h hB
theorem RdE.below (h : RdE w B A es) (hb : Below B w w') : RdE w' B A es := RdV.below h hb
theorem RdE.drew (h : RdE w B A es) : RdE w.drew B A es := h
theorem RdE.drewN (h : RdE w B A es) (n : Nat) : RdE (w.drewN n) B A es := h
theorem RdE.alloc (h : RdE w B A es) (hB : B ≤ w.heap.size) (o : Obj) : RdE (w.alloc o) B A es := RdV.alloc h hB o
theorem RdE.lt (h : RdE w B A es) : RdE w w.heap.size A es := RdV.lt h
theorem RdE.of_own {base : Nat} {e : TypeId} {n c : Nat} (h : w.ownsRow base e 3 (.slice A n c) n (evs es)) : RdE w w.heap.size A es := RdV.of_own h
theorem RdE.get (h : RdE w B A es) {i : Nat} (hi : i < es.length) : ∃ b off, A = some ⟨b, off, none⟩ ∧ b < B ∧ w.cell? ⟨b, off + i * 3, none⟩ = some (.int .i64 es[i].k) ∧ w.cell? ⟨b, off + i * 3 + 1, none⟩ = some (.int .i64 es[i].a) ∧ w.cell? ⟨b, off + i * 3 + 2, none⟩ = some (.int .i64 es[i].v) := by
  have hl := evs_length es
  obtain ⟨b, off, e, hb, hc⟩ := h (by omega)
  obtain ⟨g0, g1, g2⟩ := evs_get es i hi
  have k0 := hc (i * 3) (by omega)
  have k1 := hc (i * 3 + 1) (by omega)
  have k2 := hc (i * 3 + 2) (by omega)
  rw [List.getElem?_eq_getElem (by omega)] at g0 g1 g2
  rw [Option.some.inj g0] at k0
  rw [Option.some.inj g1] at k1
  rw [Option.some.inj g2] at k2
  exact ⟨b, off, e, hb, k0, by rw [Nat.add_assoc]; exact k1, by rw [Nat.add_assoc]; exact k2⟩
end
end Go.Proofs.YtnnfkmjhaljplaaGreat
namespace Go.Proofs.YtnnfkmjhaljplaaGreat
open Go.RowKit
/-- The slice address A leads to the traces t: each cell a slice that reads as the events. -/
def RdT (w : World) (B : Nat) (A : Option Addr) (t : List (List Ev)) : Prop :=
  0 < t.length → ∃ b off, A = some ⟨b, off, none⟩ ∧ b < B ∧ ∀ i, (h : i < t.length) → ∃ a c, w.cell? ⟨b, off + i, none⟩ = some (.slice a t[i].length c) ∧ t[i].length ≤ c ∧ c ≤ maxLen ∧ RdE w B a t[i]
section
variable {w w' : World} {B B' : Nat} {A : Option Addr} {t : List (List Ev)}
theorem RdT.nil_ : RdT w B A [] := fun h => absurd h (by simp)
theorem RdT.keep (h : RdT w B A t) (hk : ∀ p : Addr, p.block < B → w'.cell? p = w.cell? p) : RdT w' B A t := by
  intro h0
  obtain ⟨b, off, e, hb, hc⟩ := h h0
  refine ⟨b, off, e, hb, fun i hi => ?_⟩
  obtain ⟨a, c, h1, h2, h3, h4⟩ := hc i hi
  exact ⟨a, c, (hk _ hb).trans h1, h2, h3, h4.keep hk⟩
theorem RdT.more (h : RdT w B A t) (hB : B ≤ B') : RdT w B' A t := by
  intro h0
  obtain ⟨b, off, e, hb, hc⟩ := h h0
  refine ⟨b, off, e, by omega, fun i hi => ?_⟩
  obtain ⟨a, c, h1, h2, h3, h4⟩ := hc i hi
  exact ⟨a, c, h1, h2, h3, h4.more hB⟩
theorem RdT.below (h : RdT w B A t) (hb : Below B w w') : RdT w' B A t := h.keep fun _ hp => hb.cell hp
theorem RdT.drew (h : RdT w B A t) : RdT w.drew B A t := h
theorem RdT.drewN (h : RdT w B A t) (n : Nat) : RdT (w.drewN n) B A t := h
theorem RdT.alloc (h : RdT w B A t) (hB : B ≤ w.heap.size) (o : Obj) : RdT (w.alloc o) B A t := h.keep fun p hp => World.cell?_alloc_lt w o p (by omega)
theorem RdT.lt (h : RdT w B A t) : RdT w w.heap.size A t := by
  intro h0
  obtain ⟨b, off, e, hb, hc⟩ := h h0
  refine ⟨b, off, e, ?_, fun i hi => ?_⟩
  · obtain ⟨a, c, h1, _⟩ := hc 0 h0
    exact block_lt_of_cell h1
  · obtain ⟨a, c, h1, h2, h3, h4⟩ := hc i hi
    exact ⟨a, c, h1, h2, h3, h4.lt⟩
theorem RdT.get (h : RdT w B A t) {i : Nat} (hi : i < t.length) : ∃ b off a c, A = some ⟨b, off, none⟩ ∧ b < B ∧ w.cell? ⟨b, off + i, none⟩ = some (.slice a t[i].length c) ∧ t[i].length ≤ c ∧ c ≤ maxLen ∧ RdE w B a t[i] := by
  obtain ⟨b, off, e, hb, hc⟩ := h (by omega)
  obtain ⟨a, c, h1, h2, h3, h4⟩ := hc i hi
  exact ⟨b, off, a, c, e, hb, h1, h2, h3, h4⟩
end
/-- A store into another block turns nothing. -/
theorem RdV.far {w : World} {B : Nat} {A : Option Addr} {vs : List Value} (h : RdV w B A vs) (p : Addr) (u : Value) (hn : ∀ x, A = some x → x.block ≠ p.block) : RdV (w.setCell p u) B A vs := by
  intro h0
  obtain ⟨b, off, e, hb, hc⟩ := h h0
  refine ⟨b, off, e, hb, fun i hi => ?_⟩
  have hne := hn _ e
  have hh := Below.heap_setCell w p u b (fun e' => hne (by simpa using e'))
  rw [← hc i hi]
  unfold World.cell?
  rw [hh]
theorem RdE.far {w : World} {B : Nat} {A : Option Addr} {es : List Ev} (h : RdE w B A es) (p : Addr) (u : Value) (hn : ∀ x, A = some x → x.block ≠ p.block) : RdE (w.setCell p u) B A es := RdV.far h p u hn
/-- How many events there are in all. -/
def sumT : List (List Ev) → Nat
  | [] => 0
  | l :: r => l.length + sumT r
theorem sumT_drop (t : List (List Ev)) (i : Nat) (h : i < t.length) : sumT (t.drop i) = t[i].length + sumT (t.drop (i + 1)) := by
  rw [List.drop_eq_getElem_cons h, sumT]
theorem sumT_end {t : List (List Ev)} {i : Nat} (h : ¬ i < t.length) : sumT (t.drop i) = 0 := by rw [List.drop_eq_nil_of_le (by omega)]; rfl
end Go.Proofs.YtnnfkmjhaljplaaGreat
namespace Go.Proofs.YtnnfkmjhaljplaaGreat
open Go.RowKit
theorem own_sep {v : Value} {row : Option Nat} (h : ∀ b, v.ownBlock = some b → row ≠ some b) : v.ownBlock = none ∨ v.ownBlock ≠ row := by
  rcases hv : v.ownBlock with _ | b
  · exact .inl rfl
  · exact .inr fun e => h b hv e.symm
theorem own_capE {w : World} {base : Nat} {e : TypeId} {size n c : Nat} {A : Option Addr} {xs : List Value} (h : w.ownsRow base e size (.slice A n c) n xs) : n ≤ c ∧ c ≤ maxLen := by
  rcases h.2 with ⟨h', h''⟩ | ⟨g, cap, cur, h', _, _, h1, h2, _⟩
  · simp only [Value.slice.injEq] at h'
    rw [h'.2.2, h'']
    exact ⟨Nat.le_refl _, by simp⟩
  · simp only [Value.slice.injEq] at h'
    rw [h'.2.2]
    exact ⟨h1, h2⟩
structure OwnT (w : World) (base : Nat) (v : Value) (t : List (List Ev)) (us : List Value) : Prop where
  row : w.ownsRow base 88 1 v t.length us
  rows : ∀ i, (h : i < t.length) → ∃ u, us[i]? = some u ∧ w.ownsRow base 64 3 u t[i].length (evs t[i]) ∧ ∀ b, u.ownBlock = some b → v.ownBlock ≠ some b
  apart : ∀ (i j : Nat) (u u' : Value), i ≠ j → us[i]? = some u → us[j]? = some u' → ∀ b, u.ownBlock = some b → u'.ownBlock ≠ some b
section
variable {w w' w1 : World} {base : Nat} {v v' : Value} {t : List (List Ev)} {us : List Value} {es : List Ev}
theorem OwnT.len (h : OwnT w base v t us) : us.length = t.length := by have := h.row.1; omega
theorem OwnT.at_ (h : OwnT w base v t us) {i : Nat} {u : Value} (hu : us[i]? = some u) : ∃ (hi : i < t.length), w.ownsRow base 64 3 u t[i].length (evs t[i]) ∧ ∀ b, u.ownBlock = some b → v.ownBlock ≠ some b := by
  have hi : i < t.length := by
    rcases Nat.lt_or_ge i us.length with a | a
    · rw [← h.len]; exact a
    · rw [List.getElem?_eq_none a] at hu; exact absurd hu (by simp)
  obtain ⟨u', h1, h2, h3⟩ := h.rows i hi
  rw [hu] at h1
  cases h1
  exact ⟨hi, h2, h3⟩
theorem OwnT.kept {row : Option Nat} (h : OwnT w base v t us) (hg : w.grownBy w' row) (hr : ∀ b, row = some b → b < base) : OwnT w' base v t us :=
  ⟨h.row.kept hg (own_sep fun b hb e => by have := h.row.lt b hb; have := hr b e; omega),
   fun i hi => by
    obtain ⟨u, h1, h2, h3⟩ := h.rows i hi
    exact ⟨u, h1, h2.kept hg (own_sep fun b hb e => by have := h2.lt b hb; have := hr b e; omega), h3⟩,
   h.apart⟩
theorem OwnT.below (h : OwnT w base v t us) (hb : Below w.heap.size w w') : OwnT w' base v t us := h.kept (row := none) ⟨hb.os, hb.tape, hb.output, hb.size, fun k hk _ => hb.block k hk⟩ (fun b e => by cases e)
theorem OwnT.alloc (h : OwnT w base v t us) (o : Obj) : OwnT (w.alloc o) base v t us := h.below ((Below.refl _ _).alloc (Nat.le_refl _) _)
theorem OwnT.mono (h : OwnT w base v t us) {b' : Nat} (hb : b' ≤ base) : OwnT w b' v t us :=
  ⟨own_mono h.row hb, fun i hi => by
    obtain ⟨u, h1, h2, h3⟩ := h.rows i hi
    exact ⟨u, h1, own_mono h2 hb, h3⟩, h.apart⟩
theorem OwnT.rd {A : Option Addr} {c : Nat} (h : OwnT w base (.slice A t.length c) t us) : RdT w w.heap.size A t := by
  intro h0
  rcases h.row.2 with ⟨_, h''⟩ | ⟨g, cap, cur, h', _⟩
  · omega
  · simp only [Value.slice.injEq] at h'
    obtain ⟨rfl, _, rfl⟩ := h'
    refine ⟨g, 0, rfl, (h.row.lt g rfl).2, fun i hi => ?_⟩
    obtain ⟨u, h1, h2, h3⟩ := h.rows i hi
    obtain ⟨a, c, rfl⟩ := own_shape h2
    have hcp := own_capE h2
    refine ⟨a, c, ?_, hcp.1, hcp.2, RdE.of_own h2⟩
    rw [Nat.zero_add, h.row.cellAt i (by omega)]
    exact h1
/-- A new row behind the others. -/
theorem OwnT.push {u : Value} (h : OwnT w base v t us) (hu : w.ownsRow base 64 3 u es.length (evs es)) (hf : ∀ b, u.ownBlock = some b → v.ownBlock ≠ some b ∧ ∀ (i : Nat) (u' : Value), us[i]? = some u' → u'.ownBlock ≠ some b)
    (ho : w'.ownsRow base 88 1 v' (t.length + 1) (us ++ [u])) (hg : w.grownBy w' v.ownBlock) (hat : v'.ownBlock = v.ownBlock ∨ v'.ownBlock = some w.heap.size) : OwnT w' base v' (t ++ [es]) (us ++ [u]) := by
  have hnew : ∀ (x : Value) (n : Nat) (xs : List Value), w.ownsRow base 64 3 x n xs → (∀ b, x.ownBlock = some b → v.ownBlock ≠ some b) → ∀ b, x.ownBlock = some b → v'.ownBlock ≠ some b := by
    intro x n xs hx h3 b hb
    rcases hat with e | e
    · rw [e]; exact h3 b hb
    · rw [e]
      intro e2
      simp only [Option.some.injEq] at e2
      have := hx.lt b hb
      omega
  refine ⟨by rw [List.length_append]; exact ho, fun i hi => ?_, ?_⟩
  · rw [List.length_append, List.length_singleton] at hi
    by_cases hlt : i < t.length
    · obtain ⟨x, h1, h2, h3⟩ := h.rows i hlt
      refine ⟨x, by rw [List.getElem?_append_left (by rw [h.len]; exact hlt)]; exact h1, ?_, hnew x _ _ h2 h3⟩
      rw [List.getElem_append_left hlt]
      exact h2.kept hg (own_sep h3)
    · obtain rfl : i = t.length := by omega
      refine ⟨u, by rw [List.getElem?_append_right (by rw [h.len]; exact Nat.le_refl _), h.len, Nat.sub_self]; rfl, ?_, hnew u _ _ hu (fun b hb => (hf b hb).1)⟩
      rw [List.getElem_append_right (Nat.le_refl _)]
      simp only [Nat.sub_self, List.getElem_cons_zero]
      exact hu.kept hg (own_sep fun b hb => (hf b hb).1)
  · have key : ∀ (i : Nat) (x : Value), (us ++ [u])[i]? = some x → (i < us.length ∧ us[i]? = some x) ∨ (i = us.length ∧ x = u) := by
      intro i x hx
      by_cases hlt : i < us.length
      · rw [List.getElem?_append_left hlt] at hx
        exact .inl ⟨hlt, hx⟩
      · rw [List.getElem?_append_right (by omega)] at hx
        have hi : i - us.length = 0 := by
          rcases Nat.eq_zero_or_pos (i - us.length) with a | a
          · exact a
          · rw [List.getElem?_eq_none (by simp; omega)] at hx; exact absurd hx (by simp)
        rw [hi] at hx
        simp only [List.getElem?_cons_zero, Option.some.injEq] at hx
        exact .inr ⟨by omega, hx.symm⟩
    intro i j x y hij hx hy b hb
    rcases key i x hx with ⟨i1, i2⟩ | ⟨i1, rfl⟩
    · rcases key j y hy with ⟨j1, j2⟩ | ⟨j1, rfl⟩
      · exact h.apart i j x y hij i2 j2 b hb
      · intro e
        exact (hf b e).2 i x i2 hb
    · rcases key j y hy with ⟨j1, j2⟩ | ⟨j1, rfl⟩
      · exact (hf b hb).2 j y j2
      · omega
/-- Another row in the place of one. -/
theorem OwnT.swap {gv c i : Nat} {u u' : Value} {row : Option Nat} {es' : List Ev} (h : OwnT w base (.slice (some ⟨gv, 0, none⟩) t.length c) t us) (hui : us[i]? = some u) (hg : w.grownBy w1 row) (hrow : ∀ b, row = some b → u.ownBlock = some b ∨ b < base)
    (hu' : w1.ownsRow base 64 3 u' es'.length (evs es')) (hat : ∀ b, u'.ownBlock = some b → u.ownBlock = some b ∨ w.heap.size ≤ b) :
    OwnT (w1.setCell ⟨gv, i, none⟩ u') base (.slice (some ⟨gv, 0, none⟩) t.length c) (t.set i es') (us.set i u') := by
  obtain ⟨hi, hu, hu3⟩ := h.at_ hui
  have hgv := h.row.lt gv rfl
  have hne : ∀ b, u'.ownBlock = some b → b ≠ gv := by
    intro b hb e
    subst e
    rcases hat b hb with a | a
    · exact hu3 b a rfl
    · omega
  have hrk : ∀ (x : Value) (n : Nat) (xs : List Value) (j : Nat), j ≠ i → us[j]? = some x → w.ownsRow base 64 3 x n xs → ∀ b, x.ownBlock = some b → row ≠ some b := by
    intro x n xs j hji hj hx b hb e
    rcases hrow b e with a | a
    · exact h.apart j i x u hji hj hui b hb a
    · have := hx.lt b hb; omega
  refine ⟨?_, fun j hj => ?_, ?_⟩
  · rw [List.length_set]
    exact ((h.row.kept hg (own_sep fun b hb e => by
      simp only [Value.ownBlock, Option.some.injEq] at hb
      subst hb
      rcases hrow _ e with a | a
      · exact hu3 _ a rfl
      · omega)).stored i u').1
  · have hj' : j < t.length := by rw [List.length_set] at hj; exact hj
    by_cases hji : j = i
    · subst hji
      refine ⟨u', by rw [List.getElem?_set_self (by rw [h.len]; exact hj')], ?_, fun b hb e => ?_⟩
      · rw [List.getElem_set_self]
        exact hu'.kept (grown_set w1 gv j u') (own_sep fun b hb e => hne b hb (by simpa using e.symm))
      · simp only [Value.ownBlock, Option.some.injEq] at e
        exact hne b hb e.symm
    · obtain ⟨x, h1, h2, h3⟩ := h.rows j hj'
      refine ⟨x, by rw [List.getElem?_set_ne (by omega)]; exact h1, ?_, h3⟩
      rw [List.getElem_set_ne (by omega)]
      refine (h2.kept hg (own_sep (hrk x _ _ j hji h1 h2))).kept (grown_set w1 gv i u') (own_sep fun b hb e => ?_)
      exact h3 b hb (by simpa [Value.ownBlock] using e)
  · have key : ∀ (j : Nat) (x : Value), (us.set i u')[j]? = some x → (j = i ∧ x = u') ∨ (j ≠ i ∧ us[j]? = some x) := by
      intro j x hx
      by_cases hji : j = i
      · subst hji
        rw [List.getElem?_set_self (by rw [h.len]; exact hi)] at hx
        exact .inl ⟨rfl, (Option.some.inj hx).symm⟩
      · rw [List.getElem?_set_ne (by omega)] at hx
        exact .inr ⟨hji, hx⟩
    intro p q x y hpq hx hy b hb
    rcases key p x hx with ⟨p1, rfl⟩ | ⟨p1, p2⟩
    · rcases key q y hy with ⟨q1, rfl⟩ | ⟨q1, q2⟩
      · omega
      · rcases hat b hb with a | a
        · exact h.apart i q u y (by omega) hui q2 b a
        · intro e
          obtain ⟨_, hq, _⟩ := h.at_ q2
          have := hq.lt b e
          omega
    · rcases key q y hy with ⟨q1, rfl⟩ | ⟨q1, q2⟩
      · intro e
        rcases hat b e with a | a
        · exact h.apart p i x u (by omega) p2 hui b hb a
        · obtain ⟨_, hp, _⟩ := h.at_ p2
          have := hp.lt b hb
          omega
      · exact h.apart p q x y hpq p2 q2 b hb
end
end Go.Proofs.YtnnfkmjhaljplaaGreat
