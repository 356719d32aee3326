/- What a slice reads as in memory, and what keeps it: plain lemmas; no program is named here. -/
import Derived.Below
import Derived.WalkKit
import Derived.Laws.OwnMore
import Derived.Laws.BytesArg
import Derived.Deep.Draws
import Derived.Maps.AppendAt
import Derived.OpenShut
namespace Go.Proofs.YtmdaianbhpppfaaDoor
open Go.RowKit

theorem hide {p : Prop} (h : p) : Hid p := h
theorem unhide {p : Prop} (h : Hid p) : p := h
theorem ret_int {k : IntKind} {a b : Int} (h : a = b) : Ending.returned (.int k a) = .returned (.int k b) := by rw [h]
theorem ret_bool {a b : Bool} (h : a = b) : Ending.returned (.bool a) = .returned (.bool b) := by rw [h]

/-- The slice address A leads to the cells vs, in a block below B. -/
def RdV (w : World) (B : Nat) (A : Option Addr) (vs : List Value) : Prop :=
  0 < vs.length → ∃ b off, A = some ⟨b, off, none⟩ ∧ b < B ∧ ∀ i, (h : i < vs.length) → w.cell? ⟨b, off + i, none⟩ = some vs[i]

/-- The same for integers of one kind. -/
def Rd (k : IntKind) (w : World) (B : Nat) (A : Option Addr) (l : List Int) : Prop := RdV w B A (l.map (Value.int k))

/-- Each number is a byte. -/
def B8 (l : List Int) : Prop := ∀ x ∈ l, 0 ≤ x ∧ x < 256

section
variable {w w' : World} {B B' : Nat} {A : Option Addr} {vs : List Value} {k : IntKind} {l : List Int}

theorem RdV.nil_ : RdV w B A [] := fun h => absurd h (by simp)
theorem RdV.keep (h : RdV w B A vs) (hk : ∀ p : Addr, p.block < B → w'.cell? p = w.cell? p) : RdV w' B A vs := by
  intro h0
  obtain ⟨b, off, e, hb, hc⟩ := h h0
  exact ⟨b, off, e, hb, fun i hi => (hk _ hb).trans (hc i hi)⟩
theorem RdV.more (h : RdV w B A vs) (hB : B ≤ B') : RdV w B' A vs := by
  intro h0
  obtain ⟨b, off, e, hb, hc⟩ := h h0
  exact ⟨b, off, e, by omega, hc⟩
theorem RdV.below (h : RdV w B A vs) (hb : Below B w w') : RdV w' B A vs := h.keep fun _ hp => hb.cell hp
theorem RdV.drew (h : RdV w B A vs) : RdV w.drew B A vs := h
theorem RdV.drewN (h : RdV w B A vs) (n : Nat) : RdV (w.drewN n) B A vs := h
theorem RdV.alloc (h : RdV w B A vs) (hB : B ≤ w.heap.size) (o : Obj) : RdV (w.alloc o) B A vs := h.keep fun p hp => World.cell?_alloc_lt w o p (by omega)
theorem RdV.size_alloc (h : RdV w w.heap.size A vs) (o : Obj) : RdV (w.alloc o) (w.alloc o).heap.size A vs := (h.alloc (Nat.le_refl _) o).more (by simp)
theorem RdV.lt (h : RdV w B A vs) : RdV w w.heap.size A vs := by
  intro h0
  obtain ⟨b, off, e, hb, hc⟩ := h h0
  exact ⟨b, off, e, block_lt_of_cell (hc 0 h0), hc⟩
theorem RdV.of_own {base : Nat} {e : TypeId} {size n c : Nat} (h : w.ownsRow base e size (.slice A n c) n vs) : RdV w w.heap.size A vs := by
  intro h0
  rcases h.2 with ⟨h', h''⟩ | ⟨g, cap, cur, h', _, hg, _, _, _, ht⟩
  · have := h.1
    rw [h'', Nat.zero_mul] at this
    omega
  · simp only [Value.slice.injEq, true_and] at h'
    obtain ⟨rfl, rfl⟩ := h'
    refine ⟨g, 0, rfl, ?_, fun i hi => ?_⟩
    · exact (h.lt g rfl).2
    · rw [h.cellAt (0 + i) (by rw [Nat.zero_add, ← h.1]; exact hi), Nat.zero_add, List.getElem?_eq_getElem hi]

theorem Rd.nil_ : Rd k w B A [] := RdV.nil_
theorem Rd.keep (h : Rd k w B A l) (hk : ∀ p : Addr, p.block < B → w'.cell? p = w.cell? p) : Rd k w' B A l := RdV.keep h hk
theorem Rd.more (h : Rd k w B A l) (hB : B ≤ B') : Rd k w B' A l := RdV.more h hB
theorem Rd.below (h : Rd k w B A l) (hb : Below B w w') : Rd k w' B A l := RdV.below h hb
theorem Rd.drew (h : Rd k w B A l) : Rd k w.drew B A l := h
theorem Rd.drewN (h : Rd k w B A l) (n : Nat) : Rd k (w.drewN n) B A l := h
theorem Rd.alloc (h : Rd k w B A l) (hB : B ≤ w.heap.size) (o : Obj) : Rd k (w.alloc o) B A l := RdV.alloc h hB o
theorem Rd.lt (h : Rd k w B A l) : Rd k w w.heap.size A l := RdV.lt h
theorem Rd.get (h : Rd k w B A l) {i : Nat} (hi : i < l.length) : ∃ b off, A = some ⟨b, off, none⟩ ∧ b < B ∧ w.cell? ⟨b, off + i, none⟩ = some (.int k l[i]) := by
  obtain ⟨b, off, e, hb, hc⟩ := h (by simp; omega)
  exact ⟨b, off, e, hb, by have := hc i (by simpa using hi); simpa using this⟩
theorem Rd.all (h : Rd k w B A l) (h0 : 0 < l.length) : ∃ b off, A = some ⟨b, off, none⟩ ∧ b < B ∧ ∀ i, (hi : i < l.length) → w.cell? ⟨b, off + i, none⟩ = some (.int k l[i]) := by
  obtain ⟨b, off, e, hb, hc⟩ := h (by simpa using h0)
  exact ⟨b, off, e, hb, fun i hi => by have := hc i (by simpa using hi); simpa using this⟩
theorem Rd.of_own {base : Nat} {e : TypeId} {n c : Nat} (h : w.ownsRow base e 1 (.slice A n c) n (l.map (Value.int k))) : Rd k w w.heap.size A l := RdV.of_own h
theorem Rd.take (h : Rd k w B A l) (n : Nat) : Rd k w B A (l.take n) := by
  intro h0
  have h0' : 0 < l.length := by
    rcases l with _ | ⟨x, l⟩
    · simp at h0
    · simp
  obtain ⟨b, off, e, hb, hc⟩ := h.all h0'
  refine ⟨b, off, e, hb, fun i hi => ?_⟩
  have hi' : i < l.length := by simp at hi; omega
  simpa using hc i hi'
/-- What the shell of a proof says of a slice of integers that came in. -/
theorem Rd.of_row {a : Option Addr} {len cap : Nat} {zs : List Int}
    (h : (a = none ∧ len = 0 ∧ cap = 0 ∧ zs = []) ∨
      ∃ x, a = some x ∧ len ≤ cap ∧ cap ≤ maxLen ∧ zs.length = cap ∧ (∀ i, i < zs.length → w.cell? (x.add i) = some (.int k (zs.getD i 0))) ∧ ∀ n ∈ zs, (Lit.int k n).wf = true) :
    ∃ l : List Int, len = l.length ∧ l.length ≤ maxLen ∧ Rd k w w.heap.size a l ∧ ∀ n ∈ l, (Lit.int k n).wf = true := by
  rcases h with ⟨rfl, rfl, rfl, rfl⟩ | ⟨x, rfl, hl, hm, hz, hc, hw⟩
  · exact ⟨[], rfl, by simp, Rd.nil_, by simp⟩
  · refine ⟨zs.take len, by rw [List.length_take]; omega, by rw [List.length_take]; omega, ?_, fun n hn => hw n (List.mem_of_mem_take hn)⟩
    intro h0
    have h1 : 0 < zs.length := by simp at h0; omega
    obtain ⟨b, off, rfl, hc'⟩ := ints_at hc h1
    refine ⟨b, off, rfl, block_lt_of_cell (hc' 0 h1), fun i hi => ?_⟩
    have hi' : i < zs.length := by simp at hi; omega
    rw [hc' i hi']
    simp [List.getD, hi']
end

theorem B8.of_wf {l : List Int} (h : ∀ n ∈ l, (Lit.int .u8 n).wf = true) : B8 l := fun n hn => by
  have := bounds_u8 (h n hn)
  omega
theorem B8.get {l : List Int} (h : B8 l) (i : Nat) (hi : i < l.length) : 0 ≤ l[i] ∧ l[i] < 256 := h _ (List.getElem_mem hi)
theorem B8.append {l m : List Int} (h : B8 l) (h' : B8 m) : B8 (l ++ m) := fun x hx => by
  rcases List.mem_append.1 hx with a | a
  · exact h x a
  · exact h' x a
theorem B8.one {n : Int} (h0 : 0 ≤ n) (h : n < 256) : B8 [n] := fun x hx => by simp at hx; subst hx; exact ⟨h0, h⟩
theorem B8.take {l : List Int} (h : B8 l) (n : Nat) : B8 (l.take n) := fun x hx => h x (List.mem_of_mem_take hx)
theorem B8.drop {l : List Int} (h : B8 l) (n : Nat) : B8 (l.drop n) := fun x hx => h x (List.mem_of_mem_drop hx)

/-- Two byte rows make one string just if they are one. -/
theorem str_inj {l m : List Int} (h : B8 l) (h' : B8 m) (e : strOfNums l = strOfNums m) : l = m := by
  have e1 : (l.map fun n => UInt8.ofNat n.toNat) = m.map fun n => UInt8.ofNat n.toNat := by
    rw [← strOfNums_data, ← strOfNums_data, e]
  apply List.ext_getElem
  · have := congrArg List.length e1
    simpa using this
  · intro i hi hj
    have h2 : (l.map fun n => UInt8.ofNat n.toNat)[i]'(by simpa using hi) = (m.map fun n => UInt8.ofNat n.toNat)[i]'(by simpa using hj) := by simp only [e1]
    simp only [List.getElem_map] at h2
    have h3 := congrArg UInt8.toNat h2
    simp only [UInt8.toNat_ofNat'] at h3
    have a := h.get i hi
    have b := h'.get i hj
    omega

/-- A byte row turned into a string. -/
theorem run_str {P : Program} {w : World} {B : Nat} {A : Option Addr} {l : List Int} (c : Nat) (src e : TypeId) (hs : P.underlying src = some (.slice e)) (he : P.underlying e = some (.int .u8)) (h : Rd .u8 w B A l)
    (dst : TypeId) (hd : P.underlying dst = some .string) : (convert src dst (.slice A l.length c)).run P w = .ok (.string (strOfNums l)) w := by
  rcases l with _ | ⟨x, l⟩
  · rcases A with _ | a
    · exact run_convert_bytes_nil w src e hs he 0 c dst hd
    · rw [run_convert_bytes_string w src dst e _ _ _ hs he hd]
      exact run_bytesToString (P := P) w a 0 c [] (by simp [loadCells, loadCellsFrom])
  · obtain ⟨b, off, rfl, _, hc⟩ := h.all (by simp)
    exact run_convert_bytes_arg w src e hs he b off _ c (x :: l) rfl (fun i hi => by rw [hc i hi, List.getD, List.getElem?_eq_getElem hi]; rfl) dst hd

theorem run_str_take {P : Program} {w : World} {B : Nat} {A : Option Addr} {l : List Int} (c : Nat) (src e : TypeId) (hs : P.underlying src = some (.slice e)) (he : P.underlying e = some (.int .u8)) (h : Rd .u8 w B A l)
    (n : Nat) (hn : n ≤ l.length) (dst : TypeId) (hd : P.underlying dst = some .string) : (convert src dst (.slice A n c)).run P w = .ok (.string (strOfNums (l.take n))) w := by
  have := run_str (P := P) c src e hs he (h.take n) dst hd
  rwa [List.length_take, Nat.min_eq_left hn] at this

theorem bcell {W w1 : World} (hb : Below W.heap.size W w1) : (∀ b o, b < W.heap.size → w1.cell? ⟨b, o, none⟩ = W.cell? ⟨b, o, none⟩) ∧ (∀ b o, b < W.heap.size → w1.frozen? ⟨b, o, none⟩ = W.frozen? ⟨b, o, none⟩) :=
  ⟨fun b o h => hb.cell (p := ⟨b, o, none⟩) h, fun b o h => hb.frozen (p := ⟨b, o, none⟩) h⟩
theorem own_mono {w : World} {base base' : Nat} {e : TypeId} {size n : Nat} {v : Value} {xs : List Value} (h : w.ownsRow base e size v n xs) (hb : base' ≤ base) : w.ownsRow base' e size v n xs := by
  refine ⟨h.1, ?_⟩
  rcases h.2 with h' | ⟨g, cap, cur, h1, h2, h3⟩
  · exact .inl h'
  · exact .inr ⟨g, cap, cur, h1, by omega, h3⟩
theorem own_shape {w : World} {base : Nat} {e : TypeId} {size n : Nat} {v : Value} {xs : List Value} (h : w.ownsRow base e size v n xs) : ∃ A c, v = .slice A n c := by
  rcases h.2 with ⟨h', h''⟩ | ⟨g, cap, cur, h', _⟩
  · exact ⟨none, 0, by rw [h', h'']⟩
  · exact ⟨_, _, h'⟩
theorem own_below {w w' : World} {base B : Nat} {e : TypeId} {size n : Nat} {v : Value} {xs : List Value} (h : w.ownsRow base e size v n xs) (hb : Below B w w') (hB : w.heap.size ≤ B) : w'.ownsRow base e size v n xs :=
  h.kept (row := none) ⟨hb.os, hb.tape, hb.output, hb.size, fun k hk _ => hb.block k (by omega)⟩ (by rcases h0 : v.ownBlock with _ | k <;> simp)
/-- Behind a call that laid a cell for its answer first. -/
theorem below_alloc {w w1 : World} {o : Obj} (hb : Below (w.alloc o).heap.size (w.alloc o) w1) : Below w.heap.size w w1 := ((Below.refl _ _).alloc (Nat.le_refl _) o).trans (hb.mono (by simp))
theorem own_alloc {w w1 : World} {o : Obj} {e : TypeId} {size n : Nat} {v : Value} {xs : List Value} (h : w1.ownsRow (w.alloc o).heap.size e size v n xs) : w1.ownsRow w.heap.size e size v n xs := own_mono h (by simp)
theorem own_alloc' {w w1 : World} {o : Obj} {e : TypeId} {size n : Nat} {v : Value} {xs : List Value} (h : w1.ownsRow (w.alloc o).heap.size e size v n xs) : w1.ownsRow (w.heap.size + 1) e size v n xs := own_mono h (by simp)
/-- A row of the call's own, behind a store into the answer's cell that lies ahead of it. -/
theorem own_set {w w1 : World} {o : Obj} {e : TypeId} {size n : Nat} {v : Value} {xs : List Value} (h : w1.ownsRow (w.alloc o).heap.size e size v n xs) (i : Nat) (u : Value) : (w1.setCell ⟨w.heap.size, i, none⟩ u).ownsRow (w.alloc o).heap.size e size v n xs :=
  ownsRow_setCell_below h (a := ⟨w.heap.size, i, none⟩) (by simp) u
/-- The answer's cell, laid first, behind whatever made new memory alone. -/
theorem res_cell {w w1 : World} {cs : Array Value} {t : TypeId} (hb : Below (w.alloc (.cells cs t)).heap.size (w.alloc (.cells cs t)) w1) (i : Nat) : w1.cell? ⟨w.heap.size, i, none⟩ = cs[i]? :=
  (hb.cell (p := ⟨w.heap.size, i, none⟩) (by simp)).trans (World.cell?_alloc_at (w := w) cs t w.heap.size i rfl)
theorem res_frozen {w w1 : World} {cs : Array Value} {t : TypeId} (hb : Below (w.alloc (.cells cs t)).heap.size (w.alloc (.cells cs t)) w1) (i : Nat) : w1.frozen? ⟨w.heap.size, i, none⟩ = false := by
  rw [hb.frozen (p := ⟨w.heap.size, i, none⟩) (by simp), frozen?_alloc_cells]
  simp [World.frozen?]

section
variable {w W w1 : World} {cs : Array Value} {t : TypeId}
theorem W_cell (hW : W = w.alloc (.cells cs t)) (hb : Below W.heap.size W w1) (i : Nat) : w1.cell? ⟨w.heap.size, i, none⟩ = cs[i]? := by subst hW; exact res_cell hb i
theorem W_frozen (hW : W = w.alloc (.cells cs t)) (hb : Below W.heap.size W w1) (i : Nat) : w1.frozen? ⟨w.heap.size, i, none⟩ = false := by subst hW; exact res_frozen hb i
theorem W_below (hW : W = w.alloc (.cells cs t)) (hb : Below W.heap.size W w1) : Below w.heap.size w w1 := by subst hW; exact below_alloc hb
theorem W_size (hW : W = w.alloc (.cells cs t)) : W.heap.size = w.heap.size + 1 := by subst hW; simp
theorem W_lt (hW : W = w.alloc (.cells cs t)) (hb : Below W.heap.size W w1) : w.heap.size < w1.heap.size := by have := hb.size; rw [W_size hW] at this; omega
theorem W_own (hW : W = w.alloc (.cells cs t)) {e : TypeId} {size n : Nat} {v : Value} {xs : List Value} (h : w1.ownsRow W.heap.size e size v n xs) : w1.ownsRow w.heap.size e size v n xs := own_mono h (by rw [W_size hW]; omega)
theorem W_set (hW : W = w.alloc (.cells cs t)) {e : TypeId} {size n : Nat} {v : Value} {xs : List Value} (h : w1.ownsRow W.heap.size e size v n xs) (i : Nat) (u : Value) : (w1.setCell ⟨w.heap.size, i, none⟩ u).ownsRow W.heap.size e size v n xs :=
  ownsRow_setCell_below h (a := ⟨w.heap.size, i, none⟩) (by rw [W_size hW]; simp) u
end
/-- Block g is known whole. -/
def Bk (w : World) (g : Nat) (cs : Array Value) (t : TypeId) : Prop := w.heap[g]? = some (.cells cs t (0, 0))
section
variable {w w' : World} {g B : Nat} {cs : Array Value} {t : TypeId}
theorem Bk.lt (h : Bk w g cs t) : g < w.heap.size := by
  rcases Nat.lt_or_ge g w.heap.size with a | a
  · exact a
  · unfold Bk at h
    rw [Array.getElem?_eq_none a] at h
    exact absurd h (by simp)
theorem Bk.new (w : World) (cs : Array Value) (t : TypeId) : Bk (w.alloc (.cells cs t)) w.heap.size cs t := heap_alloc_new w _
theorem Bk.cell (h : Bk w g cs t) (i : Nat) : w.cell? ⟨g, i, none⟩ = cs[i]? := cell_of_row w g i cs t (0, 0) h
theorem Bk.frozen (h : Bk w g cs t) (i : Nat) : w.frozen? ⟨g, i, none⟩ = false := frozen_of_row w g i cs t h
theorem Bk.below (h : Bk w g cs t) (hb : Below B w w') (hg : g < B) : Bk w' g cs t := (hb.block g hg).trans h
theorem Bk.kept (h : Bk w g cs t) (hb : Below w.heap.size w w') : Bk w' g cs t := h.below hb h.lt
theorem Bk.alloc (h : Bk w g cs t) (o : Obj) : Bk (w.alloc o) g cs t := (Below.heap_alloc w o g h.lt).trans h
theorem Bk.drewN (h : Bk w g cs t) (n : Nat) : Bk (w.drewN n) g cs t := h
theorem Bk.grown {row : Option Nat} (h : Bk w g cs t) (hg : w.grownBy w' row) (hn : some g ≠ row) : Bk w' g cs t := (hg.block g h.lt hn).trans h
theorem Bk.set_ (h : Bk w g cs t) (i : Nat) (u : Value) : Bk (w.setCell ⟨g, i, none⟩ u) g (cs.setIfInBounds i u) t := by
  unfold Bk at h ⊢
  exact heap_setCell_same w g i cs t u h
theorem Bk.far (h : Bk w g cs t) {p : Addr} (hp : g ≠ p.block) (u : Value) : Bk (w.setCell p u) g cs t := (Below.heap_setCell w p u g hp).trans h
end
/-- A row of the call's own lies apart from every block below its base, and from every block made later. -/
theorem own_apart {w : World} {base : Nat} {e : TypeId} {size n : Nat} {v : Value} {xs : List Value} (h : w.ownsRow base e size v n xs) (g : Nat) (hg : g < base ∨ w.heap.size ≤ g) : some g ≠ v.ownBlock := by
  intro he
  have := h.lt g he.symm
  omega
theorem grown_below {w w1 w' : World} {base B : Nat} {e : TypeId} {size n : Nat} {v : Value} {xs : List Value} (h : w.ownsRow base e size v n xs) (hg : w1.grownBy w' v.ownBlock) (hB : B ≤ w1.heap.size) (hb : B ≤ base) : Below B w1 w' :=
  (Below.refl _ _).grown hg hB (fun k hk => by have := h.lt k hk; omega)
section
variable {w w' : World} {B : Nat} {A : Option Addr} {vs : List Value} {k : IntKind} {l : List Int}
/-- What lies below a block is not turned by writes to that block alone. -/
theorem RdV.grown {g : Nat} (h : RdV w g A vs) (hg : w.grownBy w' (some g)) : RdV w' g A vs := by
  intro h0
  obtain ⟨b, off, e, hb, hc⟩ := h h0
  exact ⟨b, off, e, hb, fun i hi => hg.cell (hc i hi) (by simp; omega)⟩
theorem Rd.grown {g : Nat} (h : Rd k w g A l) (hg : w.grownBy w' (some g)) : Rd k w' g A l := RdV.grown h hg
theorem grown_from {a b c : World} {g B : Nat} (h : Below B a b) (hg : b.grownBy c (some g)) (hB : B ≤ b.heap.size) (hr : B ≤ g) : Below B a c :=
  h.grown hg hB (fun k hk => by simp at hk; omega)
end
theorem grown_set (w : World) (g i : Nat) (u : Value) : w.grownBy (w.setCell ⟨g, i, none⟩ u) (some g) :=
  ⟨rfl, rfl, rfl, by simp, fun k _ hk => Below.heap_setCell w ⟨g, i, none⟩ u k (fun e => hk (by simp [e]))⟩
theorem grown_drewN {w w' : World} {row : Option Nat} (h : w.grownBy w' row) (n : Nat) : w.grownBy (w'.drewN n) row := ⟨h.os, h.tape, h.output, h.size, h.block⟩
theorem w64 {n : Int} (h : -9223372036854775808 ≤ n ∧ n ≤ 9223372036854775807) : wrap64 n = n := by unfold wrap64; omega
theorem one_cell (k : IntKind) (x : Int) : ∀ u ∈ [Value.int k x], u.oneCell' = true := by intro u hu; simp at hu; subst hu; rfl
theorem cell_kept {w w' : World} {a : Addr} {v : Value} (hb : Below w.heap.size w w') (h : w.cell? a = some v) : w'.cell? a = some v := (hb.cell (block_lt_of_cell h)).trans h
end Go.Proofs.YtmdaianbhpppfaaDoor
