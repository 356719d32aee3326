/- What the laws' walks rest upon, part 1. -/
import Derived.Below
import Derived.WalkKit
import Derived.Laws.OwnMore
import Derived.Laws.BytesArg
import Derived.Deep.Draws
import Derived.Maps.AppendAt
import Derived.OpenShut
import Derived.Lib.EndianBits
namespace Go.Proofs.YtnnfkmjhaljplaaGreatDoor
open Go.RowKit
theorem hide {p : Prop} (h : p) : Hid p := h
theorem ret_int {k : IntKind} {a b : Int} (h : a = b) : Ending.returned (.int k a) = .returned (.int k b) := by rw [h]
theorem ret_bool {a b : Bool} (h : a = b) : Ending.returned (.bool a) = .returned (.bool b) := by rw [h]
/-- The slice address A leads to the cells vs, in a block below B. -/
def RdV (w : World) (B : Nat) (A : Option Addr) (vs : List Value) : Prop :=
  0 < vs.length → ∃ b off, A = some ⟨b, off, none⟩ ∧ b < B ∧ ∀ i, (h : i < vs.length) → w.cell? ⟨b, off + i, none⟩ = some vs[i]
/-- The same for integers of one kind. -/
def Rd (k : IntKind) (w : World) (B : Nat) (A : Option Addr) (l : List Int) : Prop := RdV w B A (l.map (Value.int k))
/-- Each number is a byte. -/
def B8 (l : List Int) : Prop := ∀ x ∈ l, 0 ≤ x ∧ x < 256
section
variable {w w' : World} {B B' : Nat} {A : Option Addr} {vs : List Value} {k : IntKind} {l : List Int}
theorem RdV.nil_ : RdV w B A [] := fun h => absurd h (by simp)
theorem RdV.keep (h : RdV w B A vs) (hk : ∀ p : Addr, p.block < B → w'.cell? p = w.cell? p) : RdV w' B A vs := by
  intro h0
  obtain ⟨b, off, e, hb, hc⟩ := h h0
  exact ⟨b, off, e, hb, fun i hi => (hk _ hb).trans (hc i hi)⟩
theorem RdV.more (h : RdV w B A vs) (hB : B ≤ B') : RdV w B' A vs := by
  intro h0
  obtain ⟨b, off, e, hb, hc⟩ := h h0
  exact ⟨b, off, e, by omega, hc⟩
theorem RdV.below (h : RdV w B A vs) (hb : Below B w w') : RdV w' B A vs := h.keep fun _ hp => hb.cell hp
theorem RdV.drew (h : RdV w B A vs) : RdV w.drew B A vs := h
theorem RdV.drewN (h : RdV w B A vs) (n : Nat) : RdV (w.drewN n) B A vs := h
theorem RdV.alloc (h : RdV w B A vs) (hB : B ≤ w.heap.size) (o : Obj) : RdV (w.alloc o) B A vs := h.keep fun p hp => World.cell?_alloc_lt w o p (by omega)
theorem RdV.size_alloc (h : RdV w w.heap.size A vs) (o : Obj) : RdV (w.alloc o) (w.alloc o).heap.size A vs := (h.alloc (Nat.le_refl _) o).more (by simp)
theorem RdV.lt (h : RdV w B A vs) : RdV w w.heap.size A vs := by
  intro h0
  obtain ⟨b, off, e, hb, hc⟩ := h h0
  exact ⟨b, off, e, block_lt_of_cell (hc 0 h0), hc⟩
theorem RdV.of_own {base : Nat} {e : TypeId} {size n c : Nat} (h : w.ownsRow base e size (.slice A n c) n vs) : RdV w w.heap.size A vs := by
  intro h0
  rcases h.2 with ⟨h', h''⟩ | ⟨g, cap, cur, h', _, hg, _, _, _, ht⟩
  · have := h.1
    rw [h'', Nat.zero_mul] at this
    omega
  · simp only [Value.slice.injEq, true_and] at h'
    obtain ⟨rfl, rfl⟩ := h'
    refine ⟨g, 0, rfl, ?_, fun i hi => ?_⟩
    · exact (h.lt g rfl).2
    · rw [h.cellAt (0 + i) (by rw [Nat.zero_add, ← h.1]; exact hi), Nat.zero_add, List.getElem?_eq_getElem hi]
theorem Rd.nil_ : Rd k w B A [] := RdV.nil_
theorem Rd.keep (h : Rd k w B A l) (hk : ∀ p : Addr, p.block < B → w'.cell? p = w.cell? p) : Rd k w' B A l := RdV.keep h hk
theorem Rd.more (h : Rd k w B A l) (hB : B ≤ B') : Rd k w B' A l := RdV.more h hB
theorem Rd.below (h : Rd k w B A l) (hb : Below B w w') : Rd k w' B A l := RdV.below h hb
theorem Rd.drew (h : Rd k w B A l) : Rd k w.drew B A l := h
theorem Rd.drewN (h : Rd k w B A l) (n : Nat) : Rd k (w.drewN n) B A l := h
theorem Rd.alloc (h : Rd k w B A l) (hB : B ≤ w.heap.size) (o : Obj) : Rd k (w.alloc o) B A l := RdV.alloc h hB o
theorem Rd.lt (h : Rd k w B A l) : Rd k w w.heap.size A l := RdV.lt h
theorem Rd.get (h : Rd k w B A l) {i : Nat} (hi : i < l.length) : ∃ b off, A = some ⟨b, off, none⟩ ∧ b < B ∧ w.cell? ⟨b, off + i, none⟩ = some (.int k l[i]) := by
  obtain ⟨b, off, e, hb, hc⟩ := h (by simp; omega)
  exact ⟨b, off, e, hb, by have := hc i (by simpa using hi); simpa using this⟩
theorem Rd.all (h : Rd k w B A l) (h0 : 0 < l.length) : ∃ b off, A = some ⟨b, off, none⟩ ∧ b < B ∧ ∀ i, (hi : i < l.length) → w.cell? ⟨b, off + i, none⟩ = some (.int k l[i]) := by
  obtain ⟨b, off, e, hb, hc⟩ := h (by simpa using h0)
  exact ⟨b, off, e, hb, fun i hi => by have := hc i (by simpa using hi); simpa using this⟩
theorem Rd.of_own {base : Nat} {e : TypeId} {n c : Nat} (h : w.ownsRow base e 1 (.slice A n c) n (l.map (Value.int k))) : Rd k w w.heap.size A l := RdV.of_own h
theorem Rd.take (h : Rd k w B A l) (n : Nat) : Rd k w B A (l.take n) := by
  intro h0
  have h0' : 0 < l.length := by
    rcases l with _ | ⟨x, l⟩
    · simp at h0
    · simp
  obtain ⟨b, off, e, hb, hc⟩ := h.all h0'
  refine ⟨b, off, e, hb, fun i hi => ?_⟩
  have hi' : i < l.length := by simp at hi; omega
  simpa using hc i hi'
/-- What the shell of a proof says of a slice of integers that came in. -/
theorem Rd.of_row {a : Option Addr} {len cap : Nat} {zs : List Int}
    (h : (a = none ∧ len = 0 ∧ cap = 0 ∧ zs = []) ∨
      ∃ x, a = some x ∧ len ≤ cap ∧ cap ≤ maxLen ∧ zs.length = cap ∧ (∀ i, i < zs.length → w.cell? (x.add i) = some (.int k (zs.getD i 0))) ∧ ∀ n ∈ zs, (Lit.int k n).wf = true) :
    ∃ l : List Int, len = l.length ∧ l.length ≤ maxLen ∧ Rd k w w.heap.size a l ∧ ∀ n ∈ l, (Lit.int k n).wf = true := by
  rcases h with ⟨rfl, rfl, rfl, rfl⟩ | ⟨x, rfl, hl, hm, hz, hc, hw⟩
  · exact ⟨[], rfl, by simp, Rd.nil_, by simp⟩
  · refine ⟨zs.take len, by rw [List.length_take]; omega, by rw [List.length_take]; omega, ?_, fun n hn => hw n (List.mem_of_mem_take hn)⟩
    intro h0
    have h1 : 0 < zs.length := by simp at h0; omega
    obtain ⟨b, off, rfl, hc'⟩ := ints_at hc h1
    refine ⟨b, off, rfl, block_lt_of_cell (hc' 0 h1), fun i hi => ?_⟩
    have hi' : i < zs.length := by simp at hi; omega
    rw [hc' i hi']
    simp [List.getD, hi']
end
theorem B8.of_wf {l : List Int} (h : ∀ n ∈ l, (Lit.int .u8 n).wf = true) : B8 l := fun n hn => by
  have := bounds_u8 (h n hn)
  omega
theorem B8.get {l : List Int} (h : B8 l) (i : Nat) (hi : i < l.length) : 0 ≤ l[i] ∧ l[i] < 256 := h _ (List.getElem_mem hi)
theorem B8.append {l m : List Int} (h : B8 l) (h' : B8 m) : B8 (l ++ m) := fun x hx => by
  rcases List.mem_append.1 hx with a | a
  · exact h x a
  · exact h' x a
theorem B8.one {n : Int} (h0 : 0 ≤ n) (h : n < 256) : B8 [n] := fun x hx => by simp at hx; subst hx; exact ⟨h0, h⟩
theorem B8.take {l : List Int} (h : B8 l) (n : Nat) : B8 (l.take n) := fun x hx => h x (List.mem_of_mem_take hx)
theorem B8.drop {l : List Int} (h : B8 l) (n : Nat) : B8 (l.drop n) := fun x hx => h x (List.mem_of_mem_drop hx)
/-- Two byte rows make one string just if they are one. -/
theorem str_inj {l m : List Int} (h : B8 l) (h' : B8 m) (e : strOfNums l = strOfNums m) : l = m := by
  have e1 : (l.map fun n => UInt8.ofNat n.toNat) = m.map fun n => UInt8.ofNat n.toNat := by
    rw [← strOfNums_data, ← strOfNums_data, e]
  apply List.ext_getElem
  · have := congrArg List.length e1
    simpa using this
  · intro i hi hj
    have h2 : (l.map fun n => UInt8.ofNat n.toNat)[i]'(by simpa using hi) = (m.map fun n => UInt8.ofNat n.toNat)[i]'(by simpa using hj) := by simp only [e1]
    simp only [List.getElem_map] at h2
    have h3 := congrArg UInt8.toNat h2
    simp only [UInt8.toNat_ofNat'] at h3
    have a := h.get i hi
    have b := h'.get i hj
    omega
/-- A byte row turned into a string. -/
theorem run_str {P : Program} {w : World} {B : Nat} {A : Option Addr} {l : List Int} (c : Nat) (src e : TypeId) (hs : P.underlying src = some (.slice e)) (he : P.underlying e = some (.int .u8)) (h : Rd .u8 w B A l)
    (dst : TypeId) (hd : P.underlying dst = some .string) : (convert src dst (.slice A l.length c)).run P w = .ok (.string (strOfNums l)) w := by
  rcases l with _ | ⟨x, l⟩
  · rcases A with _ | a
    · exact run_convert_bytes_nil w src e hs he 0 c dst hd
    · rw [run_convert_bytes_string w src dst e _ _ _ hs he hd]
      exact run_bytesToString (P := P) w a 0 c [] (by simp [loadCells, loadCellsFrom])
  · obtain ⟨b, off, rfl, _, hc⟩ := h.all (by simp)
    exact run_convert_bytes_arg w src e hs he b off _ c (x :: l) rfl (fun i hi => by rw [hc i hi, List.getD, List.getElem?_eq_getElem hi]; rfl) dst hd
theorem run_str_take {P : Program} {w : World} {B : Nat} {A : Option Addr} {l : List Int} (c : Nat) (src e : TypeId) (hs : P.underlying src = some (.slice e)) (he : P.underlying e = some (.int .u8)) (h : Rd .u8 w B A l)
    (n : Nat) (hn : n ≤ l.length) (dst : TypeId) (hd : P.underlying dst = some .string) : (convert src dst (.slice A n c)).run P w = .ok (.string (strOfNums (l.take n))) w := by
  have := run_str (P := P) c src e hs he (h.take n) dst hd
  rwa [List.length_take, Nat.min_eq_left hn] at this
theorem own_mono {w : World} {base base' : Nat} {e : TypeId} {size n : Nat} {v : Value} {xs : List Value} (h : w.ownsRow base e size v n xs) (hb : base' ≤ base) : w.ownsRow base' e size v n xs := by
  refine ⟨h.1, ?_⟩
  rcases h.2 with h' | ⟨g, cap, cur, h1, h2, h3⟩
  · exact .inl h'
  · exact .inr ⟨g, cap, cur, h1, by omega, h3⟩
theorem own_shape {w : World} {base : Nat} {e : TypeId} {size n : Nat} {v : Value} {xs : List Value} (h : w.ownsRow base e size v n xs) : ∃ A c, v = .slice A n c := by
  rcases h.2 with ⟨h', h''⟩ | ⟨g, cap, cur, h', _⟩
  · exact ⟨none, 0, by rw [h', h'']⟩
  · exact ⟨_, _, h'⟩
theorem own_below {w w' : World} {base B : Nat} {e : TypeId} {size n : Nat} {v : Value} {xs : List Value} (h : w.ownsRow base e size v n xs) (hb : Below B w w') (hB : w.heap.size ≤ B) : w'.ownsRow base e size v n xs :=
  h.kept (row := none) ⟨hb.os, hb.tape, hb.output, hb.size, fun k hk _ => hb.block k (by omega)⟩ (by rcases h0 : v.ownBlock with _ | k <;> simp)
/-- Behind a call that laid a cell for its answer first. -/
theorem below_alloc {w w1 : World} {o : Obj} (hb : Below (w.alloc o).heap.size (w.alloc o) w1) : Below w.heap.size w w1 := ((Below.refl _ _).alloc (Nat.le_refl _) o).trans (hb.mono (by simp))
/-- The answer's cell, laid first, behind whatever made new memory alone. -/
theorem res_cell {w w1 : World} {cs : Array Value} {t : TypeId} (hb : Below (w.alloc (.cells cs t)).heap.size (w.alloc (.cells cs t)) w1) (i : Nat) : w1.cell? ⟨w.heap.size, i, none⟩ = cs[i]? :=
  (hb.cell (p := ⟨w.heap.size, i, none⟩) (by simp)).trans (World.cell?_alloc_at (w := w) cs t w.heap.size i rfl)
theorem res_frozen {w w1 : World} {cs : Array Value} {t : TypeId} (hb : Below (w.alloc (.cells cs t)).heap.size (w.alloc (.cells cs t)) w1) (i : Nat) : w1.frozen? ⟨w.heap.size, i, none⟩ = false := by
  rw [hb.frozen (p := ⟨w.heap.size, i, none⟩) (by simp), frozen?_alloc_cells]
  simp [World.frozen?]
section
variable {w W w1 : World} {cs : Array Value} {t : TypeId}
theorem W_cell (hW : W = w.alloc (.cells cs t)) (hb : Below W.heap.size W w1) (i : Nat) : w1.cell? ⟨w.heap.size, i, none⟩ = cs[i]? := by subst hW; exact res_cell hb i
theorem W_frozen (hW : W = w.alloc (.cells cs t)) (hb : Below W.heap.size W w1) (i : Nat) : w1.frozen? ⟨w.heap.size, i, none⟩ = false := by subst hW; exact res_frozen hb i
theorem W_below (hW : W = w.alloc (.cells cs t)) (hb : Below W.heap.size W w1) : Below w.heap.size w w1 := by subst hW; exact below_alloc hb
theorem W_size (hW : W = w.alloc (.cells cs t)) : W.heap.size = w.heap.size + 1 := by subst hW; simp
theorem W_own (hW : W = w.alloc (.cells cs t)) {e : TypeId} {size n : Nat} {v : Value} {xs : List Value} (h : w1.ownsRow W.heap.size e size v n xs) : w1.ownsRow w.heap.size e size v n xs := own_mono h (by rw [W_size hW]; omega)
theorem W_set (hW : W = w.alloc (.cells cs t)) {e : TypeId} {size n : Nat} {v : Value} {xs : List Value} (h : w1.ownsRow W.heap.size e size v n xs) (i : Nat) (u : Value) : (w1.setCell ⟨w.heap.size, i, none⟩ u).ownsRow W.heap.size e size v n xs :=
  ownsRow_setCell_below h (a := ⟨w.heap.size, i, none⟩) (by rw [W_size hW]; simp) u
end
/-- Block g is known whole. -/
def Bk (w : World) (g : Nat) (cs : Array Value) (t : TypeId) : Prop := w.heap[g]? = some (.cells cs t (0, 0))
section
variable {w w' : World} {g B : Nat} {cs : Array Value} {t : TypeId}
theorem Bk.lt (h : Bk w g cs t) : g < w.heap.size := by
  rcases Nat.lt_or_ge g w.heap.size with a | a
  · exact a
  · unfold Bk at h
    rw [Array.getElem?_eq_none a] at h
    exact absurd h (by simp)
theorem Bk.new (w : World) (cs : Array Value) (t : TypeId) : Bk (w.alloc (.cells cs t)) w.heap.size cs t := heap_alloc_new w _
theorem Bk.cell (h : Bk w g cs t) (i : Nat) : w.cell? ⟨g, i, none⟩ = cs[i]? := cell_of_row w g i cs t (0, 0) h
theorem Bk.frozen (h : Bk w g cs t) (i : Nat) : w.frozen? ⟨g, i, none⟩ = false := frozen_of_row w g i cs t h
theorem Bk.below (h : Bk w g cs t) (hb : Below B w w') (hg : g < B) : Bk w' g cs t := (hb.block g hg).trans h
theorem Bk.kept (h : Bk w g cs t) (hb : Below w.heap.size w w') : Bk w' g cs t := h.below hb h.lt
theorem Bk.alloc (h : Bk w g cs t) (o : Obj) : Bk (w.alloc o) g cs t := (Below.heap_alloc w o g h.lt).trans h
theorem Bk.drewN (h : Bk w g cs t) (n : Nat) : Bk (w.drewN n) g cs t := h
theorem Bk.grown {row : Option Nat} (h : Bk w g cs t) (hg : w.grownBy w' row) (hn : some g ≠ row) : Bk w' g cs t := (hg.block g h.lt hn).trans h
theorem Bk.set_ (h : Bk w g cs t) (i : Nat) (u : Value) : Bk (w.setCell ⟨g, i, none⟩ u) g (cs.setIfInBounds i u) t := by
  unfold Bk at h ⊢
  exact heap_setCell_same w g i cs t u h
theorem Bk.far (h : Bk w g cs t) {p : Addr} (hp : g ≠ p.block) (u : Value) : Bk (w.setCell p u) g cs t := (Below.heap_setCell w p u g hp).trans h
end
/-- A row of the call's own lies apart from every block below its base, and from every block made later. -/
theorem own_apart {w : World} {base : Nat} {e : TypeId} {size n : Nat} {v : Value} {xs : List Value} (h : w.ownsRow base e size v n xs) (g : Nat) (hg : g < base ∨ w.heap.size ≤ g) : some g ≠ v.ownBlock := by
  intro he
  have := h.lt g he.symm
  omega
theorem grown_below {w w1 w' : World} {base B : Nat} {e : TypeId} {size n : Nat} {v : Value} {xs : List Value} (h : w.ownsRow base e size v n xs) (hg : w1.grownBy w' v.ownBlock) (hB : B ≤ w1.heap.size) (hb : B ≤ base) : Below B w1 w' :=
  (Below.refl _ _).grown hg hB (fun k hk => by have := h.lt k hk; omega)
section
variable {w w' : World} {B : Nat} {A : Option Addr} {vs : List Value} {k : IntKind} {l : List Int}
/-- What lies below a block is not turned by writes to that block alone. -/
theorem RdV.grown {g : Nat} (h : RdV w g A vs) (hg : w.grownBy w' (some g)) : RdV w' g A vs := by
  intro h0
  obtain ⟨b, off, e, hb, hc⟩ := h h0
  exact ⟨b, off, e, hb, fun i hi => hg.cell (hc i hi) (by simp; omega)⟩
theorem Rd.grown {g : Nat} (h : Rd k w g A l) (hg : w.grownBy w' (some g)) : Rd k w' g A l := RdV.grown h hg
end
theorem grown_set (w : World) (g i : Nat) (u : Value) : w.grownBy (w.setCell ⟨g, i, none⟩ u) (some g) :=
  ⟨rfl, rfl, rfl, by simp, fun k _ hk => Below.heap_setCell w ⟨g, i, none⟩ u k (fun e => hk (by simp [e]))⟩
theorem grown_drewN {w w' : World} {row : Option Nat} (h : w.grownBy w' row) (n : Nat) : w.grownBy (w'.drewN n) row := ⟨h.os, h.tape, h.output, h.size, h.block⟩
theorem one_cell (k : IntKind) (x : Int) : ∀ u ∈ [Value.int k x], u.oneCell' = true := by intro u hu; simp at hu; subst hu; rfl
theorem cell_kept {w w' : World} {a : Addr} {v : Value} (hb : Below w.heap.size w w') (h : w.cell? a = some v) : w'.cell? a = some v := (hb.cell (block_lt_of_cell h)).trans h
end Go.Proofs.YtnnfkmjhaljplaaGreatDoor
namespace Go.Proofs.YtnnfkmjhaljplaaGreatDoor
open Go.RowKit
def zigI (n : Int) : Int := if 0 ≤ n then 2 * n else -2 * n - 1
def zagI (n : Int) : Int := if n % 2 = 0 then n / 2 else -((n + 1) / 2)
/-- The code and the value of the folded number; and of the one unfolded again. -/
def zigC (n : Int) : Int := if -1000000000000 ≤ n ∧ n ≤ 1000000000000 then 0 else 3
def zigV (n : Int) : Int := if -1000000000000 ≤ n ∧ n ≤ 1000000000000 then zigI n else 0
def zagC (n : Int) : Int := if 0 ≤ n ∧ n ≤ 2000000000000 then 0 else 3
def zagV (n : Int) : Int := if 0 ≤ n ∧ n ≤ 2000000000000 then zagI n else 0
theorem zig_in {n : Int} (h : -1000000000000 ≤ n ∧ n ≤ 1000000000000) : zigC n = 0 ∧ zigV n = zigI n := ⟨if_pos h, if_pos h⟩
theorem zag_in {n : Int} (h : 0 ≤ n ∧ n ≤ 2000000000000) : zagC n = 0 ∧ zagV n = zagI n := ⟨if_pos h, if_pos h⟩
theorem zag_out {n : Int} (h : ¬ (0 ≤ n ∧ n ≤ 2000000000000)) : zagC n = 3 ∧ zagV n = 0 := ⟨if_neg h, if_neg h⟩
theorem zigI_pos {n : Int} (h : 0 ≤ n) : zigI n = 2 * n := if_pos h
theorem zigI_neg {n : Int} (h : ¬ 0 ≤ n) : zigI n = -2 * n - 1 := if_neg h
theorem zagI_even {n : Int} (h : n % 2 = 0) : zagI n = n / 2 := if_pos h
theorem zagI_odd {n : Int} (h : ¬ n % 2 = 0) : zagI n = -((n + 1) / 2) := if_neg h
theorem zag_wrap {n : Int} (h : 0 ≤ n) (h2 : n ≤ 2000000000000) : wrap64 (-(n + 1).tdiv 2) = -((n + 1) / 2) := by
  rw [Int.tdiv_eq_ediv_of_nonneg (by omega)]
  unfold wrap64
  omega
theorem zig_zag {n : Int} (h : zagC n = 0) : zigC (zagV n) = 0 ∧ zigV (zagV n) = n := by
  unfold zagC at h
  by_cases hn : 0 ≤ n ∧ n ≤ 2000000000000
  · rw [(zag_in hn).2]
    by_cases h0 : n % 2 = 0
    · rw [zagI_even h0]
      have := zig_in (n := n / 2) (by omega)
      rw [this.1, this.2, zigI_pos (by omega)]
      omega
    · rw [zagI_odd h0]
      have := zig_in (n := -((n + 1) / 2)) (by omega)
      rw [this.1, this.2, zigI_neg (by omega)]
      omega
  · rw [if_neg hn] at h
    omega
end Go.Proofs.YtnnfkmjhaljplaaGreatDoor
namespace Go.Proofs.YtnnfkmjhaljplaaGreatDoor
def putF : Nat → Int → List Int
  | 0, q => [q]
  | f + 1, q => if q < 128 then [q] else (q % 128 + 128) :: putF f (q / 128)
/-- The bytes of a number: groups of seven bits, the lowest ones first, 128 more in all but the last. -/
def putL (q : Int) : List Int := putF q.toNat q
theorem putF_ext : ∀ (f g : Nat) (q : Int), 0 ≤ q → q.toNat ≤ f → q.toNat ≤ g → putF f q = putF g q
  | 0, 0, _, _, _, _ => rfl
  | 0, g + 1, q, h0, h1, _ => by
    have : q < 128 := by omega
    simp [putF, this]
  | f + 1, 0, q, h0, _, h2 => by
    have : q < 128 := by omega
    simp [putF, this]
  | f + 1, g + 1, q, h0, h1, h2 => by
    by_cases h : q < 128
    · simp [putF, h]
    · simp only [putF, h, if_false]
      rw [putF_ext f g (q / 128) (by omega) (by omega) (by omega)]
theorem putL_small {q : Int} (h : q < 128) : putL q = [q] := by
  unfold putL
  rcases q.toNat with _ | f
  · rfl
  · simp [putF, h]
theorem putL_big {q : Int} (h : 128 ≤ q) : putL q = (q % 128 + 128) :: putL (q / 128) := by
  unfold putL
  obtain ⟨f, hf⟩ : ∃ f, q.toNat = f + 1 := ⟨q.toNat - 1, by omega⟩
  rw [hf]
  have h' : ¬ q < 128 := by omega
  simp only [putF, h', if_false]
  rw [putF_ext f (q / 128).toNat (q / 128) (by omega) (by omega) (by omega)]
theorem putL_pos (q : Int) : 0 < (putL q).length := by
  unfold putL
  rcases q.toNat with _ | f
  · simp [putF]
  · simp only [putF]; split <;> simp
theorem putL_len_step {B : Int} {k : Nat} (h : ∀ q : Int, 0 ≤ q → q < B → (putL q).length ≤ k) : ∀ q : Int, 0 ≤ q → q < 128 * B → (putL q).length ≤ k + 1 := by
  intro q h0 h1
  by_cases hq : q < 128
  · rw [putL_small hq]; simp
  · rw [putL_big (by omega)]
    have := h (q / 128) (by omega) (by omega)
    simpa using this
theorem putL_len {q : Int} (h0 : 0 ≤ q) (h1 : q ≤ 9223372036854775807) : (putL q).length ≤ 9 := by
  have a1 : ∀ q : Int, 0 ≤ q → q < 128 → (putL q).length ≤ 1 := fun q _ h => by rw [putL_small h]; simp
  have a2 := putL_len_step a1
  have a3 := putL_len_step a2
  have a4 := putL_len_step a3
  have a5 := putL_len_step a4
  have a6 := putL_len_step a5
  have a7 := putL_len_step a6
  have a8 := putL_len_step a7
  have a9 := putL_len_step a8
  exact a9 q h0 (by omega)
theorem putL_B8 : ∀ (f : Nat) (q : Int), 0 ≤ q → q.toNat ≤ f → B8 (putL q)
  | f, q, h0, hf => by
    by_cases hq : q < 128
    · rw [putL_small hq]; exact B8.one h0 (by omega)
    · rw [putL_big (by omega)]
      match f with
      | 0 => omega
      | f + 1 =>
        intro x hx
        rcases List.mem_cons.1 hx with rfl | hx
        · omega
        · exact putL_B8 f (q / 128) (by omega) (by omega) x hx
end Go.Proofs.YtnnfkmjhaljplaaGreatDoor
namespace Go.Proofs.YtnnfkmjhaljplaaGreatDoor
open Go.RowKit
/-- The number that groups of seven bits make, the lowest one first. -/
def valL : List Int → Int
  | [] => 0
  | b :: r => b % 128 + 128 * valL r
/-- How many bytes go on. -/
def rdK : List Int → Nat
  | [] => 0
  | b :: r => if 128 ≤ b then rdK r + 1 else 0
def rdGood (l : List Int) : Prop := ∃ h : rdK l < l.length, rdK l < 9 ∧ (rdK l = 0 ∨ l[rdK l] ≠ 0)
open Classical in
noncomputable def rdC (l : List Int) : Int := if rdGood l then 0 else 5
open Classical in
noncomputable def rdV (l : List Int) : Int := if rdGood l then valL (l.take (rdK l + 1)) else 0
open Classical in
noncomputable def rdZ (l : List Int) : Int := if rdGood l then rdK l + 1 else 0
theorem rd_good {l : List Int} (h : rdGood l) : rdC l = 0 ∧ rdV l = valL (l.take (rdK l + 1)) ∧ rdZ l = rdK l + 1 := ⟨if_pos h, if_pos h, if_pos h⟩
theorem rd_bad {l : List Int} (h : ¬ rdGood l) : rdC l = 5 ∧ rdV l = 0 ∧ rdZ l = 0 := ⟨if_neg h, if_neg h, if_neg h⟩
/-- Where all ahead of j go on, the count is at least j; where the one at j does not, it is j. -/
theorem rdK_ge : ∀ (l : List Int) (j : Nat), j ≤ l.length → (∀ i, (h : i < l.length) → i < j → 128 ≤ l[i]) → j ≤ rdK l
  | _, 0, _, _ => Nat.zero_le _
  | [], j + 1, h, _ => by simp at h
  | b :: r, j + 1, hj, h => by
    have h0 : 128 ≤ b := h 0 (by simp) (by omega)
    simp only [rdK, h0, if_true]
    have := rdK_ge r j (by simpa using hj) (fun i hi hij => by have := h (i + 1) (by simpa using hi) (by omega); simpa using this)
    omega
theorem rdK_eq : ∀ (l : List Int) (j : Nat) (hj : j < l.length), (∀ i, (h : i < l.length) → i < j → 128 ≤ l[i]) → l[j] < 128 → rdK l = j
  | [], j, hj, _, _ => by simp at hj
  | b :: r, 0, _, _, h0 => by
    have : ¬ 128 ≤ b := by simp at h0; omega
    simp [rdK, this]
  | b :: r, j + 1, hj, h, hl => by
    have h0 : 128 ≤ b := h 0 (by simp) (by omega)
    simp only [rdK, h0, if_true]
    rw [rdK_eq r j (by simpa using hj) (fun i hi hij => by have := h (i + 1) (by simpa using hi) (by omega); simpa using this) (by simpa using hl)]
theorem rdK_at : ∀ (l : List Int) (h : rdK l < l.length), l[rdK l] < 128
  | [], h => by simp at h
  | b :: r, h => by
    by_cases hb : 128 ≤ b
    · have e : rdK (b :: r) = rdK r + 1 := by simp [rdK, hb]
      have h' : rdK r < r.length := by rw [e] at h; simpa using h
      have := rdK_at r h'
      simp only [e, List.getElem_cons_succ]
      exact this
    · have e : rdK (b :: r) = 0 := by simp [rdK, hb]
      simp only [e, List.getElem_cons_zero]
      omega
theorem rdK_lt : ∀ (l : List Int) (i : Nat) (h : i < l.length), i < rdK l → 128 ≤ l[i]
  | [], i, h, _ => by simp at h
  | b :: r, i, h, hi => by
    by_cases hb : 128 ≤ b
    · simp only [rdK, hb, if_true] at hi
      match i, h, hi with
      | 0, _, _ => simpa using hb
      | i + 1, h, hi => simpa using rdK_lt r i (by simpa using h) (by omega)
    · simp [rdK, hb] at hi
theorem valL_nonneg {l : List Int} (_h : B8 l) : 0 ≤ valL l := by
  induction l with
  | nil => simp [valL]
  | cons b r ih =>
    simp only [valL]
    have := ih (fun x hx => _h x (List.mem_cons_of_mem _ hx))
    omega
theorem valL_snoc : ∀ (l : List Int) (b : Int), valL (l ++ [b]) = valL l + (b % 128) * 128 ^ l.length
  | [], b => by simp [valL]
  | a :: r, b => by
    simp only [List.cons_append, valL, valL_snoc r b, List.length_cons]
    rw [Int.pow_succ, Int.mul_add, ← Int.mul_assoc, ← Int.mul_assoc]
    rw [show (128 : Int) * (b % 128) * 128 ^ r.length = b % 128 * 128 ^ r.length * 128 by
      rw [Int.mul_comm 128 (b % 128), Int.mul_assoc, Int.mul_assoc, Int.mul_comm 128]]
    omega
theorem valL_lt : ∀ (l : List Int), valL l < 128 ^ l.length
  | [] => by simp [valL]
  | b :: r => by
    simp only [valL, List.length_cons, Int.pow_succ]
    have := valL_lt r
    omega
theorem wraps_i64_63 (n : Int) (h₀ : 0 ≤ n) (h₁ : n < 2 ^ 63) : IntKind.i64.wrap n = n := by rw [IntKind.wrap_i64]; omega
/-- One more group of seven bits, laid above those that are there. -/
theorem or_group (v x : Int) (j : Nat) (hj : j ≤ 8) (hv0 : 0 ≤ v) (hv : v < 128 ^ j) (hx0 : 0 ≤ x) (hx : x < 128) : bits .or .i64 v (wrap64 (x * 2 ^ (7 * j))) = v + x * 128 ^ j := by
  have e : (128 : Int) ^ j = 2 ^ (7 * j) := by rw [Int.pow_mul]; rfl
  rw [e] at hv ⊢
  have hc : j = 0 ∨ j = 1 ∨ j = 2 ∨ j = 3 ∨ j = 4 ∨ j = 5 ∨ j = 6 ∨ j = 7 ∨ j = 8 := by omega
  have hw : wrap64 (x * 2 ^ (7 * j)) = x * 2 ^ (7 * j) := by
    unfold wrap64
    rcases hc with rfl | rfl | rfl | rfl | rfl | rfl | rfl | rfl | rfl <;> omega
  rw [hw]
  refine bits_join_low .i64 63 (by decide) wraps_i64_63 (7 * j) v _ hv0 hv ?_ ?_ (Int.mul_emod_left _ _) ?_
  all_goals rcases hc with rfl | rfl | rfl | rfl | rfl | rfl | rfl | rfl | rfl <;> omega
/-- The same, as the round of the loop says it. -/
theorem or_take {l : List Int} (b : B8 l) (j : Nat) (hj : j < l.length) (h8 : j ≤ 8) : bits .or .i64 (valL (l.take j)) (wrap64 (l[j] % 128 * 2 ^ (7 * j))) = valL (l.take (j + 1)) := by
  have h0 := valL_nonneg (b.take j)
  have h1 := valL_lt (l.take j)
  rw [List.length_take, Nat.min_eq_left (by omega)] at h1
  have := b.get j hj
  rw [or_group _ _ j h8 h0 h1 (by omega) (by omega), List.take_succ_eq_append_getElem hj, valL_snoc, List.length_take, Nat.min_eq_left (by omega)]
/-- All ahead of j go on. -/
def Cont (l : List Int) (j : Nat) : Prop := ∀ i, (h : i < l.length) → i < j → 128 ≤ l[i]
theorem Cont.zero (l : List Int) : Cont l 0 := fun i _ hi => by omega
theorem Cont.step {l : List Int} {j : Nat} (h : Cont l j) (hj : j < l.length) (hb : 128 ≤ l[j]) : Cont l (j + 1) := fun i hi hij => by
  by_cases e : i = j
  · subst e; exact hb
  · exact h i hi (by omega)
theorem rd_at {l : List Int} {j : Nat} (hj : j < l.length) (hc : Cont l j) (h : l[j] < 128) (h9 : j < 9) (hz : j = 0 ∨ l[j] ≠ 0) : rdC l = 0 ∧ rdV l = valL (l.take (j + 1)) ∧ rdZ l = j + 1 := by
  have hk := rdK_eq l j hj hc h
  have hg : rdGood l := by
    refine ⟨by omega, by omega, ?_⟩
    simp only [hk]
    exact hz
  have := rd_good hg
  rw [hk] at this
  exact this
theorem rd_zero {l : List Int} {j : Nat} (hj : j < l.length) (hc : Cont l j) (h : l[j] = 0) (h0 : 0 < j) : rdC l = 5 ∧ rdV l = 0 ∧ rdZ l = 0 := by
  have hk := rdK_eq l j hj hc (by omega)
  apply rd_bad
  rintro ⟨a, _, c⟩
  simp only [hk] at c
  omega
theorem rd_end {l : List Int} {j : Nat} (hj : j ≤ l.length) (hc : Cont l j) (h : j = l.length ∨ 9 ≤ j) : rdC l = 5 ∧ rdV l = 0 ∧ rdZ l = 0 := by
  have hk := rdK_ge l j hj hc
  apply rd_bad
  rintro ⟨a, b, _⟩
  omega
theorem or_take0 {l : List Int} (b : B8 l) (j : Nat) (hj : j < l.length) (h8 : j ≤ 8) (hz : l[j] = 0) : bits .or .i64 (valL (l.take j)) (wrap64 0) = valL (l.take (j + 1)) := by
  have := or_take b j hj h8
  rw [hz] at this
  simpa using this
/-- The last byte of a number that is not 0 is not 0. -/
theorem putL_last : ∀ (f : Nat) (q : Int), 1 ≤ q → q.toNat ≤ f → ∀ x, (putL q).getLast? = some x → x ≠ 0
  | 0, q, h, hf, _, _ => by omega
  | f + 1, q, h, hf, x, hx => by
    by_cases hq : q < 128
    · rw [putL_small hq] at hx
      simp at hx
      omega
    · rw [putL_big (by omega), List.getLast?_cons_of_ne_nil (by have := putL_pos (q / 128); intro e; rw [e] at this; simp at this)] at hx
      exact putL_last f (q / 128) (by omega) (by omega) x hx
/-- All but the last go on; the last does not. -/
def Form : List Int → Prop
  | [] => False
  | [b] => 0 ≤ b ∧ b < 128
  | b :: r => 128 ≤ b ∧ b < 256 ∧ Form r
theorem Form.nonneg : ∀ {m : List Int}, Form m → 0 ≤ valL m
  | [], h => h.elim
  | [b], h => by simp only [valL]; omega
  | b :: c :: r, h => by have := Form.nonneg h.2.2; simp only [valL] at this ⊢; omega
theorem Form.pos : ∀ {m : List Int}, Form m → (∀ x, m.getLast? = some x → x ≠ 0) → 1 ≤ valL m
  | [], h, _ => h.elim
  | [b], h, hx => by
    have := hx b (by simp)
    simp only [valL]
    have h1 := h.1
    have h2 := h.2
    omega
  | b :: c :: r, h, hx => by
    have := Form.pos h.2.2 (fun x hh => hx x (by rw [List.getLast?_cons_of_ne_nil (by simp)]; exact hh))
    simp only [valL] at this ⊢
    omega
theorem Form.put : ∀ {m : List Int}, Form m → (m.length = 1 ∨ ∀ x, m.getLast? = some x → x ≠ 0) → putL (valL m) = m
  | [], h, _ => h.elim
  | [b], h, _ => by
    have h1 := h.1
    have h2 := h.2
    have e : valL [b] = b := by simp only [valL]; omega
    rw [e, putL_small h2]
  | b :: c :: r, h, hx => by
    have h1 := h.1
    have h2 := h.2.1
    have hl : ∀ x, (c :: r).getLast? = some x → x ≠ 0 := by
      rcases hx with hx | hx
      · simp at hx
      · exact fun x hh => hx x (by rw [List.getLast?_cons_of_ne_nil (by simp)]; exact hh)
    have hp := Form.pos h.2.2 hl
    have ih := Form.put h.2.2 (.inr hl)
    have e : valL (b :: c :: r) = b % 128 + 128 * valL (c :: r) := by simp only [valL]
    rw [e, putL_big (by omega), show (b % 128 + 128 * valL (c :: r)) / 128 = valL (c :: r) by omega, ih]
    congr 1
    omega
theorem Form.put_not {m : List Int} (h : Form m) (h1 : 1 < m.length) (hz : m.getLast? = some 0) : putL (valL m) ≠ m := by
  intro e
  by_cases h0 : 1 ≤ valL m
  · exact putL_last _ _ h0 (Nat.le_refl _) 0 (by rw [e]; exact hz) rfl
  · have hv : valL m = 0 := by have := h.nonneg; omega
    rw [hv, putL_small (by omega)] at e
    rw [← e] at h1
    simp at h1
theorem Form.of_take : ∀ (l : List Int) (j : Nat) (hj : j < l.length), B8 l → Cont l j → l[j] < 128 → Form (l.take (j + 1))
  | [], j, hj, _, _, _ => by simp at hj
  | b :: r, 0, _, h8, _, hl => by
    have := h8 b (by simp)
    simp at hl
    simp [Form]
    omega
  | b :: r, j + 1, hj, h8, hc, hl => by
    have h0 := hc 0 (by simp) (by omega)
    have h1 := h8 b (by simp)
    have ih := Form.of_take r j (by simpa using hj) (fun x hx => h8 x (List.mem_cons_of_mem _ hx)) (fun i hi hij => by have := hc (i + 1) (by simpa using hi) (by omega); simpa using this) (by simpa using hl)
    match r, hj, ih with
    | [], hj, _ => simp at hj
    | c :: r, _, ih => simp only [List.take_succ_cons] at ih ⊢; exact ⟨by simpa using h0, h1.2, ih⟩
theorem last_take (l : List Int) (j : Nat) (hj : j < l.length) : (l.take (j + 1)).getLast? = some l[j] := by
  rw [List.take_succ_eq_append_getElem hj, List.getLast?_concat]
/-- What is read is what was put, just if the bytes are those that a number is put into. -/
theorem rd_put {l : List Int} {j : Nat} (hj : j < l.length) (h8 : B8 l) (hc : Cont l j) (hl : l[j] < 128) (hz : j = 0 ∨ l[j] ≠ 0) : putL (valL (l.take (j + 1))) = l.take (j + 1) := by
  refine (Form.of_take l j hj h8 hc hl).put ?_
  rcases hz with rfl | hz
  · exact .inl (by simp; omega)
  · right
    intro x hx
    rw [last_take l j hj] at hx
    simp at hx
    omega
theorem rd_put_not {l : List Int} {j : Nat} (hj : j < l.length) (h8 : B8 l) (hc : Cont l j) (h0 : 0 < j) (hz : l[j] = 0) : putL (valL (l.take (j + 1))) ≠ l.take (j + 1) :=
  (Form.of_take l j hj h8 hc (by omega)).put_not (by simp; omega) (by rw [last_take l j hj, hz])
/-- What the bytes from q to j make. -/
def segV (l : List Int) (j q : Nat) : Int := valL ((l.take (j + 1)).drop q)
theorem segV_end (l : List Int) (j : Nat) : segV l j (j + 1) = 0 := by
  unfold segV
  rw [List.drop_of_length_le (by simp; omega)]
  rfl
theorem segV_all (l : List Int) (j : Nat) : segV l j 0 = valL (l.take (j + 1)) := by simp [segV]
theorem segV_step (l : List Int) (j q : Nat) (hj : j < l.length) (hq : q ≤ j) : segV l j q = segV l j (q + 1) * 128 + l[q] % 128 := by
  unfold segV
  rw [List.drop_eq_getElem_cons (by simp; omega)]
  simp only [valL, List.getElem_take]
  omega
theorem segV_nonneg {l : List Int} (b : B8 l) (j q : Nat) : 0 ≤ segV l j q := valL_nonneg ((b.take _).drop _)
theorem pow128_le {a b : Nat} (h : a ≤ b) : (128 : Int) ^ a ≤ 128 ^ b := by
  have := Nat.pow_le_pow_right (show 0 < 128 by omega) h
  exact_mod_cast this
theorem segV_lt (l : List Int) (j q : Nat) (hj : j ≤ 8) (hq : 1 ≤ q) : segV l j q < 72057594037927936 := by
  have h1 := valL_lt ((l.take (j + 1)).drop q)
  have h2 : ((l.take (j + 1)).drop q).length ≤ 8 := by simp; omega
  have h3 := pow128_le h2
  unfold segV
  omega
theorem segV_max {l : List Int} (b : B8 l) (j : Nat) (hj : j ≤ 8) (hl : j < l.length) : segV l j 0 ≤ 9223372036854775807 := by
  have h0 : segV l j 0 = segV l j 1 * 128 + l[0] % 128 := segV_step l j 0 hl (by omega)
  have h1 := segV_lt l j 1 hj (by omega)
  have h2 := b.get 0 (by omega)
  omega
end Go.Proofs.YtnnfkmjhaljplaaGreatDoor
namespace Go.Proofs.YtnnfkmjhaljplaaGreatDoor
/-- What is read was put just so. -/
theorem rd_back {l : List Int} (b : B8 l) (h : rdC l = 0) : 1 ≤ rdZ l ∧ rdZ l ≤ l.length ∧ 0 ≤ rdV l ∧ rdV l ≤ 9223372036854775807 ∧ putL (rdV l) = l.take (rdZ l).toNat := by
  by_cases hg : rdGood l
  · obtain ⟨h1, h2, h3⟩ := hg
    have R := rd_good ⟨h1, h2, h3⟩
    have hc : Cont l (rdK l) := fun i hi hik => rdK_lt l i hi hik
    have hp := rd_put h1 b hc (rdK_at l h1) h3
    have hv := segV_max b (rdK l) (by omega) h1
    rw [segV_all] at hv
    rw [R.2.1, R.2.2]
    refine ⟨by omega, by omega, valL_nonneg (b.take _), hv, ?_⟩
    rw [show ((rdK l : Int) + 1).toNat = rdK l + 1 by omega]
    exact hp
  · rw [(rd_bad hg).1] at h
    omega
end Go.Proofs.YtnnfkmjhaljplaaGreatDoor
namespace Go.Proofs.YtnnfkmjhaljplaaGreatDoor
open Go.RowKit
/-- An event: kind, address, value. -/
structure Ev where
  k : Int
  a : Int
  v : Int
def I64 (n : Int) : Prop := -9223372036854775808 ≤ n ∧ n ≤ 9223372036854775807
def Ev.ok (e : Ev) : Prop := I64 e.k ∧ I64 e.a ∧ I64 e.v
/-- The events' cells, one behind the other. -/
def Ev.row (e : Ev) : List Value := [.int .i64 e.k, .int .i64 e.a, .int .i64 e.v]
def evs : List Ev → List Value
  | [] => []
  | e :: r => .int .i64 e.k :: .int .i64 e.a :: .int .i64 e.v :: evs r
theorem evs_length : ∀ es : List Ev, (evs es).length = es.length * 3
  | [] => rfl
  | e :: r => by simp only [evs, List.length_cons, evs_length r]; omega
theorem evs_append : ∀ (l m : List Ev), evs (l ++ m) = evs l ++ evs m
  | [], _ => rfl
  | e :: r, m => by simp only [evs, List.cons_append, evs_append r m]
theorem evs_get : ∀ (es : List Ev) (i : Nat) (h : i < es.length), (evs es)[i * 3]? = some (.int .i64 es[i].k) ∧ (evs es)[i * 3 + 1]? = some (.int .i64 es[i].a) ∧ (evs es)[i * 3 + 2]? = some (.int .i64 es[i].v)
  | [], i, h => absurd h (Nat.not_lt_zero _)
  | e :: r, 0, _ => ⟨rfl, rfl, rfl⟩
  | e :: r, i + 1, h => by
    have ih := evs_get r i (by simpa using h)
    rw [show (i + 1) * 3 = i * 3 + 1 + 1 + 1 by omega]
    simp only [evs, List.getElem?_cons_succ, List.getElem_cons_succ]
    exact ih
/-- The fault of an event, of steps, of a trace. -/
def evF (e : Ev) : Int := if e.k = 0 ∨ e.k = 1 then (if 0 ≤ e.a ∧ e.a ≤ 999999 ∧ 0 ≤ e.v ∧ e.v ≤ 999999 then 0 else 3) else 1
def evsF : List Ev → Int
  | [] => 0
  | e :: r => if evF e = 0 then evsF r else evF e
def stF (es : List Ev) : Int := if es.length ≤ 8 then evsF es else 2
def stsF : List (List Ev) → Int
  | [] => 0
  | l :: r => if stF l = 0 then stsF r else stF l
def trF (t : List (List Ev)) : Int := if 1 ≤ t.length ∧ t.length ≤ 4 then stsF t else 2
theorem evF_form {e : Ev} (h : ¬ (e.k = 0 ∨ e.k = 1)) : evF e = 1 := if_neg h
theorem evF_range {e : Ev} (h : e.k = 0 ∨ e.k = 1) (h' : ¬ (0 ≤ e.a ∧ e.a ≤ 999999 ∧ 0 ≤ e.v ∧ e.v ≤ 999999)) : evF e = 3 := by unfold evF; rw [if_pos h, if_neg h']
theorem evF_ok {e : Ev} (h : e.k = 0 ∨ e.k = 1) (h' : 0 ≤ e.a ∧ e.a ≤ 999999 ∧ 0 ≤ e.v ∧ e.v ≤ 999999) : evF e = 0 := by unfold evF; rw [if_pos h, if_pos h']
theorem evF_zero {e : Ev} (h : evF e = 0) : (e.k = 0 ∨ e.k = 1) ∧ 0 ≤ e.a ∧ e.a ≤ 999999 ∧ 0 ≤ e.v ∧ e.v ≤ 999999 := by
  unfold evF at h
  by_cases h1 : e.k = 0 ∨ e.k = 1
  · by_cases h2 : 0 ≤ e.a ∧ e.a ≤ 999999 ∧ 0 ≤ e.v ∧ e.v ≤ 999999
    · exact ⟨h1, h2⟩
    · rw [if_pos h1, if_neg h2] at h; omega
  · rw [if_neg h1] at h; omega
theorem evsF_drop (es : List Ev) (i : Nat) (h : i < es.length) : evsF (es.drop i) = if evF es[i] = 0 then evsF (es.drop (i + 1)) else evF es[i] := by
  rw [List.drop_eq_getElem_cons h, evsF]
theorem evsF_next {es : List Ev} {i : Nat} (h : i < es.length) (h0 : evF es[i] = 0) : evsF (es.drop i) = evsF (es.drop (i + 1)) := by rw [evsF_drop es i h, if_pos h0]
theorem evsF_stop {es : List Ev} {i : Nat} (h : i < es.length) (h0 : ¬ evF es[i] = 0) : evsF (es.drop i) = evF es[i] := by rw [evsF_drop es i h, if_neg h0]
theorem evsF_end {es : List Ev} {i : Nat} (h : ¬ i < es.length) : evsF (es.drop i) = 0 := by rw [List.drop_eq_nil_of_le (by omega)]; rfl
theorem stsF_drop (t : List (List Ev)) (i : Nat) (h : i < t.length) : stsF (t.drop i) = if stF t[i] = 0 then stsF (t.drop (i + 1)) else stF t[i] := by
  rw [List.drop_eq_getElem_cons h, stsF]
theorem stsF_next {t : List (List Ev)} {i : Nat} (h : i < t.length) (h0 : stF t[i] = 0) : stsF (t.drop i) = stsF (t.drop (i + 1)) := by rw [stsF_drop t i h, if_pos h0]
theorem stsF_stop {t : List (List Ev)} {i : Nat} (h : i < t.length) (h0 : ¬ stF t[i] = 0) : stsF (t.drop i) = stF t[i] := by rw [stsF_drop t i h, if_neg h0]
theorem stsF_end {t : List (List Ev)} {i : Nat} (h : ¬ i < t.length) : stsF (t.drop i) = 0 := by rw [List.drop_eq_nil_of_le (by omega)]; rfl
theorem stF_many {es : List Ev} (h : ¬ es.length ≤ 8) : stF es = 2 := if_neg h
theorem stF_few {es : List Ev} (h : es.length ≤ 8) : stF es = evsF es := if_pos h
theorem evsF_all {es : List Ev} (h : evsF es = 0) : ∀ e ∈ es, evF e = 0 := by
  induction es with
  | nil => intro e he; simp at he
  | cons x r ih =>
    rw [evsF] at h
    by_cases hx : evF x = 0
    · rw [if_pos hx] at h
      intro e he
      rcases List.mem_cons.1 he with rfl | he
      · exact hx
      · exact ih h e he
    · rw [if_neg hx] at h
      exact absurd h hx
theorem stF_zero {es : List Ev} (h : stF es = 0) : es.length ≤ 8 ∧ evsF es = 0 := by
  by_cases h8 : es.length ≤ 8
  · exact ⟨h8, by rw [← stF_few h8]; exact h⟩
  · rw [stF_many h8] at h; omega
/-- The bytes of steps; p: the address ahead. -/
def evB (p : Int) (e : Ev) : List Int := putL (2 * zigI (e.a - p) + e.k) ++ putL e.v
def packL : Int → List Ev → List Int
  | _, [] => []
  | p, e :: r => evB p e ++ packL e.a r
def pkB (es : List Ev) : List Int := if stF es = 0 then packL 0 es else []
theorem pk_ok {es : List Ev} (h : stF es = 0) : pkB es = packL 0 es := if_pos h
/-- The event that bytes begin with, and how many bytes it has. -/
noncomputable def nextV (d : List Int) : List Int := d.drop (rdZ d).toNat
noncomputable def evAt (d : List Int) (p : Int) : Ev := ⟨rdV d % 2, p + zagI (rdV d / 2), rdV (nextV d)⟩
def evGood (d : List Int) (p : Int) : Prop := rdC d = 0 ∧ rdC (nextV d) = 0 ∧ zagC (rdV d / 2) = 0 ∧ evF (evAt d p) = 0
noncomputable instance (d : List Int) (p : Int) : Decidable (evGood d p) := by unfold evGood; infer_instance
noncomputable def evZ (d : List Int) : Nat := (rdZ d + rdZ (nextV d)).toNat
/-- The events of bytes, k at most. -/
noncomputable def unpN : Nat → List Int → Int → Option (List Ev)
  | 0, d, _ => if d = [] then some [] else none
  | k + 1, d, p => if d = [] then some [] else if evGood d p then (unpN k (d.drop (evZ d)) (evAt d p).a).map (evAt d p :: ·) else none
noncomputable def unC (d : List Int) : Int := if d.length ≤ 4000 then (if (unpN 8 d 0).isSome = true then 0 else 5) else 2
noncomputable def unE (d : List Int) : List Ev := if d.length ≤ 4000 then (unpN 8 d 0).getD [] else []
theorem un_long {d : List Int} (h : ¬ d.length ≤ 4000) : unC d = 2 ∧ unE d = [] := ⟨if_neg h, if_neg h⟩
theorem un_none {d : List Int} (h : d.length ≤ 4000) (h0 : unpN 8 d 0 = none) : unC d = 5 ∧ unE d = [] := by unfold unC unE; rw [if_pos h, if_pos h, h0]; exact ⟨rfl, rfl⟩
theorem un_some {d : List Int} {es : List Ev} (h : d.length ≤ 4000) (h0 : unpN 8 d 0 = some es) : unC d = 0 ∧ unE d = es := by unfold unC unE; rw [if_pos h, if_pos h, h0]; exact ⟨rfl, rfl⟩
theorem nextV_len {d : List Int} (b : B8 d) (h : rdC d = 0) : (nextV d).length = d.length - (rdZ d).toNat ∧ 1 ≤ rdZ d ∧ rdZ d ≤ d.length := by
  have := rd_back b h
  unfold nextV
  rw [List.length_drop]
  omega
theorem evZ_le {d : List Int} {p : Int} (b : B8 d) (h : evGood d p) : 2 ≤ evZ d ∧ evZ d ≤ d.length ∧ (evZ d : Int) = rdZ d + rdZ (nextV d) ∧ 1 ≤ rdZ d ∧ rdZ d ≤ d.length ∧ 1 ≤ rdZ (nextV d) := by
  obtain ⟨h1, h2, _⟩ := h
  have a := nextV_len b h1
  have c := nextV_len (d := nextV d) (b.drop _) h2
  unfold evZ
  omega
/-- What is read as events was put just so. -/
theorem evB_of {d : List Int} {p : Int} (b : B8 d) (h : evGood d p) : evB p (evAt d p) = d.take (evZ d) := by
  have hz := evZ_le b h
  obtain ⟨h1, h2, h3, h4⟩ := h
  have r1 := rd_back b h1
  have r2 := rd_back (l := nextV d) (b.drop _) h2
  have hn : 0 ≤ rdV d / 2 ∧ rdV d / 2 ≤ 2000000000000 := by
    by_cases hh : 0 ≤ rdV d / 2 ∧ rdV d / 2 ≤ 2000000000000
    · exact hh
    · rw [(zag_out hh).1] at h3; omega
  have hzz := zig_zag h3
  have hin : -1000000000000 ≤ zagI (rdV d / 2) ∧ zagI (rdV d / 2) ≤ 1000000000000 := by
    by_cases h0 : rdV d / 2 % 2 = 0
    · rw [zagI_even h0]; omega
    · rw [zagI_odd h0]; omega
  rw [(zag_in hn).2, (zig_in hin).2] at hzz
  unfold evB evAt
  simp only
  rw [show p + zagI (rdV d / 2) - p = zagI (rdV d / 2) by omega, hzz.2, show 2 * (rdV d / 2) + rdV d % 2 = rdV d by omega, r1.2.2.2.2, r2.2.2.2.2]
  unfold nextV at *
  have e1 : evZ d = (rdZ d).toNat + (rdZ (d.drop (rdZ d).toNat)).toNat := by omega
  rw [e1, List.take_add]
theorem pack_unp : ∀ (k : Nat) (d : List Int) (p : Int) (es : List Ev), B8 d → unpN k d p = some es → packL p es = d ∧ evsF es = 0 ∧ es.length ≤ k
  | 0, d, p, es, b, h => by
    unfold unpN at h
    by_cases hd : d = []
    · rw [if_pos hd] at h
      obtain rfl := Option.some.inj h
      exact ⟨by rw [hd]; rfl, rfl, by simp⟩
    · rw [if_neg hd] at h
      exact absurd h (by simp)
  | k + 1, d, p, es, b, h => by
    unfold unpN at h
    by_cases hd : d = []
    · rw [if_pos hd] at h
      obtain rfl := Option.some.inj h
      exact ⟨by rw [hd]; rfl, rfl, by simp⟩
    · rw [if_neg hd] at h
      by_cases hg : evGood d p
      · rw [if_pos hg, Option.map_eq_some_iff] at h
        obtain ⟨r, h1, rfl⟩ := h
        obtain ⟨i1, i2, i3⟩ := pack_unp k _ _ r (b.drop _) h1
        refine ⟨?_, ?_, by simp; omega⟩
        · rw [packL, evB_of b hg, i1, List.take_append_drop]
        · rw [evsF, if_pos hg.2.2.2, i2]
      · rw [if_neg hg] at h
        exact absurd h (by simp)
theorem pack_un {d : List Int} (b : B8 d) (h : unC d = 0) : pkB (unE d) = d ∧ stF (unE d) = 0 ∧ d.length ≤ 4000 := by
  by_cases hl : d.length ≤ 4000
  · match h0 : unpN 8 d 0 with
    | none => rw [(un_none hl h0).1] at h; omega
    | some es =>
      obtain ⟨h1, h2, h3⟩ := pack_unp 8 d 0 es b h0
      rw [(un_some hl h0).2]
      have hs : stF es = 0 := by rw [stF_few h3, h2]
      exact ⟨by rw [pk_ok hs, h1], hs, hl⟩
  · rw [(un_long hl).1] at h; omega
/-- The rounds of a reading. -/
theorem unp_nil (k : Nat) (p : Int) : unpN k [] p = some [] := by
  cases k <;> simp [unpN]
theorem unp_full {d : List Int} (p : Int) (h : d ≠ []) : unpN 0 d p = none := by simp [unpN, h]
theorem unp_bad {d : List Int} {p : Int} (k : Nat) (h : d ≠ []) (hg : ¬ evGood d p) : unpN k d p = none := by
  cases k
  · exact unp_full p h
  · rw [unpN, if_neg h, if_neg hg]
theorem unp_good {d : List Int} {p : Int} (k : Nat) (h : d ≠ []) (hg : evGood d p) : unpN (k + 1) d p = (unpN k (d.drop (evZ d)) (evAt d p).a).map (evAt d p :: ·) := by
  rw [unpN, if_neg h, if_pos hg]
/-- Where a reading stands: acc is read, d is left, p is the address ahead. -/
def UnAt (d0 : List Int) (acc : List Ev) (d : List Int) (p : Int) : Prop := unpN 8 d0 0 = (unpN (8 - acc.length) d p).map (acc ++ ·)
theorem UnAt.start (d : List Int) : UnAt d [] d 0 := by simp [UnAt]
theorem UnAt.step {d0 d : List Int} {acc : List Ev} {p : Int} (h : UnAt d0 acc d p) (hd : d ≠ []) (hg : evGood d p) (h8 : acc.length < 8) : UnAt d0 (acc ++ [evAt d p]) (d.drop (evZ d)) (evAt d p).a := by
  unfold UnAt at h ⊢
  rw [h, List.length_append, List.length_singleton, show 8 - acc.length = (8 - (acc.length + 1)) + 1 by omega, unp_good _ hd hg, Option.map_map]
  congr 1
  funext l
  simp
theorem UnAt.bad {d0 d : List Int} {acc : List Ev} {p : Int} (h : UnAt d0 acc d p) (hd : d ≠ []) (hg : ¬ evGood d p) : unpN 8 d0 0 = none := by
  unfold UnAt at h
  rw [h, unp_bad _ hd hg]
  rfl
theorem UnAt.full {d0 d : List Int} {acc : List Ev} {p : Int} (h : UnAt d0 acc d p) (hd : d ≠ []) (h8 : ¬ acc.length < 8) : unpN 8 d0 0 = none := by
  unfold UnAt at h
  rw [h, show 8 - acc.length = 0 by omega, unp_full _ hd]
  rfl
theorem UnAt.done {d0 : List Int} {acc : List Ev} {p : Int} (h : UnAt d0 acc [] p) : unpN 8 d0 0 = some acc := by
  unfold UnAt at h
  rw [h, unp_nil]
  simp
theorem zagI_in {n : Int} (h : 0 ≤ n ∧ n ≤ 2000000000000) : -1000000000000 ≤ zagI n ∧ zagI n ≤ 1000000000000 := by
  by_cases h0 : n % 2 = 0
  · rw [zagI_even h0]; omega
  · rw [zagI_odd h0]; omega
theorem rd_code (d : List Int) : rdC d = 0 ∧ rdGood d ∨ rdC d = 5 ∧ rdV d = 0 ∧ rdZ d = 0 := by
  by_cases h : rdGood d
  · exact .inl ⟨(rd_good h).1, h⟩
  · exact .inr (rd_bad h)
/-- A number past the bounds of an address begins no event. -/
theorem evGood_far {d : List Int} {p : Int} (hp : 0 ≤ p ∧ p ≤ 999999) (h : 4000000000000 < rdV d) : ¬ evGood d p := by
  rintro ⟨h1, h2, h3, h4⟩
  by_cases hn : 0 ≤ rdV d / 2 ∧ rdV d / 2 ≤ 2000000000000
  · have h5 := (evF_zero h4).2
    unfold evAt at h5
    simp only at h5
    have h6 : rdV d / 2 = 2000000000000 := by omega
    rw [h6, zagI_even (by omega)] at h5
    omega
  · rw [(zag_out hn).1] at h3
    omega
theorem evGood_of {d : List Int} {p : Int} (h1 : rdC d = 0) (h2 : rdC (nextV d) = 0) (h3 : 0 ≤ rdV d / 2 ∧ rdV d / 2 ≤ 2000000000000) (h4 : evF (evAt d p) = 0) : evGood d p :=
  ⟨h1, h2, (zag_in h3).1, h4⟩
end Go.Proofs.YtnnfkmjhaljplaaGreatDoor
namespace Go.Proofs.YtnnfkmjhaljplaaGreatDoor
open Go.RowKit
/-- The slice address A leads to the events es, in a block below B. -/
def RdE (w : World) (B : Nat) (A : Option Addr) (es : List Ev) : Prop := RdV w B A (evs es)
section
variable {w w' : World} {B B' : Nat} {A : Option Addr} {es : List Ev}
theorem RdE.nil_ : RdE w B A [] := RdV.nil_
theorem RdE.keep (h : RdE w B A es) (hk : ∀ p : Addr, p.block < B → w'.cell? p = w.cell? p) : RdE w' B A es := RdV.keep h hk
theorem RdE.more (h : RdE w B A es) (hB : B ≤ B') : RdE w B' A es := RdV.more h hB
theorem RdE.below (h : RdE w B A es) (hb : Below B w w') : RdE w' B A es := RdV.below h hb
theorem RdE.drew (h : RdE w B A es) : RdE w.drew B A es := h
theorem RdE.drewN (h : RdE w B A es) (n : Nat) : RdE (w.drewN n) B A es := h
theorem RdE.alloc (h : RdE w B A es) (hB : B ≤ w.heap.size) (o : Obj) : RdE (w.alloc o) B A es := RdV.alloc h hB o
theorem RdE.lt (h : RdE w B A es) : RdE w w.heap.size A es := RdV.lt h
theorem RdE.of_own {base : Nat} {e : TypeId} {n c : Nat} (h : w.ownsRow base e 3 (.slice A n c) n (evs es)) : RdE w w.heap.size A es := RdV.of_own h
theorem RdE.get (h : RdE w B A es) {i : Nat} (hi : i < es.length) : ∃ b off, A = some ⟨b, off, none⟩ ∧ b < B ∧ w.cell? ⟨b, off + i * 3, none⟩ = some (.int .i64 es[i].k) ∧ w.cell? ⟨b, off + i * 3 + 1, none⟩ = some (.int .i64 es[i].a) ∧ w.cell? ⟨b, off + i * 3 + 2, none⟩ = some (.int .i64 es[i].v) := by
  have hl := evs_length es
  obtain ⟨b, off, e, hb, hc⟩ := h (by omega)
  obtain ⟨g0, g1, g2⟩ := evs_get es i hi
  have k0 := hc (i * 3) (by omega)
  have k1 := hc (i * 3 + 1) (by omega)
  have k2 := hc (i * 3 + 2) (by omega)
  rw [List.getElem?_eq_getElem (by omega)] at g0 g1 g2
  rw [Option.some.inj g0] at k0
  rw [Option.some.inj g1] at k1
  rw [Option.some.inj g2] at k2
  exact ⟨b, off, e, hb, k0, by rw [Nat.add_assoc]; exact k1, by rw [Nat.add_assoc]; exact k2⟩
end
end Go.Proofs.YtnnfkmjhaljplaaGreatDoor
namespace Go.Proofs.YtnnfkmjhaljplaaGreatDoor
open Go.RowKit
/-- The slice address A leads to the traces t: each cell a slice that reads as the events. -/
def RdT (w : World) (B : Nat) (A : Option Addr) (t : List (List Ev)) : Prop :=
  0 < t.length → ∃ b off, A = some ⟨b, off, none⟩ ∧ b < B ∧ ∀ i, (h : i < t.length) → ∃ a c, w.cell? ⟨b, off + i, none⟩ = some (.slice a t[i].length c) ∧ t[i].length ≤ c ∧ c ≤ maxLen ∧ RdE w B a t[i]
section
variable {w w' : World} {B B' : Nat} {A : Option Addr} {t : List (List Ev)}
theorem RdT.nil_ : RdT w B A [] := fun h => absurd h (by simp)
theorem RdT.keep (h : RdT w B A t) (hk : ∀ p : Addr, p.block < B → w'.cell? p = w.cell? p) : RdT w' B A t := by
  intro h0
  obtain ⟨b, off, e, hb, hc⟩ := h h0
  refine ⟨b, off, e, hb, fun i hi => ?_⟩
  obtain ⟨a, c, h1, h2, h3, h4⟩ := hc i hi
  exact ⟨a, c, (hk _ hb).trans h1, h2, h3, h4.keep hk⟩
theorem RdT.more (h : RdT w B A t) (hB : B ≤ B') : RdT w B' A t := by
  intro h0
  obtain ⟨b, off, e, hb, hc⟩ := h h0
  refine ⟨b, off, e, by omega, fun i hi => ?_⟩
  obtain ⟨a, c, h1, h2, h3, h4⟩ := hc i hi
  exact ⟨a, c, h1, h2, h3, h4.more hB⟩
theorem RdT.below (h : RdT w B A t) (hb : Below B w w') : RdT w' B A t := h.keep fun _ hp => hb.cell hp
theorem RdT.drew (h : RdT w B A t) : RdT w.drew B A t := h
theorem RdT.drewN (h : RdT w B A t) (n : Nat) : RdT (w.drewN n) B A t := h
theorem RdT.alloc (h : RdT w B A t) (hB : B ≤ w.heap.size) (o : Obj) : RdT (w.alloc o) B A t := h.keep fun p hp => World.cell?_alloc_lt w o p (by omega)
theorem RdT.lt (h : RdT w B A t) : RdT w w.heap.size A t := by
  intro h0
  obtain ⟨b, off, e, hb, hc⟩ := h h0
  refine ⟨b, off, e, ?_, fun i hi => ?_⟩
  · obtain ⟨a, c, h1, _⟩ := hc 0 h0
    exact block_lt_of_cell h1
  · obtain ⟨a, c, h1, h2, h3, h4⟩ := hc i hi
    exact ⟨a, c, h1, h2, h3, h4.lt⟩
theorem RdT.get (h : RdT w B A t) {i : Nat} (hi : i < t.length) : ∃ b off a c, A = some ⟨b, off, none⟩ ∧ b < B ∧ w.cell? ⟨b, off + i, none⟩ = some (.slice a t[i].length c) ∧ t[i].length ≤ c ∧ c ≤ maxLen ∧ RdE w B a t[i] := by
  obtain ⟨b, off, e, hb, hc⟩ := h (by omega)
  obtain ⟨a, c, h1, h2, h3, h4⟩ := hc i hi
  exact ⟨b, off, a, c, e, hb, h1, h2, h3, h4⟩
end
/-- A store into another block turns nothing. -/
theorem RdV.far {w : World} {B : Nat} {A : Option Addr} {vs : List Value} (h : RdV w B A vs) (p : Addr) (u : Value) (hn : ∀ x, A = some x → x.block ≠ p.block) : RdV (w.setCell p u) B A vs := by
  intro h0
  obtain ⟨b, off, e, hb, hc⟩ := h h0
  refine ⟨b, off, e, hb, fun i hi => ?_⟩
  have hne := hn _ e
  have hh := Below.heap_setCell w p u b (fun e' => hne (by simpa using e'))
  rw [← hc i hi]
  unfold World.cell?
  rw [hh]
theorem RdE.far {w : World} {B : Nat} {A : Option Addr} {es : List Ev} (h : RdE w B A es) (p : Addr) (u : Value) (hn : ∀ x, A = some x → x.block ≠ p.block) : RdE (w.setCell p u) B A es := RdV.far h p u hn
/-- How many events there are in all. -/
def sumT : List (List Ev) → Nat
  | [] => 0
  | l :: r => l.length + sumT r
theorem sumT_drop (t : List (List Ev)) (i : Nat) (h : i < t.length) : sumT (t.drop i) = t[i].length + sumT (t.drop (i + 1)) := by
  rw [List.drop_eq_getElem_cons h, sumT]
theorem sumT_end {t : List (List Ev)} {i : Nat} (h : ¬ i < t.length) : sumT (t.drop i) = 0 := by rw [List.drop_eq_nil_of_le (by omega)]; rfl
end Go.Proofs.YtnnfkmjhaljplaaGreatDoor
namespace Go.Proofs.YtnnfkmjhaljplaaGreatDoor
open Go.RowKit
theorem own_sep {v : Value} {row : Option Nat} (h : ∀ b, v.ownBlock = some b → row ≠ some b) : v.ownBlock = none ∨ v.ownBlock ≠ row := by
  rcases hv : v.ownBlock with _ | b
  · exact .inl rfl
  · exact .inr fun e => h b hv e.symm
theorem own_capE {w : World} {base : Nat} {e : TypeId} {size n c : Nat} {A : Option Addr} {xs : List Value} (h : w.ownsRow base e size (.slice A n c) n xs) : n ≤ c ∧ c ≤ maxLen := by
  rcases h.2 with ⟨h', h''⟩ | ⟨g, cap, cur, h', _, _, h1, h2, _⟩
  · simp only [Value.slice.injEq] at h'
    rw [h'.2.2, h'']
    exact ⟨Nat.le_refl _, by simp⟩
  · simp only [Value.slice.injEq] at h'
    rw [h'.2.2]
    exact ⟨h1, h2⟩
structure OwnT (w : World) (base : Nat) (v : Value) (t : List (List Ev)) (us : List Value) : Prop where
  row : w.ownsRow base 45 1 v t.length us
  rows : ∀ i, (h : i < t.length) → ∃ u, us[i]? = some u ∧ w.ownsRow base 48 3 u t[i].length (evs t[i]) ∧ ∀ b, u.ownBlock = some b → v.ownBlock ≠ some b
  apart : ∀ (i j : Nat) (u u' : Value), i ≠ j → us[i]? = some u → us[j]? = some u' → ∀ b, u.ownBlock = some b → u'.ownBlock ≠ some b
section
variable {w w' w1 : World} {base : Nat} {v v' : Value} {t : List (List Ev)} {us : List Value} {es : List Ev}
theorem OwnT.len (h : OwnT w base v t us) : us.length = t.length := by have := h.row.1; omega
theorem OwnT.at_ (h : OwnT w base v t us) {i : Nat} {u : Value} (hu : us[i]? = some u) : ∃ (hi : i < t.length), w.ownsRow base 48 3 u t[i].length (evs t[i]) ∧ ∀ b, u.ownBlock = some b → v.ownBlock ≠ some b := by
  have hi : i < t.length := by
    rcases Nat.lt_or_ge i us.length with a | a
    · rw [← h.len]; exact a
    · rw [List.getElem?_eq_none a] at hu; exact absurd hu (by simp)
  obtain ⟨u', h1, h2, h3⟩ := h.rows i hi
  rw [hu] at h1
  cases h1
  exact ⟨hi, h2, h3⟩
theorem OwnT.kept {row : Option Nat} (h : OwnT w base v t us) (hg : w.grownBy w' row) (hr : ∀ b, row = some b → b < base) : OwnT w' base v t us :=
  ⟨h.row.kept hg (own_sep fun b hb e => by have := h.row.lt b hb; have := hr b e; omega),
   fun i hi => by
    obtain ⟨u, h1, h2, h3⟩ := h.rows i hi
    exact ⟨u, h1, h2.kept hg (own_sep fun b hb e => by have := h2.lt b hb; have := hr b e; omega), h3⟩,
   h.apart⟩
theorem OwnT.below (h : OwnT w base v t us) (hb : Below w.heap.size w w') : OwnT w' base v t us := h.kept (row := none) ⟨hb.os, hb.tape, hb.output, hb.size, fun k hk _ => hb.block k hk⟩ (fun b e => by cases e)
theorem OwnT.alloc (h : OwnT w base v t us) (o : Obj) : OwnT (w.alloc o) base v t us := h.below ((Below.refl _ _).alloc (Nat.le_refl _) _)
theorem OwnT.mono (h : OwnT w base v t us) {b' : Nat} (hb : b' ≤ base) : OwnT w b' v t us :=
  ⟨own_mono h.row hb, fun i hi => by
    obtain ⟨u, h1, h2, h3⟩ := h.rows i hi
    exact ⟨u, h1, own_mono h2 hb, h3⟩, h.apart⟩
theorem OwnT.rd {A : Option Addr} {c : Nat} (h : OwnT w base (.slice A t.length c) t us) : RdT w w.heap.size A t := by
  intro h0
  rcases h.row.2 with ⟨_, h''⟩ | ⟨g, cap, cur, h', _⟩
  · omega
  · simp only [Value.slice.injEq] at h'
    obtain ⟨rfl, _, rfl⟩ := h'
    refine ⟨g, 0, rfl, (h.row.lt g rfl).2, fun i hi => ?_⟩
    obtain ⟨u, h1, h2, h3⟩ := h.rows i hi
    obtain ⟨a, c, rfl⟩ := own_shape h2
    have hcp := own_capE h2
    refine ⟨a, c, ?_, hcp.1, hcp.2, RdE.of_own h2⟩
    rw [Nat.zero_add, h.row.cellAt i (by omega)]
    exact h1
/-- A new row behind the others. -/
theorem OwnT.push {u : Value} (h : OwnT w base v t us) (hu : w.ownsRow base 48 3 u es.length (evs es)) (hf : ∀ b, u.ownBlock = some b → v.ownBlock ≠ some b ∧ ∀ (i : Nat) (u' : Value), us[i]? = some u' → u'.ownBlock ≠ some b)
    (ho : w'.ownsRow base 45 1 v' (t.length + 1) (us ++ [u])) (hg : w.grownBy w' v.ownBlock) (hat : v'.ownBlock = v.ownBlock ∨ v'.ownBlock = some w.heap.size) : OwnT w' base v' (t ++ [es]) (us ++ [u]) := by
  have hnew : ∀ (x : Value) (n : Nat) (xs : List Value), w.ownsRow base 48 3 x n xs → (∀ b, x.ownBlock = some b → v.ownBlock ≠ some b) → ∀ b, x.ownBlock = some b → v'.ownBlock ≠ some b := by
    intro x n xs hx h3 b hb
    rcases hat with e | e
    · rw [e]; exact h3 b hb
    · rw [e]
      intro e2
      simp only [Option.some.injEq] at e2
      have := hx.lt b hb
      omega
  refine ⟨by rw [List.length_append]; exact ho, fun i hi => ?_, ?_⟩
  · rw [List.length_append, List.length_singleton] at hi
    by_cases hlt : i < t.length
    · obtain ⟨x, h1, h2, h3⟩ := h.rows i hlt
      refine ⟨x, by rw [List.getElem?_append_left (by rw [h.len]; exact hlt)]; exact h1, ?_, hnew x _ _ h2 h3⟩
      rw [List.getElem_append_left hlt]
      exact h2.kept hg (own_sep h3)
    · obtain rfl : i = t.length := by omega
      refine ⟨u, by rw [List.getElem?_append_right (by rw [h.len]; exact Nat.le_refl _), h.len, Nat.sub_self]; rfl, ?_, hnew u _ _ hu (fun b hb => (hf b hb).1)⟩
      rw [List.getElem_append_right (Nat.le_refl _)]
      simp only [Nat.sub_self, List.getElem_cons_zero]
      exact hu.kept hg (own_sep fun b hb => (hf b hb).1)
  · have key : ∀ (i : Nat) (x : Value), (us ++ [u])[i]? = some x → (i < us.length ∧ us[i]? = some x) ∨ (i = us.length ∧ x = u) := by
      intro i x hx
      by_cases hlt : i < us.length
      · rw [List.getElem?_append_left hlt] at hx
        exact .inl ⟨hlt, hx⟩
      · rw [List.getElem?_append_right (by omega)] at hx
        have hi : i - us.length = 0 := by
          rcases Nat.eq_zero_or_pos (i - us.length) with a | a
          · exact a
          · rw [List.getElem?_eq_none (by simp; omega)] at hx; exact absurd hx (by simp)
        rw [hi] at hx
        simp only [List.getElem?_cons_zero, Option.some.injEq] at hx
        exact .inr ⟨by omega, hx.symm⟩
    intro i j x y hij hx hy b hb
    rcases key i x hx with ⟨i1, i2⟩ | ⟨i1, rfl⟩
    · rcases key j y hy with ⟨j1, j2⟩ | ⟨j1, rfl⟩
      · exact h.apart i j x y hij i2 j2 b hb
      · intro e
        exact (hf b e).2 i x i2 hb
    · rcases key j y hy with ⟨j1, j2⟩ | ⟨j1, rfl⟩
      · exact (hf b hb).2 j y j2
      · omega
/-- Another row in the place of one. -/
theorem OwnT.swap {gv c i : Nat} {u u' : Value} {row : Option Nat} {es' : List Ev} (h : OwnT w base (.slice (some ⟨gv, 0, none⟩) t.length c) t us) (hui : us[i]? = some u) (hg : w.grownBy w1 row) (hrow : ∀ b, row = some b → u.ownBlock = some b ∨ b < base)
    (hu' : w1.ownsRow base 48 3 u' es'.length (evs es')) (hat : ∀ b, u'.ownBlock = some b → u.ownBlock = some b ∨ w.heap.size ≤ b) :
    OwnT (w1.setCell ⟨gv, i, none⟩ u') base (.slice (some ⟨gv, 0, none⟩) t.length c) (t.set i es') (us.set i u') := by
  obtain ⟨hi, hu, hu3⟩ := h.at_ hui
  have hgv := h.row.lt gv rfl
  have hne : ∀ b, u'.ownBlock = some b → b ≠ gv := by
    intro b hb e
    subst e
    rcases hat b hb with a | a
    · exact hu3 b a rfl
    · omega
  have hrk : ∀ (x : Value) (n : Nat) (xs : List Value) (j : Nat), j ≠ i → us[j]? = some x → w.ownsRow base 48 3 x n xs → ∀ b, x.ownBlock = some b → row ≠ some b := by
    intro x n xs j hji hj hx b hb e
    rcases hrow b e with a | a
    · exact h.apart j i x u hji hj hui b hb a
    · have := hx.lt b hb; omega
  refine ⟨?_, fun j hj => ?_, ?_⟩
  · rw [List.length_set]
    exact ((h.row.kept hg (own_sep fun b hb e => by
      simp only [Value.ownBlock, Option.some.injEq] at hb
      subst hb
      rcases hrow _ e with a | a
      · exact hu3 _ a rfl
      · omega)).stored i u').1
  · have hj' : j < t.length := by rw [List.length_set] at hj; exact hj
    by_cases hji : j = i
    · subst hji
      refine ⟨u', by rw [List.getElem?_set_self (by rw [h.len]; exact hj')], ?_, fun b hb e => ?_⟩
      · rw [List.getElem_set_self]
        exact hu'.kept (grown_set w1 gv j u') (own_sep fun b hb e => hne b hb (by simpa using e.symm))
      · simp only [Value.ownBlock, Option.some.injEq] at e
        exact hne b hb e.symm
    · obtain ⟨x, h1, h2, h3⟩ := h.rows j hj'
      refine ⟨x, by rw [List.getElem?_set_ne (by omega)]; exact h1, ?_, h3⟩
      rw [List.getElem_set_ne (by omega)]
      refine (h2.kept hg (own_sep (hrk x _ _ j hji h1 h2))).kept (grown_set w1 gv i u') (own_sep fun b hb e => ?_)
      exact h3 b hb (by simpa [Value.ownBlock] using e)
  · have key : ∀ (j : Nat) (x : Value), (us.set i u')[j]? = some x → (j = i ∧ x = u') ∨ (j ≠ i ∧ us[j]? = some x) := by
      intro j x hx
      by_cases hji : j = i
      · subst hji
        rw [List.getElem?_set_self (by rw [h.len]; exact hi)] at hx
        exact .inl ⟨rfl, (Option.some.inj hx).symm⟩
      · rw [List.getElem?_set_ne (by omega)] at hx
        exact .inr ⟨hji, hx⟩
    intro p q x y hpq hx hy b hb
    rcases key p x hx with ⟨p1, rfl⟩ | ⟨p1, p2⟩
    · rcases key q y hy with ⟨q1, rfl⟩ | ⟨q1, q2⟩
      · omega
      · rcases hat b hb with a | a
        · exact h.apart i q u y (by omega) hui q2 b a
        · intro e
          obtain ⟨_, hq, _⟩ := h.at_ q2
          have := hq.lt b e
          omega
    · rcases key q y hy with ⟨q1, rfl⟩ | ⟨q1, q2⟩
      · intro e
        rcases hat b e with a | a
        · exact h.apart p i x u (by omega) p2 hui b hb a
        · obtain ⟨_, hp, _⟩ := h.at_ p2
          have := hp.lt b hb
          omega
      · exact h.apart p q x y hpq p2 q2 b hb
end
end Go.Proofs.YtnnfkmjhaljplaaGreatDoor
