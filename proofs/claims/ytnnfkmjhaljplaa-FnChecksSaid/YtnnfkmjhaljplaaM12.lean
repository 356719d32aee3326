/- What the laws' walks rest upon, part 12. -/
import Derived.Test.YtnnfkmjhaljplaaM02
import Derived.Test.YtnnfkmjhaljplaaM01
import Derived.Test.YtnnfkmjhaljplaaM06
import Derived.Test.YtnnfkmjhaljplaaM11
import Derived.StillTailTactics
import Derived.Lib.Hide
namespace Go.Proofs.Ytnnfkmjhaljplaa
open Go.RowKit
theorem one_cellS (A : Option Addr) (n c : Nat) : ∀ u ∈ [Value.slice A n c], u.oneCell' = true := by intro u hu; simp at hu; subst hu; rfl
/-- A new row is apart from what was there. -/
theorem OwnT.fresh {w w' : World} {base : Nat} {v : Value} {t : List (List Ev)} {us : List Value} (h : OwnT w base v t us) {u : Value} {n : Nat} {xs : List Value} (hu : w'.ownsRow w.heap.size 81 3 u n xs) :
  ∀ b, u.ownBlock = some b → v.ownBlock ≠ some b ∧ ∀ (i : Nat) (u' : Value), us[i]? = some u' → u'.ownBlock ≠ some b := by
 intro b hb
 have h1 := (hu.lt b hb).1
 refine ⟨fun e => by have := h.row.lt b e; omega, fun i u' hi e => ?_⟩
 obtain ⟨_, hq, _⟩ := h.at_ hi
 have := hq.lt b e
 omega
set_option maxRecDepth 100000 in
set_option maxHeartbeats 800000 in
theorem l2TraceR_any (g k n : Nat) (A : Option Addr) (c : Nat) (l : List Int) (w : World) (hS : Src w g A c l k) (hk : k ≤ 200) (hn : n ≤ 20) :
  Calls Try.prog 74 #[.pointer (some ⟨g, 0, none⟩), .int .i64 n] w fun e w' => ∃ t us D d, e = .returned (.slice D t.length d) ∧ 1 ≤ t.length ∧ t.length ≤ 4 ∧ (∀ x ∈ t, x.length ≤ n ∧ ∀ y ∈ x, evF y = 0) ∧ OwnT w' w.heap.size (.slice D t.length d) t us ∧ Went w g A c l k 250 w' := by
 obtain ⟨i0, hi, hz0, hz1, hz2⟩ := info_parts info_events
 have hgl := hS.lt
 go_enter Try.func74, Try.ntmps74
 go_wp2_with fail
 refine (l1Next_any g k 4 A c l _ (hS.alloc _) (by omega) (by omega) (by omega)).mono ?_
 rintro e w1 ⟨r, rfl, h0, h1, S1, g1⟩
 have hr : r ≤ 3 := by omega
 obtain ⟨N, rfl⟩ := Int.eq_ofNat_of_zero_le h0
 have hN : N ≤ 3 := by omega
 have o1 := (World.ownsRow_lit w #[] 0 (e := 79) (size := 1) (base := w.heap.size) (Nat.le_refl _) (by simp) rfl).kept g1 (.inr (by simp [Value.ownBlock]; omega))
 have oT : OwnT w1 w.heap.size (.slice (some ⟨w.heap.size, 0, none⟩) 0 0) [] [] := ⟨o1, fun i hi => by simp at hi, fun i j u u' _ hu => by simp at hu⟩
 have G1 := grown_alloc g1
 clear g1 h1 hr o1
 go_wp2
 go_loopw [5, 6] (fun v q wr => ∃ (t : List (List Ev)) (us : List Value) (m k' : Nat), m + t.length = N + 1 ∧ q = .int .i64 m ∧ (∀ x ∈ t, x.length ≤ n ∧ ∀ y ∈ x, evF y = 0) ∧ OwnT wr w.heap.size v t us ∧ Src wr g A c l k' ∧ k' + 61 * m ≤ k + 1 + 61 * (N + 1) ∧ w.grownBy wr (some g)) (fun _ q _ => (intOf q).toNat)
 case atStart => exact ⟨[], [], N + 1, k + 1, rfl, by go_num, by simp, oT, S1, by omega, G1⟩
 case round =>
  obtain ⟨t, us, m, k', hm, rfl, hall, ho, hSr, hkk, hgr⟩ := hrel
  have HM := hide hm
  have hx1 : t.length ≤ 4 := by omega
  have hm1 : m ≤ 4 := by omega
  clear hm
  have hsz := hgr.size
  by_cases hlt : 0 < m
  ·go_wp2_with fail
   refine (l2Steps_any g k' n A c l wr hSr (by omega) hn).mono ?_
   rintro e w1 ⟨es, D, d, rfl, hes, hev, hown, k2, hk2, hS1, hg1⟩
   have ho1 := ho.kept hg1 (fun b e => by simp at e; omega)
   have hfr := ho.fresh hown
   have hown1 := own_mono hown hsz
   have hgr1 := hgr.trans hg1
   have hsz1 := hgr1.size
   clear hg1
   go_wp2_with (at_builtin; refine wpList_append_own_at _ rfl _ _ 31 rfl w.heap.size 79 i0 (.slice none 0 0) 1 24 Try.underlying31 hi hz0 hz1 hz2 rfl (by decide) _ _ _ rfl (ho1.row.alloc _) ⟨w1.heap.size, 0, none⟩ 1 1 [.slice D es.length d] rfl rfl (cell_one_new _ _ _) (one_cellS _ _ _) (by unfold maxLen; omega) (by omega) (by simp; omega) ?_; intro v' w2 hown' hgrow _ hat)
   have hP := (ho1.alloc (.cells #[.slice D es.length d] 79)).push (es := es) (hown1.alloc _) hfr hown' hgrow hat
   have hbl : Below w.heap.size w1 w2 := ((Below.refl _ _).alloc hsz1 _).trans (grown_below (ho1.row.alloc (.cells #[.slice D es.length d] 79)) hgrow (by simp; omega) (Nat.le_refl _))
   have hgr2 : w.grownBy w2 (some g) := hgr1.andThen (grown_alloc hgrow) (fun j hj => .inl (ho1.row.lt j hj).1)
   clear hgrow hat
   go_roundw
   case rel => exact ⟨t ++ [es], us ++ [.slice D es.length d], m - 1, k2, by have := HM.out; simp; omega, by go_num, by intro y hy; rcases List.mem_append.1 hy with h | h; exact hall y h; simp at h; rw [h]; exact ⟨hes, hev⟩, hP, hS1.below hbl hgl, by omega, hgr2⟩
   case measure => simp [intOf]; omega
  ·obtain ⟨D, d, hv⟩ := own_shape ho.row
   have HV := hide hv
   clear hv
   go_wp2
   go_ret
   have hn : t.length = N + 1 := by have := HM.out; omega
   have ho2 := ho
   rw [HV.out] at ho2
   exact ⟨t, us, D, d, congrArg Ending.returned HV.out, by omega, by omega, hall, ho2, k', by omega, hSr, hgr⟩
theorem l2Trace_any (g k n : Nat) (A : Option Addr) (c : Nat) (l : List Int) (w : World) (hS : Src w g A c l k) (hk : k ≤ 200) (hn : n ≤ 20) :
  Calls Try.prog 74 #[.pointer (some ⟨g, 0, none⟩), .int .i64 n] w fun e w' => ∃ t us D d, e = .returned (.slice D t.length d) ∧ 1 ≤ t.length ∧ t.length ≤ 4 ∧ (∀ x ∈ t, x.length ≤ n) ∧ OwnT w' w.heap.size (.slice D t.length d) t us ∧ Went w g A c l k 250 w' := by
 refine (l2TraceR_any g k n A c l w hS hk hn).mono ?_
 rintro e w1 ⟨t, us, D, d, h1, h2, h3, h4, h5⟩
 exact ⟨t, us, D, d, h1, h2, h3, fun x hx => (h4 x hx).1, h5⟩
end Go.Proofs.Ytnnfkmjhaljplaa
namespace Go.Proofs.Ytnnfkmjhaljplaa
open Go.RowKit
theorem made_nil (n : Nat) : (madeCells (Value.slice none 0 0).cells (n * 1)).toList = List.replicate n (Value.slice none 0 0) := by
 apply List.ext_getElem
 ·simp [madeCells]
 ·intro i h1 h2
  simp [madeCells, Value.cells, Nat.mod_one]
theorem rdT_nils {w : World} {base n : Nat} {A : Option Addr} {c : Nat} (h : w.ownsRow base 79 1 (.slice A n c) n (List.replicate n (Value.slice none 0 0))) : RdT w w.heap.size A (List.replicate n []) := by
 intro h0
 rw [List.length_replicate] at h0
 rcases h.2 with ⟨_, h''⟩ | ⟨g, cap, cur, h', _⟩
 ·omega
 ·simp only [Value.slice.injEq] at h'
  obtain ⟨rfl, _, rfl⟩ := h'
  refine ⟨g, 0, rfl, (h.lt g rfl).2, fun i hi => ?_⟩
  have hi' : i < n := by simpa using hi
  refine ⟨none, 0, ?_, by simp, by simp, by simpa using RdE.nil_⟩
  rw [Nat.zero_add, h.cellAt i (by omega), List.getElem?_replicate]
  simp [hi']
theorem OwnT.rd_ {w : World} {base n c : Nat} {A : Option Addr} {t : List (List Ev)} {us : List Value} (h : OwnT w base (.slice A n c) t us) (hn : n = t.length) : RdT w w.heap.size A t := by
 subst hn
 exact h.rd
/-- What the walk is left with: a trace to read, and the source gone on. -/
def BentPost (w : World) (g : Nat) (A : Option Addr) (c : Nat) (l : List Int) (k : Nat) (e : Ending) (w' : World) : Prop :=
 ∃ (t : List (List Ev)) (D : Option Addr) (d : Nat), e = .returned (.slice D t.length d) ∧ t.length ≤ 5 ∧ (∀ x ∈ t, x.length ≤ 20) ∧ (∀ w2 : World, w'.grownBy w2 (some g) → RdT w2 w2.heap.size D t) ∧ Went w g A c l k 260 w'
theorem set_len {t : List (List Ev)} {i n : Nat} {es : List Ev} (h : ∀ x ∈ t, x.length ≤ n) (he : es.length ≤ n) : ∀ x ∈ t.set i es, x.length ≤ n := fun x hx => by
 rcases List.mem_or_eq_of_mem_set hx with a | a
 ·exact h x a
 ·rw [a]; exact he
/-- The contract of the bent traces, as what draws on it asks. -/
def BentOk : Prop := ∀ (g k : Nat) (A : Option Addr) (c : Nat) (l : List Int) (w : World), Src w g A c l k → k ≤ 200 →
  Calls Try.prog 82 #[.pointer (some ⟨g, 0, none⟩)] w (BentPost w g A c l k)
end Go.Proofs.Ytnnfkmjhaljplaa
namespace Go.Proofs.Ytnnfkmjhaljplaa
open Go.RowKit
end Go.Proofs.Ytnnfkmjhaljplaa
namespace Go.Proofs.Ytnnfkmjhaljplaa
open Go.RowKit
theorem info_line : (Try.prog.info? 191).map (fun i => (i.zero, i.size, i.bytes)) = some (some (.agg #[.int .i64 0, .int .i64 0, .int .i64 0]), 3, 24) := by kernel_rfl
end Go.Proofs.Ytnnfkmjhaljplaa
namespace Go.Proofs.Ytnnfkmjhaljplaa
open Go.RowKit
theorem info_lines : (Try.prog.info? 188).map (fun i => (i.zero, i.size, i.bytes)) = some (some (.slice none 0 0), 1, 24) := by kernel_rfl
end Go.Proofs.Ytnnfkmjhaljplaa
namespace Go.Proofs.Ytnnfkmjhaljplaa
open Go.RowKit
theorem ownT_made {w : World} {base n : Nat} {v : Value} (h : w.ownsRow base 79 1 v n (List.replicate n (.slice none 0 0))) : OwnT w base v (List.replicate n []) (List.replicate n (.slice none 0 0)) := by
 refine ⟨by rw [List.length_replicate]; exact h, fun i hi => ?_, fun i j u u' _ hu _ b hb => ?_⟩
 ·rw [List.length_replicate] at hi
  refine ⟨.slice none 0 0, by rw [List.getElem?_replicate, if_pos hi], ?_, fun b hb => by cases hb⟩
  simp only [List.getElem_replicate]
  exact World.ownsRow_nil _ _ _ _
 ·have := List.eq_of_mem_replicate (List.mem_of_getElem? hu)
  rw [this] at hb
  cases hb
theorem made_slices (n : Nat) : (madeCells (Value.slice none 0 0).cells (n * 1)).toList = List.replicate n (.slice none 0 0) := by
 apply List.ext_getElem
 ·simp [madeCells]
 ·intro i h1 h2
  simp [madeCells, Value.cells, Nat.mod_one]
theorem RdE.one_new (w : World) (e : Ev) (T : TypeId) : RdE (w.alloc (.cells #[.int .i64 e.k, .int .i64 e.a, .int .i64 e.v] T)) (w.heap.size + 1) (some ⟨w.heap.size, 0, none⟩) [e] := fun _ =>
 ⟨w.heap.size, 0, rfl, Nat.lt_succ_self _, fun i hi => by
  rw [Nat.zero_add, (Bk.new w #[.int .i64 e.k, .int .i64 e.a, .int .i64 e.v] T).cell i]
  simp only [List.getElem?_toArray]
  exact List.getElem?_eq_getElem hi⟩
end Go.Proofs.Ytnnfkmjhaljplaa
namespace Go.Proofs.Ytnnfkmjhaljplaa
open Go.RowKit
structure OwnTLine (w : World) (base : Nat) (v : Value) (t : List (List Ev)) (us : List Value) : Prop where
 row : w.ownsRow base 188 1 v t.length us
 rows : ∀ i, (h : i < t.length) → ∃ u, us[i]? = some u ∧ w.ownsRow base 191 3 u t[i].length (evs t[i]) ∧ ∀ b, u.ownBlock = some b → v.ownBlock ≠ some b
 apart : ∀ (i j : Nat) (u u' : Value), i ≠ j → us[i]? = some u → us[j]? = some u' → ∀ b, u.ownBlock = some b → u'.ownBlock ≠ some b
section
variable {w w' w1 : World} {base : Nat} {v v' : Value} {t : List (List Ev)} {us : List Value} {es : List Ev}
theorem OwnTLine.len (h : OwnTLine w base v t us) : us.length = t.length := by have := h.row.1; omega
theorem OwnTLine.at_ (h : OwnTLine w base v t us) {i : Nat} {u : Value} (hu : us[i]? = some u) : ∃ (hi : i < t.length), w.ownsRow base 191 3 u t[i].length (evs t[i]) ∧ ∀ b, u.ownBlock = some b → v.ownBlock ≠ some b := by
 have hi : i < t.length := by
  rcases Nat.lt_or_ge i us.length with a | a
  ·rw [← h.len]; exact a
  ·rw [List.getElem?_eq_none a] at hu; exact absurd hu (by simp)
 obtain ⟨u', h1, h2, h3⟩ := h.rows i hi
 rw [hu] at h1
 cases h1
 exact ⟨hi, h2, h3⟩
theorem OwnTLine.kept {row : Option Nat} (h : OwnTLine w base v t us) (hg : w.grownBy w' row) (hr : ∀ b, row = some b → b < base) : OwnTLine w' base v t us :=
 ⟨h.row.kept hg (own_sep fun b hb e => by have := h.row.lt b hb; have := hr b e; omega),
  fun i hi => by
  obtain ⟨u, h1, h2, h3⟩ := h.rows i hi
  exact ⟨u, h1, h2.kept hg (own_sep fun b hb e => by have := h2.lt b hb; have := hr b e; omega), h3⟩,
  h.apart⟩
theorem OwnTLine.below (h : OwnTLine w base v t us) (hb : Below w.heap.size w w') : OwnTLine w' base v t us := h.kept (row := none) ⟨hb.os, hb.tape, hb.output, hb.size, fun k hk _ => hb.block k hk⟩ (fun b e => by cases e)
theorem OwnTLine.alloc (h : OwnTLine w base v t us) (o : Obj) : OwnTLine (w.alloc o) base v t us := h.below ((Below.refl _ _).alloc (Nat.le_refl _) _)
theorem OwnTLine.mono (h : OwnTLine w base v t us) {b' : Nat} (hb : b' ≤ base) : OwnTLine w b' v t us :=
 ⟨own_mono h.row hb, fun i hi => by
  obtain ⟨u, h1, h2, h3⟩ := h.rows i hi
  exact ⟨u, h1, own_mono h2 hb, h3⟩, h.apart⟩
theorem OwnTLine.rd {A : Option Addr} {c : Nat} (h : OwnTLine w base (.slice A t.length c) t us) : RdT w w.heap.size A t := by
 intro h0
 rcases h.row.2 with ⟨_, h''⟩ | ⟨g, cap, cur, h', _⟩
 ·omega
 ·simp only [Value.slice.injEq] at h'
  obtain ⟨rfl, _, rfl⟩ := h'
  refine ⟨g, 0, rfl, (h.row.lt g rfl).2, fun i hi => ?_⟩
  obtain ⟨u, h1, h2, h3⟩ := h.rows i hi
  obtain ⟨a, c, rfl⟩ := own_shape h2
  have hcp := own_capE h2
  refine ⟨a, c, ?_, hcp.1, hcp.2, RdE.of_own h2⟩
  rw [Nat.zero_add, h.row.cellAt i (by omega)]
  exact h1
/-- A new row behind the others. -/
theorem OwnTLine.push {u : Value} (h : OwnTLine w base v t us) (hu : w.ownsRow base 191 3 u es.length (evs es)) (hf : ∀ b, u.ownBlock = some b → v.ownBlock ≠ some b ∧ ∀ (i : Nat) (u' : Value), us[i]? = some u' → u'.ownBlock ≠ some b)
  (ho : w'.ownsRow base 188 1 v' (t.length + 1) (us ++ [u])) (hg : w.grownBy w' v.ownBlock) (hat : v'.ownBlock = v.ownBlock ∨ v'.ownBlock = some w.heap.size) : OwnTLine w' base v' (t ++ [es]) (us ++ [u]) := by
 have hnew : ∀ (x : Value) (n : Nat) (xs : List Value), w.ownsRow base 191 3 x n xs → (∀ b, x.ownBlock = some b → v.ownBlock ≠ some b) → ∀ b, x.ownBlock = some b → v'.ownBlock ≠ some b := by
  intro x n xs hx h3 b hb
  rcases hat with e | e
  ·rw [e]; exact h3 b hb
  ·rw [e]
   intro e2
   simp only [Option.some.injEq] at e2
   have := hx.lt b hb
   omega
 refine ⟨by rw [List.length_append]; exact ho, fun i hi => ?_, ?_⟩
 ·rw [List.length_append, List.length_singleton] at hi
  by_cases hlt : i < t.length
  ·obtain ⟨x, h1, h2, h3⟩ := h.rows i hlt
   refine ⟨x, by rw [List.getElem?_append_left (by rw [h.len]; exact hlt)]; exact h1, ?_, hnew x _ _ h2 h3⟩
   rw [List.getElem_append_left hlt]
   exact h2.kept hg (own_sep h3)
  ·obtain rfl : i = t.length := by omega
   refine ⟨u, by rw [List.getElem?_append_right (by rw [h.len]; exact Nat.le_refl _), h.len, Nat.sub_self]; rfl, ?_, hnew u _ _ hu (fun b hb => (hf b hb).1)⟩
   rw [List.getElem_append_right (Nat.le_refl _)]
   simp only [Nat.sub_self, List.getElem_cons_zero]
   exact hu.kept hg (own_sep fun b hb => (hf b hb).1)
 ·have key : ∀ (i : Nat) (x : Value), (us ++ [u])[i]? = some x → (i < us.length ∧ us[i]? = some x) ∨ (i = us.length ∧ x = u) := by
   intro i x hx
   by_cases hlt : i < us.length
   ·rw [List.getElem?_append_left hlt] at hx
    exact .inl ⟨hlt, hx⟩
   ·rw [List.getElem?_append_right (by omega)] at hx
    have hi : i - us.length = 0 := by
     rcases Nat.eq_zero_or_pos (i - us.length) with a | a
     ·exact a
     ·rw [List.getElem?_eq_none (by simp; omega)] at hx; exact absurd hx (by simp)
    rw [hi] at hx
    simp only [List.getElem?_cons_zero, Option.some.injEq] at hx
    exact .inr ⟨by omega, hx.symm⟩
  intro i j x y hij hx hy b hb
  rcases key i x hx with ⟨i1, i2⟩ | ⟨i1, rfl⟩
  ·rcases key j y hy with ⟨j1, j2⟩ | ⟨j1, rfl⟩
   ·exact h.apart i j x y hij i2 j2 b hb
   ·intro e
    exact (hf b e).2 i x i2 hb
  ·rcases key j y hy with ⟨j1, j2⟩ | ⟨j1, rfl⟩
   ·exact (hf b hb).2 j y j2
   ·omega
/-- Another row in the place of one. -/
theorem OwnTLine.swap {gv c i : Nat} {u u' : Value} {row : Option Nat} {es' : List Ev} (h : OwnTLine w base (.slice (some ⟨gv, 0, none⟩) t.length c) t us) (hui : us[i]? = some u) (hg : w.grownBy w1 row) (hrow : ∀ b, row = some b → u.ownBlock = some b ∨ b < base)
  (hu' : w1.ownsRow base 191 3 u' es'.length (evs es')) (hat : ∀ b, u'.ownBlock = some b → u.ownBlock = some b ∨ w.heap.size ≤ b) :
  OwnTLine (w1.setCell ⟨gv, i, none⟩ u') base (.slice (some ⟨gv, 0, none⟩) t.length c) (t.set i es') (us.set i u') := by
 obtain ⟨hi, hu, hu3⟩ := h.at_ hui
 have hgv := h.row.lt gv rfl
 have hne : ∀ b, u'.ownBlock = some b → b ≠ gv := by
  intro b hb e
  subst e
  rcases hat b hb with a | a
  ·exact hu3 b a rfl
  ·omega
 have hrk : ∀ (x : Value) (n : Nat) (xs : List Value) (j : Nat), j ≠ i → us[j]? = some x → w.ownsRow base 191 3 x n xs → ∀ b, x.ownBlock = some b → row ≠ some b := by
  intro x n xs j hji hj hx b hb e
  rcases hrow b e with a | a
  ·exact h.apart j i x u hji hj hui b hb a
  ·have := hx.lt b hb; omega
 refine ⟨?_, fun j hj => ?_, ?_⟩
 ·rw [List.length_set]
  exact ((h.row.kept hg (own_sep fun b hb e => by
   simp only [Value.ownBlock, Option.some.injEq] at hb
   subst hb
   rcases hrow _ e with a | a
   ·exact hu3 _ a rfl
   ·omega)).stored i u').1
 ·have hj' : j < t.length := by rw [List.length_set] at hj; exact hj
  by_cases hji : j = i
  ·subst hji
   refine ⟨u', by rw [List.getElem?_set_self (by rw [h.len]; exact hj')], ?_, fun b hb e => ?_⟩
   ·rw [List.getElem_set_self]
    exact hu'.kept (grown_set w1 gv j u') (own_sep fun b hb e => hne b hb (by simpa using e.symm))
   ·simp only [Value.ownBlock, Option.some.injEq] at e
    exact hne b hb e.symm
  ·obtain ⟨x, h1, h2, h3⟩ := h.rows j hj'
   refine ⟨x, by rw [List.getElem?_set_ne (by omega)]; exact h1, ?_, h3⟩
   rw [List.getElem_set_ne (by omega)]
   refine (h2.kept hg (own_sep (hrk x _ _ j hji h1 h2))).kept (grown_set w1 gv i u') (own_sep fun b hb e => ?_)
   exact h3 b hb (by simpa [Value.ownBlock] using e)
 ·have key : ∀ (j : Nat) (x : Value), (us.set i u')[j]? = some x → (j = i ∧ x = u') ∨ (j ≠ i ∧ us[j]? = some x) := by
   intro j x hx
   by_cases hji : j = i
   ·subst hji
    rw [List.getElem?_set_self (by rw [h.len]; exact hi)] at hx
    exact .inl ⟨rfl, (Option.some.inj hx).symm⟩
   ·rw [List.getElem?_set_ne (by omega)] at hx
    exact .inr ⟨hji, hx⟩
  intro p q x y hpq hx hy b hb
  rcases key p x hx with ⟨p1, rfl⟩ | ⟨p1, p2⟩
  ·rcases key q y hy with ⟨q1, rfl⟩ | ⟨q1, q2⟩
   ·omega
   ·rcases hat b hb with a | a
    ·exact h.apart i q u y (by omega) hui q2 b a
    ·intro e
     obtain ⟨_, hq, _⟩ := h.at_ q2
     have := hq.lt b e
     omega
  ·rcases key q y hy with ⟨q1, rfl⟩ | ⟨q1, q2⟩
   ·intro e
    rcases hat b e with a | a
    ·exact h.apart p i x u (by omega) p2 hui b hb a
    ·obtain ⟨_, hp, _⟩ := h.at_ p2
     have := hp.lt b hb
     omega
   ·exact h.apart p q x y hpq p2 q2 b hb
end
end Go.Proofs.Ytnnfkmjhaljplaa
namespace Go.Proofs.Ytnnfkmjhaljplaa
open Go.RowKit
/-- A row turned in its own memory. -/
theorem OwnTLine.turn {w w1 : World} {base i : Nat} {v u : Value} {t : List (List Ev)} {us : List Value} {es' : List Ev} (h : OwnTLine w base v t us) (hui : us[i]? = some u) (hg : w.grownBy w1 u.ownBlock) (hu' : w1.ownsRow base 191 3 u es'.length (evs es')) :
  OwnTLine w1 base v (t.set i es') us := by
 obtain ⟨hi, hu, hu3⟩ := h.at_ hui
 refine ⟨?_, fun j hj => ?_, h.apart⟩
 ·rw [List.length_set]
  exact h.row.kept hg (own_sep fun b hb e => hu3 b e hb)
 ·have hj' : j < t.length := by rw [List.length_set] at hj; exact hj
  obtain ⟨x, h1, h2, h3⟩ := h.rows j hj'
  by_cases hji : j = i
  ·subst hji
   rw [hui] at h1
   cases h1
   refine ⟨u, hui, ?_, hu3⟩
   rw [List.getElem_set_self]
   exact hu'
  ·refine ⟨x, h1, ?_, h3⟩
   rw [List.getElem_set_ne (by omega)]
   exact h2.kept hg (own_sep fun b hb e => h.apart i j u x (by omega) hui h1 b e hb)
theorem own_boundLine {w : World} {base : Nat} {v : Value} {t : List (List Ev)} {us : List Value} (h : OwnTLine w base v t us) : ∀ u ∈ us, ∀ b, u.ownBlock = some b → b < w.heap.size := fun u hu b hb => by
 obtain ⟨i, hi⟩ := List.getElem?_of_mem hu
 obtain ⟨_, h1, _⟩ := h.at_ hi
 exact (h1.lt b hb).2
end Go.Proofs.Ytnnfkmjhaljplaa
namespace Go.Proofs.Ytnnfkmjhaljplaa
open Go.RowKit
theorem info_op : (Try.prog.info? 169).map (fun i => (i.zero, i.size, i.bytes)) = some (some (.agg #[.int .i64 0, .int .i64 0, .int .i64 0]), 3, 24) := by kernel_rfl
end Go.Proofs.Ytnnfkmjhaljplaa
namespace Go.Proofs.Ytnnfkmjhaljplaa
open Go.RowKit
theorem info_ops : (Try.prog.info? 170).map (fun i => (i.zero, i.size, i.bytes)) = some (some (.slice none 0 0), 1, 24) := by kernel_rfl
end Go.Proofs.Ytnnfkmjhaljplaa
namespace Go.Proofs.Ytnnfkmjhaljplaa
open Go.RowKit
structure OwnTOp (w : World) (base : Nat) (v : Value) (t : List (List Ev)) (us : List Value) : Prop where
 row : w.ownsRow base 170 1 v t.length us
 rows : ∀ i, (h : i < t.length) → ∃ u, us[i]? = some u ∧ w.ownsRow base 169 3 u t[i].length (evs t[i]) ∧ ∀ b, u.ownBlock = some b → v.ownBlock ≠ some b
 apart : ∀ (i j : Nat) (u u' : Value), i ≠ j → us[i]? = some u → us[j]? = some u' → ∀ b, u.ownBlock = some b → u'.ownBlock ≠ some b
section
variable {w w' w1 : World} {base : Nat} {v v' : Value} {t : List (List Ev)} {us : List Value} {es : List Ev}
theorem OwnTOp.len (h : OwnTOp w base v t us) : us.length = t.length := by have := h.row.1; omega
theorem OwnTOp.at_ (h : OwnTOp w base v t us) {i : Nat} {u : Value} (hu : us[i]? = some u) : ∃ (hi : i < t.length), w.ownsRow base 169 3 u t[i].length (evs t[i]) ∧ ∀ b, u.ownBlock = some b → v.ownBlock ≠ some b := by
 have hi : i < t.length := by
  rcases Nat.lt_or_ge i us.length with a | a
  ·rw [← h.len]; exact a
  ·rw [List.getElem?_eq_none a] at hu; exact absurd hu (by simp)
 obtain ⟨u', h1, h2, h3⟩ := h.rows i hi
 rw [hu] at h1
 cases h1
 exact ⟨hi, h2, h3⟩
theorem OwnTOp.kept {row : Option Nat} (h : OwnTOp w base v t us) (hg : w.grownBy w' row) (hr : ∀ b, row = some b → b < base) : OwnTOp w' base v t us :=
 ⟨h.row.kept hg (own_sep fun b hb e => by have := h.row.lt b hb; have := hr b e; omega),
  fun i hi => by
  obtain ⟨u, h1, h2, h3⟩ := h.rows i hi
  exact ⟨u, h1, h2.kept hg (own_sep fun b hb e => by have := h2.lt b hb; have := hr b e; omega), h3⟩,
  h.apart⟩
theorem OwnTOp.below (h : OwnTOp w base v t us) (hb : Below w.heap.size w w') : OwnTOp w' base v t us := h.kept (row := none) ⟨hb.os, hb.tape, hb.output, hb.size, fun k hk _ => hb.block k hk⟩ (fun b e => by cases e)
theorem OwnTOp.alloc (h : OwnTOp w base v t us) (o : Obj) : OwnTOp (w.alloc o) base v t us := h.below ((Below.refl _ _).alloc (Nat.le_refl _) _)
theorem OwnTOp.mono (h : OwnTOp w base v t us) {b' : Nat} (hb : b' ≤ base) : OwnTOp w b' v t us :=
 ⟨own_mono h.row hb, fun i hi => by
  obtain ⟨u, h1, h2, h3⟩ := h.rows i hi
  exact ⟨u, h1, own_mono h2 hb, h3⟩, h.apart⟩
theorem OwnTOp.rd {A : Option Addr} {c : Nat} (h : OwnTOp w base (.slice A t.length c) t us) : RdT w w.heap.size A t := by
 intro h0
 rcases h.row.2 with ⟨_, h''⟩ | ⟨g, cap, cur, h', _⟩
 ·omega
 ·simp only [Value.slice.injEq] at h'
  obtain ⟨rfl, _, rfl⟩ := h'
  refine ⟨g, 0, rfl, (h.row.lt g rfl).2, fun i hi => ?_⟩
  obtain ⟨u, h1, h2, h3⟩ := h.rows i hi
  obtain ⟨a, c, rfl⟩ := own_shape h2
  have hcp := own_capE h2
  refine ⟨a, c, ?_, hcp.1, hcp.2, RdE.of_own h2⟩
  rw [Nat.zero_add, h.row.cellAt i (by omega)]
  exact h1
/-- A new row behind the others. -/
theorem OwnTOp.push {u : Value} (h : OwnTOp w base v t us) (hu : w.ownsRow base 169 3 u es.length (evs es)) (hf : ∀ b, u.ownBlock = some b → v.ownBlock ≠ some b ∧ ∀ (i : Nat) (u' : Value), us[i]? = some u' → u'.ownBlock ≠ some b)
  (ho : w'.ownsRow base 170 1 v' (t.length + 1) (us ++ [u])) (hg : w.grownBy w' v.ownBlock) (hat : v'.ownBlock = v.ownBlock ∨ v'.ownBlock = some w.heap.size) : OwnTOp w' base v' (t ++ [es]) (us ++ [u]) := by
 have hnew : ∀ (x : Value) (n : Nat) (xs : List Value), w.ownsRow base 169 3 x n xs → (∀ b, x.ownBlock = some b → v.ownBlock ≠ some b) → ∀ b, x.ownBlock = some b → v'.ownBlock ≠ some b := by
  intro x n xs hx h3 b hb
  rcases hat with e | e
  ·rw [e]; exact h3 b hb
  ·rw [e]
   intro e2
   simp only [Option.some.injEq] at e2
   have := hx.lt b hb
   omega
 refine ⟨by rw [List.length_append]; exact ho, fun i hi => ?_, ?_⟩
 ·rw [List.length_append, List.length_singleton] at hi
  by_cases hlt : i < t.length
  ·obtain ⟨x, h1, h2, h3⟩ := h.rows i hlt
   refine ⟨x, by rw [List.getElem?_append_left (by rw [h.len]; exact hlt)]; exact h1, ?_, hnew x _ _ h2 h3⟩
   rw [List.getElem_append_left hlt]
   exact h2.kept hg (own_sep h3)
  ·obtain rfl : i = t.length := by omega
   refine ⟨u, by rw [List.getElem?_append_right (by rw [h.len]; exact Nat.le_refl _), h.len, Nat.sub_self]; rfl, ?_, hnew u _ _ hu (fun b hb => (hf b hb).1)⟩
   rw [List.getElem_append_right (Nat.le_refl _)]
   simp only [Nat.sub_self, List.getElem_cons_zero]
   exact hu.kept hg (own_sep fun b hb => (hf b hb).1)
 ·have key : ∀ (i : Nat) (x : Value), (us ++ [u])[i]? = some x → (i < us.length ∧ us[i]? = some x) ∨ (i = us.length ∧ x = u) := by
   intro i x hx
   by_cases hlt : i < us.length
   ·rw [List.getElem?_append_left hlt] at hx
    exact .inl ⟨hlt, hx⟩
   ·rw [List.getElem?_append_right (by omega)] at hx
    have hi : i - us.length = 0 := by
     rcases Nat.eq_zero_or_pos (i - us.length) with a | a
     ·exact a
     ·rw [List.getElem?_eq_none (by simp; omega)] at hx; exact absurd hx (by simp)
    rw [hi] at hx
    simp only [List.getElem?_cons_zero, Option.some.injEq] at hx
    exact .inr ⟨by omega, hx.symm⟩
  intro i j x y hij hx hy b hb
  rcases key i x hx with ⟨i1, i2⟩ | ⟨i1, rfl⟩
  ·rcases key j y hy with ⟨j1, j2⟩ | ⟨j1, rfl⟩
   ·exact h.apart i j x y hij i2 j2 b hb
   ·intro e
    exact (hf b e).2 i x i2 hb
  ·rcases key j y hy with ⟨j1, j2⟩ | ⟨j1, rfl⟩
   ·exact (hf b hb).2 j y j2
   ·omega
/-- Another row in the place of one. -/
theorem OwnTOp.swap {gv c i : Nat} {u u' : Value} {row : Option Nat} {es' : List Ev} (h : OwnTOp w base (.slice (some ⟨gv, 0, none⟩) t.length c) t us) (hui : us[i]? = some u) (hg : w.grownBy w1 row) (hrow : ∀ b, row = some b → u.ownBlock = some b ∨ b < base)
  (hu' : w1.ownsRow base 169 3 u' es'.length (evs es')) (hat : ∀ b, u'.ownBlock = some b → u.ownBlock = some b ∨ w.heap.size ≤ b) :
  OwnTOp (w1.setCell ⟨gv, i, none⟩ u') base (.slice (some ⟨gv, 0, none⟩) t.length c) (t.set i es') (us.set i u') := by
 obtain ⟨hi, hu, hu3⟩ := h.at_ hui
 have hgv := h.row.lt gv rfl
 have hne : ∀ b, u'.ownBlock = some b → b ≠ gv := by
  intro b hb e
  subst e
  rcases hat b hb with a | a
  ·exact hu3 b a rfl
  ·omega
 have hrk : ∀ (x : Value) (n : Nat) (xs : List Value) (j : Nat), j ≠ i → us[j]? = some x → w.ownsRow base 169 3 x n xs → ∀ b, x.ownBlock = some b → row ≠ some b := by
  intro x n xs j hji hj hx b hb e
  rcases hrow b e with a | a
  ·exact h.apart j i x u hji hj hui b hb a
  ·have := hx.lt b hb; omega
 refine ⟨?_, fun j hj => ?_, ?_⟩
 ·rw [List.length_set]
  exact ((h.row.kept hg (own_sep fun b hb e => by
   simp only [Value.ownBlock, Option.some.injEq] at hb
   subst hb
   rcases hrow _ e with a | a
   ·exact hu3 _ a rfl
   ·omega)).stored i u').1
 ·have hj' : j < t.length := by rw [List.length_set] at hj; exact hj
  by_cases hji : j = i
  ·subst hji
   refine ⟨u', by rw [List.getElem?_set_self (by rw [h.len]; exact hj')], ?_, fun b hb e => ?_⟩
   ·rw [List.getElem_set_self]
    exact hu'.kept (grown_set w1 gv j u') (own_sep fun b hb e => hne b hb (by simpa using e.symm))
   ·simp only [Value.ownBlock, Option.some.injEq] at e
    exact hne b hb e.symm
  ·obtain ⟨x, h1, h2, h3⟩ := h.rows j hj'
   refine ⟨x, by rw [List.getElem?_set_ne (by omega)]; exact h1, ?_, h3⟩
   rw [List.getElem_set_ne (by omega)]
   refine (h2.kept hg (own_sep (hrk x _ _ j hji h1 h2))).kept (grown_set w1 gv i u') (own_sep fun b hb e => ?_)
   exact h3 b hb (by simpa [Value.ownBlock] using e)
 ·have key : ∀ (j : Nat) (x : Value), (us.set i u')[j]? = some x → (j = i ∧ x = u') ∨ (j ≠ i ∧ us[j]? = some x) := by
   intro j x hx
   by_cases hji : j = i
   ·subst hji
    rw [List.getElem?_set_self (by rw [h.len]; exact hi)] at hx
    exact .inl ⟨rfl, (Option.some.inj hx).symm⟩
   ·rw [List.getElem?_set_ne (by omega)] at hx
    exact .inr ⟨hji, hx⟩
  intro p q x y hpq hx hy b hb
  rcases key p x hx with ⟨p1, rfl⟩ | ⟨p1, p2⟩
  ·rcases key q y hy with ⟨q1, rfl⟩ | ⟨q1, q2⟩
   ·omega
   ·rcases hat b hb with a | a
    ·exact h.apart i q u y (by omega) hui q2 b a
    ·intro e
     obtain ⟨_, hq, _⟩ := h.at_ q2
     have := hq.lt b e
     omega
  ·rcases key q y hy with ⟨q1, rfl⟩ | ⟨q1, q2⟩
   ·intro e
    rcases hat b e with a | a
    ·exact h.apart p i x u (by omega) p2 hui b hb a
    ·obtain ⟨_, hp, _⟩ := h.at_ p2
     have := hp.lt b hb
     omega
   ·exact h.apart p q x y hpq p2 q2 b hb
end
end Go.Proofs.Ytnnfkmjhaljplaa
namespace Go.Proofs.Ytnnfkmjhaljplaa
open Go.RowKit
/-- A row turned in its own memory. -/
theorem OwnTOp.turn {w w1 : World} {base i : Nat} {v u : Value} {t : List (List Ev)} {us : List Value} {es' : List Ev} (h : OwnTOp w base v t us) (hui : us[i]? = some u) (hg : w.grownBy w1 u.ownBlock) (hu' : w1.ownsRow base 169 3 u es'.length (evs es')) :
  OwnTOp w1 base v (t.set i es') us := by
 obtain ⟨hi, hu, hu3⟩ := h.at_ hui
 refine ⟨?_, fun j hj => ?_, h.apart⟩
 ·rw [List.length_set]
  exact h.row.kept hg (own_sep fun b hb e => hu3 b e hb)
 ·have hj' : j < t.length := by rw [List.length_set] at hj; exact hj
  obtain ⟨x, h1, h2, h3⟩ := h.rows j hj'
  by_cases hji : j = i
  ·subst hji
   rw [hui] at h1
   cases h1
   refine ⟨u, hui, ?_, hu3⟩
   rw [List.getElem_set_self]
   exact hu'
  ·refine ⟨x, h1, ?_, h3⟩
   rw [List.getElem_set_ne (by omega)]
   exact h2.kept hg (own_sep fun b hb e => h.apart i j u x (by omega) hui h1 b e hb)
end Go.Proofs.Ytnnfkmjhaljplaa
