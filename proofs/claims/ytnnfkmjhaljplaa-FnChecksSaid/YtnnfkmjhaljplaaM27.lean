/- What the laws' walks rest upon, part 27. -/
import Derived.Test.YtnnfkmjhaljplaaM06
import Derived.Test.YtnnfkmjhaljplaaM22
import Derived.Test.YtnnfkmjhaljplaaM20
import Derived.Test.YtnnfkmjhaljplaaM14
import Derived.Test.YtnnfkmjhaljplaaM11
import Derived.Test.YtnnfkmjhaljplaaM26
import Derived.Test.YtnnfkmjhaljplaaM25
namespace Go.Proofs.Ytnnfkmjhaljplaa
open Go.RowKit
theorem wlR_take : ∀ {os : List Wls} {us : List Value}, us.length = os.length → ∀ m, wlR (os.take m) (us.take m) = (wlR os us).take (m * 2)
 | [], [], _, m => by simp [wlR]
 | [], _ :: _, h, _ => by simp at h
 | _ :: _, [], h, _ => by simp at h
 | _ :: _, _ :: _, _, 0 => by simp [wlR]
 | x :: r, u :: us, h, m + 1 => by
  rw [show (m + 1) * 2 = m * 2 + 1 + 1 by omega]
  simp only [List.take_succ_cons, wlR, wlR_take (os := r) (us := us) (by simpa using h) m]
theorem own_less {w : World} {base n m s c : Nat} {e : TypeId} {A : Option Addr} {xs : List Value} (h : w.ownsRow base e s (.slice A n c) n xs) (hm : m ≤ n) : w.ownsRow base e s (.slice A m c) m (xs.take (m * s)) := by
 have hms : m * s ≤ n * s := Nat.mul_le_mul_right _ hm
 refine ⟨by rw [List.length_take, h.1]; omega, ?_⟩
 rcases h.2 with ⟨h', h''⟩ | ⟨g, cap, cur, h', hb, hg, hn, hc, hs, hx⟩
 ·simp only [Value.slice.injEq] at h'
  obtain ⟨rfl, rfl, rfl⟩ := h'
  exact .inl ⟨by simp; omega, by omega⟩
 ·simp only [Value.slice.injEq] at h'
  obtain ⟨rfl, _, rfl⟩ := h'
  exact .inr ⟨g, c, cur, rfl, hb, hg, by omega, hc, hs, by rw [← hx, List.take_take, Nat.min_eq_left hms]⟩
theorem OwnW.take {w : World} {base n e m : Nat} {E : Option Addr} {os : List Wls} {us : List Value} (h : OwnW w base (.slice E n e) os us) (hm : m ≤ n) : OwnW w base (.slice E m e) (os.take m) (us.take m) := by
 obtain rfl := h.n_eq
 have hlen : (os.take m).length = m := by rw [List.length_take]; omega
 refine ⟨?_, by rw [List.length_take, List.length_take, h.len], fun i hi => ?_, fun i j x y hij hx hy => ?_⟩
 ·rw [hlen, wlR_take h.len]
  exact own_less h.row hm
 ·rw [hlen] at hi
  obtain ⟨u, h1, h2⟩ := h.rows i (by omega)
  refine ⟨u, by rw [List.getElem?_take_of_lt hi]; exact h1, ?_⟩
  rw [List.getElem_take]
  exact h2
 ·rw [List.getElem?_take] at hx hy
  split at hx
  ·split at hy
   ·exact h.apart i j x y hij hx hy
   ·cases hy
  ·cases hx
/-- The trace in block gt, the write lists in v; the source in g, as far as k'. -/
structure LdS (w : World) (g : Nat) (A : Option Addr) (c : Nat) (l : List Int) (gt : Nat) (v : Value) (t : List (List Ev)) (us : List Value) (os : List Wls) (uw : List Value) (k' : Nat) (w' : World) : Prop where
 oT : OwnT w' w.heap.size (.slice (some ⟨gt, 0, none⟩) 4 4) t us
 t4 : t.length = 4
 oW : OwnW w' w.heap.size v os uw
 src : Src w' g A c l k'
 gr : w.grownBy w' (some g)
 hg : g < w.heap.size
section
variable {w w1 w2 : World} {g gt k1 k2 : Nat} {A : Option Addr} {c : Nat} {l : List Int} {v u : Value} {t : List (List Ev)} {us uw : List Value} {os : List Wls}
theorem Src.own_ {r : Option Nat} (h : Src w1 g A c l k1) (hg : w1.grownBy w2 r) (hr : ∀ b, r = some b → g < b) : Src w2 g A c l k1 :=
 h.below (B := g + 1) ((Below.refl _ _).grown hg (by have := h.lt; omega) (fun b e => hr b e)) (Nat.lt_succ_self _)
theorem LdS.went (h : LdS w g A c l gt v t us os uw k1 w1) (hS : Src w2 g A c l k2) (hg : w1.grownBy w2 (some g)) : LdS w g A c l gt v t us os uw k2 w2 :=
 ⟨h.oT.kept hg (fun b e => by cases e; exact h.hg), h.t4, h.oW.kept hg (fun b e => by cases e; exact h.hg), hS, h.gr.trans hg, h.hg⟩
theorem LdS.alloc (h : LdS w g A c l gt v t us os uw k1 w1) (o : Obj) : LdS w g A c l gt v t us os uw k1 (w1.alloc o) := h.went (h.src.alloc o) (World.grownBy_alloc _ _ _)
theorem LdS.drew (h : LdS w g A c l gt v t us os uw k1 w1) : LdS w g A c l gt v t us os uw k1 w1.drew := h.went (h.src.drewN 1) (grown_drewN (World.grownBy.refl _ _) 1)
theorem LdS.core (h : LdS w g A c l gt v t us os uw k1 w1) {i : Nat} (hi : i < 4) (hit : i < t.length) : ∃ a e, us[i]? = some (.slice a t[i].length e) ∧ w1.ownsRow w.heap.size 81 3 (.slice a t[i].length e) t[i].length (evs t[i]) ∧ w1.cell? ⟨gt, i, none⟩ = some (.slice a t[i].length e) := by
 obtain ⟨u, h1, h2, h3⟩ := h.oT.rows i hit
 obtain ⟨a, e, rfl⟩ := own_shape h2
 refine ⟨a, e, h1, h2, ?_⟩
 have rr := h.oT.row
 rw [h.t4] at rr
 rw [rr.cellAt i (by have := h.t4; omega)]
 exact h1
theorem LdS.cell (h : LdS w g A c l gt v t us os uw k1 w1) {i : Nat} (hui : us[i]? = some u) : w1.cell? ⟨gt, i, none⟩ = some u := by
 obtain ⟨hi, _⟩ := h.oT.at_ hui
 have rr := h.oT.row
 rw [h.t4] at rr
 rw [rr.cellAt i (by have := h.t4; omega)]
 exact hui
theorem LdS.ev (h : LdS w g A c l gt v t us os uw k1 w1) {i : Nat} (hui : us[i]? = some u) {L : List Ev} (hL : ∀ h : i < t.length, t[i] = L) : w1.ownsRow w.heap.size 81 3 u L.length (evs L) := by
 obtain ⟨hi, h2, _⟩ := h.oT.at_ hui
 rw [hL hi] at h2
 exact h2
theorem LdS.list (h : LdS w g A c l gt v t us os uw k1 w1) {j : Nat} (hj : j < os.length) : ∃ gv n e a x, v = .slice (some ⟨gv, 0, none⟩) n e ∧ uw[j]? = some (.slice a os[j].ids.length x) ∧ w1.ownsRow w.heap.size 83 2 (.slice a os[j].ids.length x) os[j].ids.length (cels (wids os[j].ids)) ∧ w1.cell? ⟨gv, j * 2 + 1, none⟩ = some (.slice a os[j].ids.length x) := by
 obtain ⟨gv, n, e, rfl⟩ : ∃ gv n e, v = .slice (some ⟨gv, 0, none⟩) n e := by
  rcases h.oW.row.2 with ⟨h', h''⟩ | ⟨g, cap, cur, h', _⟩
  ·omega
  ·exact ⟨g, _, cap, h'⟩
 obtain ⟨u, h1, h2⟩ := h.oW.rows j hj
 obtain ⟨a, x, rfl⟩ := own_shape h2
 have hl := wlR_length h.oW.len
 refine ⟨gv, n, e, a, x, rfl, h1, h2, ?_⟩
 obtain rfl := h.oW.n_eq
 rw [h.oW.row.cellAt (j * 2 + 1) (by omega), (wlR_get h.oW.len j hj).2]
 exact h1
theorem LdS.wcell {gv n e j : Nat} (h : LdS w g A c l gt (.slice (some ⟨gv, 0, none⟩) n e) t us os uw k1 w1) (hj : j < os.length) (hwj : uw[j]? = some u) : w1.cell? ⟨gv, j * 2 + 1, none⟩ = some u := by
 have hl := wlR_length h.oW.len
 obtain rfl := h.oW.n_eq
 rw [h.oW.row.cellAt (j * 2 + 1) (by omega), (wlR_get h.oW.len j hj).2]
 exact hwj
theorem LdS.wrow {j : Nat} {l' : List Wid} (h : LdS w g A c l gt v t us os uw k1 w1) (hwj : uw[j]? = some u) (hl : ∀ h : j < os.length, os[j].ids = l') : w1.ownsRow w.heap.size 83 2 u l'.length (cels (wids l')) := by
 obtain ⟨hi, h2⟩ := h.oW.at_ hwj
 rw [hl hi] at h2
 exact h2
/-- A row of events turned in its own memory. -/
theorem LdS.row (h : LdS w g A c l gt v t us os uw k1 w1) {i : Nat} {es' : List Ev} (hui : us[i]? = some u) (hg : w1.grownBy w2 u.ownBlock) (hu' : w2.ownsRow w.heap.size 81 3 u es'.length (evs es')) : LdS w g A c l gt v (t.set i es') us os uw k1 w2 := by
 obtain ⟨hi, hu, hu3⟩ := h.oT.at_ hui
 have hlo : ∀ b, u.ownBlock = some b → w.heap.size ≤ b := fun b e => (hu.lt b e).1
 refine ⟨h.oT.turn hui hg hu', by rw [List.length_set]; exact h.t4, h.oW.keptB hg (fun b hb e => own_types hu h.oW.row (by decide) b e hb) (fun x hx b hb e => ?_), h.src.own_ hg (fun b e => Nat.lt_of_lt_of_le h.hg (hlo b e)), grown_row h.gr hg hlo, h.hg⟩
 obtain ⟨j, hj⟩ := List.getElem?_of_mem hx
 obtain ⟨_, hx2⟩ := h.oW.at_ hj
 exact own_types hu hx2 (by decide) b e hb
/-- Write lists in another's place. -/
theorem LdS.lists (h : LdS w g A c l gt v t us os uw k1 w1) {v' : Value} {os' : List Wls} {uw' : List Value} {r : Option Nat} (hg : w1.grownBy w2 r) (hr : ∀ b, r = some b → w.heap.size ≤ b ∧ b ≠ gt ∧ ∀ u ∈ us, u.ownBlock ≠ some b) (hW : OwnW w2 w.heap.size v' os' uw') : LdS w g A c l gt v' t us os' uw' k1 w2 := by
 refine ⟨⟨h.oT.row.kept hg (own_sep fun b hb e => (hr b e).2.1 (by simp [Value.ownBlock] at hb; omega)), fun j hj => ?_, h.oT.apart⟩, h.t4, hW, h.src.own_ hg (fun b e => Nat.lt_of_lt_of_le h.hg (hr b e).1), grown_row h.gr hg (fun b e => (hr b e).1), h.hg⟩
 obtain ⟨x, x1, x2, x3⟩ := h.oT.rows j hj
 exact ⟨x, x1, x2.kept hg (own_sep fun b hb e => (hr b e).2.2 x (List.mem_of_getElem? x1) hb), x3⟩
/-- No row of write lists, nor of ids, lies where the trace lies. -/
theorem LdS.apart (h : LdS w g A c l gt v t us os uw k1 w1) {T : TypeId} {s n : Nat} {x : Value} {xs : List Value} (hx : w1.ownsRow w.heap.size T s x n xs) (hT : T = 83 ∨ T = 69) : ∀ b, x.ownBlock = some b → w.heap.size ≤ b ∧ b ≠ gt ∧ ∀ u ∈ us, u.ownBlock ≠ some b := fun b hb => by
 refine ⟨(hx.lt b hb).1, fun e => ?_, fun u hu e => ?_⟩
 ·subst e
  rcases hT with rfl | rfl
  ·exact own_types hx h.oT.row (by decide) b hb rfl
  ·exact own_types hx h.oT.row (by decide) b hb rfl
 ·obtain ⟨j, hj⟩ := List.getElem?_of_mem hu
  obtain ⟨_, hu2, _⟩ := h.oT.at_ hj
  rcases hT with rfl | rfl
  ·exact own_types hx hu2 (by decide) b hb e
  ·exact own_types hx hu2 (by decide) b hb e
theorem LdS.below (h : LdS w g A c l gt v t us os uw k1 w1) (hb : Below w1.heap.size w1 w2) : LdS w g A c l gt v t us os uw k1 w2 :=
 h.went (h.src.below hb h.src.lt) ⟨hb.os, hb.tape, hb.output, hb.size, fun k hk _ => hb.block k hk⟩
/-- Another row of ids in the place of one. -/
theorem LdS.swapW {gv n e j : Nat} {u' : Value} {ids' : List Wid} (h : LdS w g A c l gt (.slice (some ⟨gv, 0, none⟩) n e) t us os uw k1 w1) (hj : j < os.length) (hwj : uw[j]? = some u) (hu' : w1.ownsRow w.heap.size 83 2 u' ids'.length (cels (wids ids'))) (hat : ∀ b, u'.ownBlock = some b → ∀ (i : Nat) (x : Value), j ≠ i → uw[i]? = some x → x.ownBlock ≠ some b) :
  LdS w g A c l gt (.slice (some ⟨gv, 0, none⟩) n e) t us (os.set j ⟨os[j].a, ids'⟩) (uw.set j u') k1 (w1.setCell ⟨gv, j * 2 + 1, none⟩ u') :=
 h.lists (r := some gv) (grown_set w1 gv (j * 2 + 1) u') (fun b e => by cases e; exact h.apart h.oW.row (.inr rfl) gv rfl) (h.oW.swap (row := none) hwj hj (World.grownBy.refl _ _) (fun b e => by cases e) hu' (fun b hb => .inr (hat b hb)))
/-- Ids turned in their own memory. -/
theorem LdS.turnW {j : Nat} {ids' : List Wid} (h : LdS w g A c l gt v t us os uw k1 w1) (hj : j < os.length) (hwj : uw[j]? = some u) (hg : w1.grownBy w2 u.ownBlock) (hu' : w2.ownsRow w.heap.size 83 2 u ids'.length (cels (wids ids'))) :
  LdS w g A c l gt v t us (os.set j ⟨os[j].a, ids'⟩) uw k1 w2 := by
 obtain ⟨_, hu⟩ := h.oW.at_ hwj
 exact h.lists hg (h.apart hu (.inl rfl)) (h.oW.turn hwj hj hg hu')
/-- One list fewer. -/
theorem LdS.less {E : Option Addr} {n e m : Nat} (h : LdS w g A c l gt (.slice E n e) t us os uw k1 w1) (hm : m ≤ n) : LdS w g A c l gt (.slice E m e) t us (os.take m) (uw.take m) k1 w1 :=
 ⟨h.oT, h.t4, h.oW.take hm, h.src, h.gr, h.hg⟩
/-- What the draw tells. -/
theorem LdS.tell (h : LdS w g A c l gt v t us os uw k1 w1) {k : Nat} {E : Option Addr} {n e : Nat} (hv : v = .slice E n e) (hk : k1 ≤ k + 600) (ht : ∀ x ∈ t, x.length ≤ 150) (ho : os.length ≤ 200) (hi : ∀ x ∈ os, x.ids.length ≤ 1000) : LdPost w g A c l k (.returned (.tuple #[.slice (some ⟨gt, 0, none⟩) 4 4, v])) w1 := by
 subst hv
 have hW := h.oW
 obtain rfl := hW.n_eq
 have t4 := h.t4
 have hT : OwnT w1 w.heap.size (.slice (some ⟨gt, 0, none⟩) t.length 4) t us := by rw [t4]; exact h.oT
 exact ⟨t, os, some ⟨gt, 0, none⟩, E, 4, e, by rw [t4], by omega, ht, ho, hi, hT.rd, hW.rd, k1, hk, h.src, h.gr⟩
end
theorem alL {w0 w : World} {g k : Nat} {A : Option Addr} {c : Nat} {l : List Int} {Z : List (Nat × List Int)} (h : Mid w0 g A c l k Z w) (zs : List Int) : Mid w0 g A c l k ((w.heap.size, zs) :: Z) (w.alloc (.cells (zs.map (Value.int .i64)).toArray 2)) :=
 ⟨h.src.alloc _, h.gr.trans (World.grownBy_alloc _ _ _), fun p hp => by
  rcases List.mem_cons.1 hp with rfl | hp
  ·exact ⟨Bk.new _ _ _, by have := h.src.lt; simp only; omega⟩
  ·exact ⟨(h.arr p hp).1.alloc _, (h.arr p hp).2⟩⟩
theorem next_mid {w0 w : World} {g : Nat} {A : Option Addr} {c : Nat} {l : List Int} (n : Int) (E : ∃ k Z, Mid w0 g A c l k Z w ∧ k ≤ 4000) (h0 : 0 ≤ n) (hn : n ≤ 1000000) :
  Calls Try.prog 49 #[.pointer (some ⟨g, 0, none⟩), .int .i64 n] w fun e w' => ∃ r : Int, e = .returned (.int .i64 r) ∧ 0 ≤ r ∧ (r < n ∨ n < 1 ∧ r = 0) ∧ ∀ k Z, Mid w0 g A c l k Z w → Mid w0 g A c l (k + 1) Z w' := by
 obtain ⟨k, Z, M, hk⟩ := E
 refine (l1Next_any g k n A c l w M.src hk h0 hn).mono ?_
 rintro e w1 ⟨r, rfl, r0, r1, S1, g1⟩
 refine ⟨r, rfl, r0, r1, fun j L' M' => ?_⟩
 obtain rfl := M.src.same M'.src
 exact ⟨S1, M'.gr.trans g1, fun p hp => ⟨(M'.arr p hp).1.grown g1 (by have := (M'.arr p hp).2; simpa using this), (M'.arr p hp).2⟩⟩
theorem rdc_bk {w : World} {b : Nat} {x : Wid} {T : TypeId} (h : Bk w b #[.int .i64 x.c, .int .i64 x.i] T) : RdC w (b + 1) (some ⟨b, 0, none⟩) (wids [x]) := by
 intro _
 refine ⟨b, 0, rfl, Nat.lt_succ_self _, fun i hi => ?_⟩
 have hi' : i < 2 := by simpa [wids, cels] using hi
 rw [Nat.zero_add, h.cell i]
 rcases (show i = 0 ∨ i = 1 by omega) with rfl | rfl <;> rfl
theorem wid_at0 {l : List Wid} (h : 0 < l.length) : (cels (wids l))[0]? = some (.int .i64 l[0].c) := by
 have := (cels_get (wids l) 0 (by rw [wids_length]; exact h)).1
 rw [Nat.zero_mul] at this
 rw [this]
 simp [wids, wid]
theorem wid_at1 {l : List Wid} (h : 0 < l.length) : (cels (wids l))[1]? = some (.int .i64 l[0].i) := by
 have := (cels_get (wids l) 0 (by rw [wids_length]; exact h)).2
 rw [Nat.zero_mul] at this
 rw [this]
 simp [wids, wid]
theorem wids_app (l : List Wid) (x : Wid) : cels (wids l) ++ cels (wids [x]) = cels (wids (l ++ [x])) := by
 rw [← cels_append]
 unfold wids
 rw [List.map_append]
def cutI (g k c : Nat) : Addr := if c = k then ⟨g, 0, none⟩ else ⟨g, k * 2, none⟩
theorem own_capC {w : World} {base s n c : Nat} {e : TypeId} {A : Option Addr} {xs : List Value} (h : w.ownsRow base e s (.slice A n c) n xs) : n ≤ c := by
 rcases h.2 with ⟨h', h''⟩ | ⟨g, cap, cur, h', _, _, hn, _⟩
 ·omega
 ·simp only [Value.slice.injEq] at h'; omega
theorem rdc_tail {w : World} {B gi ck : Nat} {l : List Wid} (h : RdC w B (some ⟨gi, 0, none⟩) (wids l)) (h0 : 0 < l.length) (hc : l.length ≤ ck) : RdC w B (some (cutI gi 1 ck)) (wids l.tail) := by
 match l, h, hc with
 | x :: r, h, hc =>
  intro h1
  have hr : 0 < r.length := by rw [List.tail_cons, cels_length, wids_length] at h1; omega
  obtain ⟨b, off, e, hb, hg⟩ := h (by rw [cels_length, wids_length]; simp)
  simp only [Option.some.injEq, Addr.mk.injEq, and_true] at e
  obtain ⟨rfl, rfl⟩ := e
  rw [List.length_cons] at hc
  unfold cutI
  rw [if_neg (by omega)]
  refine ⟨gi, 1 * 2, rfl, hb, fun i hi => ?_⟩
  rw [List.tail_cons] at hi
  have h2 := hg (i + 2) (by rw [cels_length, wids_length] at hi ⊢; simp only [List.length_cons]; omega)
  rw [show 0 + (i + 2) = 1 * 2 + i by omega] at h2
  rw [h2]
  rfl
theorem wid_at' {w : World} {base gi n c k : Nat} {l : List Wid} (h : w.ownsRow base 83 2 (.slice (some ⟨gi, 0, none⟩) n c) n (cels (wids l))) (hk : k < l.length) : w.cell? ⟨gi, k * 2, none⟩ = some (.int .i64 l[k].c) ∧ w.cell? ⟨gi, k * 2 + 1, none⟩ = some (.int .i64 l[k].i) := by
 have hn : n = l.length := by have := h.1; rw [cels_length, wids_length] at this; omega
 subst hn
 obtain ⟨g0, g1⟩ := cels_get (wids l) k (by rw [wids_length]; exact hk)
 rw [h.cellAt (k * 2) (by omega), h.cellAt (k * 2 + 1) (by omega), g0, g1]
 simp [wids, wid]
theorem wid_at {w : World} {base gi c k : Nat} {l : List Wid} (h : w.ownsRow base 83 2 (.slice (some ⟨gi, 0, none⟩) l.length c) l.length (cels (wids l))) (hk : k < l.length) : w.cell? ⟨gi, k * 2, none⟩ = some (.int .i64 l[k].c) ∧ w.cell? ⟨gi, k * 2 + 1, none⟩ = some (.int .i64 l[k].i) := wid_at' h hk
theorem evc_at' {w : World} {base gi n c k : Nat} {l : List Ev} (h : w.ownsRow base 81 3 (.slice (some ⟨gi, 0, none⟩) n c) n (evs l)) (hk : k < l.length) : w.cell? ⟨gi, k * 3, none⟩ = some (.int .i64 l[k].k) ∧ w.cell? ⟨gi, k * 3 + 1, none⟩ = some (.int .i64 l[k].a) ∧ w.cell? ⟨gi, k * 3 + 2, none⟩ = some (.int .i64 l[k].v) := by
 have hn : n = l.length := by have := h.1; rw [evs_length] at this; omega
 subst hn
 obtain ⟨g0, g1, g2⟩ := evs_get l k hk
 rw [h.cellAt (k * 3) (by omega), h.cellAt (k * 3 + 1) (by omega), h.cellAt (k * 3 + 2) (by omega), g0, g1, g2]
 exact ⟨rfl, rfl, rfl⟩
theorem evc_at {w : World} {base gi c k : Nat} {l : List Ev} (h : w.ownsRow base 81 3 (.slice (some ⟨gi, 0, none⟩) l.length c) l.length (evs l)) (hk : k < l.length) : w.cell? ⟨gi, k * 3, none⟩ = some (.int .i64 l[k].k) ∧ w.cell? ⟨gi, k * 3 + 1, none⟩ = some (.int .i64 l[k].a) ∧ w.cell? ⟨gi, k * 3 + 2, none⟩ = some (.int .i64 l[k].v) := evc_at' h hk
theorem own_drew {w : World} {base s n : Nat} {e : TypeId} {v : Value} {xs : List Value} (h : w.ownsRow base e s v n xs) : w.drew.ownsRow base e s v n xs := h
theorem wids_set {l : List Wid} {k : Nat} (hk : k < l.length) {x : Wid} : ((cels (wids l)).set (k * 2) (.int .i64 x.c)).set (k * 2 + 1) (.int .i64 x.i) = cels (wids (l.set k x)) := by
 apply List.ext_getElem?
 intro i
 by_cases hi : i / 2 < l.length
 ·obtain ⟨g0, g1⟩ := cels_get (wids l) (i / 2) (by rw [wids_length]; exact hi)
  obtain ⟨f0, f1⟩ := cels_get (wids (l.set k x)) (i / 2) (by rw [wids_length, List.length_set]; exact hi)
  have hlen : (cels (wids l)).length = l.length * 2 := by rw [cels_length, wids_length]
  by_cases hik : i / 2 = k
  ·subst hik
   have hx : (wids (l.set (i / 2) x))[i / 2]'(by rw [wids_length, List.length_set]; exact hi) = wid x := by simp [wids]
   rw [hx] at f0 f1
   rcases (show i = i / 2 * 2 ∨ i = i / 2 * 2 + 1 by omega) with e | e
   ·rw [e] at f0 ⊢
    simp only [show i / 2 * 2 / 2 = i / 2 by omega] at f0 ⊢
    rw [f0, List.getElem?_set_ne (by omega), List.getElem?_set_self (by omega)]
    rfl
   ·have e2 : (i / 2 * 2 + 1) / 2 = i / 2 := by omega
    rw [e]
    simp only [e2]
    rw [f1, List.getElem?_set_self (by rw [List.length_set]; omega)]
    rfl
  ·have hx : (wids (l.set k x))[i / 2]'(by rw [wids_length, List.length_set]; exact hi) = (wids l)[i / 2]'(by rw [wids_length]; exact hi) := by
    simp only [wids, List.getElem_map]
    rw [List.getElem_set_ne (by omega)]
   rw [hx] at f0 f1
   rw [List.getElem?_set_ne (by omega), List.getElem?_set_ne (by omega)]
   rcases (show i = i / 2 * 2 ∨ i = i / 2 * 2 + 1 by omega) with e | e
   ·rw [e]
    exact g0.trans f0.symm
   ·have e2 : (i / 2 * 2 + 1) / 2 = i / 2 := by omega
    rw [e]
    exact g1.trans f1.symm
 ·rw [List.getElem?_eq_none (by rw [List.length_set, List.length_set, cels_length, wids_length]; omega), List.getElem?_eq_none (by rw [cels_length, wids_length, List.length_set]; omega)]
theorem set_few {α : Type} {t : List (List α)} {i n : Nat} {x : List α} (h : ∀ y ∈ t, y.length ≤ n) (hx : x.length ≤ n) : ∀ y ∈ t.set i x, y.length ≤ n := fun y hy => by
 rcases List.mem_or_eq_of_mem_set hy with a | a
 ·exact h y a
 ·rw [a]; exact hx
theorem set_fewW {os : List Wls} {i n : Nat} {x : Wls} (h : ∀ y ∈ os, y.ids.length ≤ n) (hx : x.ids.length ≤ n) : ∀ y ∈ os.set i x, y.ids.length ≤ n := fun y hy => by
 rcases List.mem_or_eq_of_mem_set hy with a | a
 ·exact h y a
 ·rw [a]; exact hx
/-- The drawn run: its log, and what it is split into. -/
theorem run_few {t : List (List Ev)} (h : pgF t = 0) (Ln : Nat) (hL : 1 ≤ Ln ∧ Ln ≤ 4) (ps : List Int) :
  ((runL (newM t.length Ln) (logO t (ordF t ps))).1.length ≤ 32 ∧ ∀ s ∈ (runL (newM t.length Ln) (logO t (ordF t ps))).1, 0 ≤ s.c ∧ s.c ≤ (4 : Nat) - (1 : Int)) := by
 obtain ⟨_, _, _, hF⟩ := sim_ok (picks := ps) h (show 1 ≤ (Ln : Int) ∧ (Ln : Int) ≤ 4 by omega)
 unfold simL at hF
 rw [Int.toNat_natCast] at hF
 obtain ⟨f1, f2, f3, _⟩ := logF_zero hF
 have hall := logG_all f3
 exact ⟨f2, fun s hs => by have := (hall s hs).1; omega⟩
theorem spT_few {S : List Stp} (h : S.length ≤ 32) : ∀ x ∈ spT 4 S, x.length ≤ 32 := fun x hx => by
 obtain ⟨i, hi, rfl⟩ := List.getElem_of_mem hx
 rw [spT_get, colE_length]
 exact Nat.le_trans (cntL_le _ _) h
theorem ordW_few {S : List Stp} (h : S.length ≤ 32) : (ordW S).length ≤ 32 ∧ ∀ x ∈ ordW S, x.ids ≠ [] ∧ x.ids.length ≤ 32 := by
 obtain ⟨h1, h2⟩ := ordW_len S
 refine ⟨by omega, fun x hx => ⟨((ordR_all S.reverse).2.2 x hx).2, ?_⟩⟩
 have := sumO_mem hx
 omega
theorem run_headW (A : Option Addr) (n k c : Nat) (l : Int) (w : World) (hl : l = k) (h : k ≤ c) : (Instr.slice 27 (.slice A n c) none (some (.int .i64 l)) none).run Try.prog w = .ok (.slice A k c) w := by
 subst hl
 simp [go_sem, h]
theorem run_cutI (g n k c : Nat) (l : Int) (w : World) (hl : l = k) (h : k ≤ n) : (Instr.slice 67 (.slice (some ⟨g, 0, none⟩) n c) (some (.int .i64 l)) none none).run Try.prog w = .ok (.slice (some (cutI g k c)) (n - k) (c - k)) w := by
 subst hl
 by_cases hc : c = k <;> simp [go_sem, h, cutI, hc]
theorem mem3p {r : Int} (h : r ∈ [1, 2, 4]) : 1 ≤ r ∧ r ≤ 4 := by simp at h; omega
end Go.Proofs.Ytnnfkmjhaljplaa
