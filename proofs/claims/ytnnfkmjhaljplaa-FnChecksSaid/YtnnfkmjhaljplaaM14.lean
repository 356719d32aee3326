/- What the laws' walks rest upon, part 14. -/
import Derived.Test.YtnnfkmjhaljplaaM02
import Derived.Test.YtnnfkmjhaljplaaM12
import Derived.Test.YtnnfkmjhaljplaaM13
import Derived.RangeFuncNested
import Derived.RangeFuncBound
import Derived.RangeFuncCalls
import Derived.RangeFuncLeaves
import Derived.Shelf.Abstract
import Derived.Shelf.RegionOpen
import Derived.WalkKit
import Derived.Test.YtnnfkmjhaljplaaM01
import Derived.OrdersHeld
import Derived.StillTail
import Derived.Deep.RegionHeld3
namespace Go.Proofs.Ytnnfkmjhaljplaa
open Go.RowKit
/-- In the midst of the draws: the source is read as far as k; the arrays of L lie as they were laid. -/
structure Mid (w0 : World) (g : Nat) (A : Option Addr) (c : Nat) (l : List Int) (k : Nat) (L : List (Nat × List Int)) (w : World) : Prop where
 src : Src w g A c l k
 gr : w0.grownBy w (some g)
 arr : ∀ p ∈ L, Bk w p.1 (p.2.map (Value.int .i64)).toArray 2 ∧ p.1 ≠ g
section
variable {w0 w w' : World} {g k : Nat} {A : Option Addr} {c : Nat} {l : List Int} {L : List (Nat × List Int)}
theorem Mid.start (h : Src w g A c l k) : Mid w g A c l k [] w := ⟨h, World.grownBy.refl _ _, fun p hp => by simp at hp⟩
theorem Mid.dr (h : Mid w0 g A c l k L w) : Mid w0 g A c l k L w.drew := ⟨h.src.drewN 1, grown_drewN h.gr 1, fun p hp => ⟨(h.arr p hp).1.drewN 1, (h.arr p hp).2⟩⟩
theorem Mid.al (h : Mid w0 g A c l k L w) (a b d : Int) : Mid w0 g A c l k ((w.heap.size, [a, b, d]) :: L) (w.alloc (.cells #[.int .i64 a, .int .i64 b, .int .i64 d] 2)) :=
 ⟨h.src.alloc _, h.gr.trans (World.grownBy_alloc _ _ _), fun p hp => by
  rcases List.mem_cons.1 hp with rfl | hp
  ·exact ⟨Bk.new _ _ _, by have := h.src.lt; simp only; omega⟩
  ·exact ⟨(h.arr p hp).1.alloc _, (h.arr p hp).2⟩⟩
theorem Mid.ale (h : Mid w0 g A c l k L w) (x y z : Int) : Mid w0 g A c l k L (w.alloc (.cells #[.int .i64 x, .int .i64 y, .int .i64 z] 81)) :=
 ⟨h.src.alloc _, h.gr.trans (World.grownBy_alloc _ _ _), fun p hp => ⟨(h.arr p hp).1.alloc _, (h.arr p hp).2⟩⟩
theorem Mid.al2 (h : Mid w0 g A c l k L w) (a b : Int) : Mid w0 g A c l k ((w.heap.size, [a, b]) :: L) (w.alloc (.cells #[.int .i64 a, .int .i64 b] 2)) :=
 ⟨h.src.alloc _, h.gr.trans (World.grownBy_alloc _ _ _), fun p hp => by
  rcases List.mem_cons.1 hp with rfl | hp
  ·exact ⟨Bk.new _ _ _, by have := h.src.lt; simp only; omega⟩
  ·exact ⟨(h.arr p hp).1.alloc _, (h.arr p hp).2⟩⟩
theorem Mid.any (h : Mid w0 g A c l k L w) (o : Obj) : Mid w0 g A c l k L (w.alloc o) :=
 ⟨h.src.alloc _, h.gr.trans (World.grownBy_alloc _ _ _), fun p hp => ⟨(h.arr p hp).1.alloc _, (h.arr p hp).2⟩⟩
theorem Src.same {j : Nat} (h : Src w g A c l k) (h' : Src w g A c l j) : k = j := by
 have a := h.blk.cell 1
 have b := h'.blk.cell 1
 rw [a] at b
 simp at b
 omega
theorem pick_mid (h : Nat) (zs : List Int) (E : ∃ k L, Mid w0 g A c l k L w ∧ k ≤ 4000 ∧ (h, zs) ∈ L) (hz : 0 < zs.length) (hz2 : zs.length ≤ 1000) :
  Calls Try.prog 50 #[.pointer (some ⟨g, 0, none⟩), .slice (some ⟨h, 0, none⟩) zs.length zs.length] w fun e w' => ∃ r : Int, e = .returned (.int .i64 r) ∧ ∀ k L, Mid w0 g A c l k L w → Mid w0 g A c l (k + 1) L w' := by
 obtain ⟨k, L, M, hk, hm⟩ := E
 refine (l1Pick_any g k h zs A c l 2 w M.src hk hz hz2 (M.arr _ hm).1 (M.arr _ hm).2).mono ?_
 rintro e w1 ⟨r, rfl, _, S1, g1⟩
 refine ⟨r, rfl, fun j L' M' => ?_⟩
 obtain rfl := M.src.same M'.src
 exact ⟨S1, M'.gr.trans g1, fun p hp => ⟨(M'.arr p hp).1.grown g1 (by have := (M'.arr p hp).2; simpa using this), (M'.arr p hp).2⟩⟩
end
theorem rdE_new (w : World) (x : Ev) (t : TypeId) : RdE (w.alloc (.cells #[.int .i64 x.k, .int .i64 x.a, .int .i64 x.v] t)) (w.heap.size + 1) (some ⟨w.heap.size, 0, none⟩) [x] := by
 intro _
 refine ⟨w.heap.size, 0, rfl, Nat.lt_succ_self _, fun i hi => ?_⟩
 have hi' : i < 3 := by simpa [evs] using hi
 rw [Nat.zero_add, (Bk.new w #[.int .i64 x.k, .int .i64 x.a, .int .i64 x.v] t).cell i]
 rcases (show i = 0 ∨ i = 1 ∨ i = 2 by omega) with rfl | rfl | rfl <;> rfl
end Go.Proofs.Ytnnfkmjhaljplaa
namespace Go.Proofs.Ytnnfkmjhaljplaa
open Go.RowKit
theorem opF_draw {o : Ev} (h : evF o = 0) (h2 : o.k = 0 → o.v = 0) : opF o = 0 := by
 unfold opF
 rw [if_pos h, if_neg (fun hh => hh.2 (h2 hh.1))]
theorem pgF_draw {t : List (List Ev)} (h : 1 ≤ t.length ∧ t.length ≤ 4) (ha : ∀ l ∈ t, l.length ≤ 8 ∧ ∀ o ∈ l, opF o = 0) : pgF t = 0 := by
 have k1 : ∀ l : List Ev, (∀ o ∈ l, opF o = 0) → opsF l = 0 := by
  intro l
  induction l with
  | nil => intro _; rfl
  | cons o r ih => intro hh; rw [opsF, if_pos (hh o (by simp))]; exact ih fun x hx => hh x (by simp [hx])
 have k2 : ∀ u : List (List Ev), (∀ l ∈ u, l.length ≤ 8 ∧ ∀ o ∈ l, opF o = 0) → prsF u = 0 := by
  intro u
  induction u with
  | nil => intro _; rfl
  | cons l r ih =>
   intro hh
   have e : prF l = 0 := by unfold prF; rw [if_pos (hh l (by simp)).1]; exact k1 l (hh l (by simp)).2
   rw [prsF, if_pos e]
   exact ih fun x hx => hh x (by simp [hx])
 unfold pgF
 rw [if_pos h]
 exact k2 t ha
set_option maxHeartbeats 800000 in
theorem l7Op_any (g k : Nat) (A : Option Addr) (c : Nat) (l : List Int) (w : World) (hS : Src w g A c l k) (hk : k ≤ 1500) :
  Calls Try.prog 114 #[.pointer (some ⟨g, 0, none⟩)] w fun e w' => ∃ x : Ev, e = .returned (evV x.k x.a x.v) ∧ opF x = 0 ∧ Went w g A c l k 3 w' := by
 obtain ⟨W, hW⟩ : ∃ W, W = w.alloc (Obj.cells #[Value.int .i64 0, .int .i64 0, .int .i64 0] 169) := ⟨_, rfl⟩
 have HW := hide hW
 have kr : Bk W w.heap.size #[.int .i64 0, .int .i64 0, .int .i64 0] 169 := by rw [hW]; exact Bk.new _ _ _
 have S0 : Src W g A c l k := by rw [hW]; exact hS.alloc _
 have G0 : w.grownBy W (some g) := by rw [hW]; exact World.grownBy_alloc _ _ _
 have hgl := hS.lt
 clear hW
 go_enter Try.func114, Try.ntmps114
 go_wp2_with fail
 rw [← HW.out]
 refine (l1Next_any g k 2 A c l W S0 (by omega) (by omega) (by omega)).mono ?_
 rintro e w1 ⟨r, rfl, h0, h1, S1, g1⟩
 replace kr := kr.grown g1 (by simp; omega)
 have G1 := G0.trans g1
 clear g1 S0 G0
 go_wp2_with fail
 refine (l1Pick_any g (k + 1) _ [0, 1, 2, 4, 5, 1, 999999] A c l _ _ (S1.alloc _) (by omega) (by simp) (by simp) (Bk.new _ _ _) (by have := S1.lt; omega)).mono ?_
 rintro e w2 ⟨a, rfl, ha, S2, g2⟩
 have ha' : 0 ≤ a ∧ a ≤ 999999 := by simp at ha; omega
 replace kr := (kr.alloc _).grown g2 (by simp; omega)
 have hkl := kr.lt
 have G2 := G1.trans (grown_alloc g2)
 clear g2 G1 S1 ha
 have ko := Bk.new w2 #[.int .i64 r, .int .i64 a, .int .i64 0] 169
 replace kr := kr.alloc (.cells #[.int .i64 r, .int .i64 a, .int .i64 0] 169)
 have S3 := S2.alloc (.cells #[.int .i64 r, .int .i64 a, .int .i64 0] 169)
 have G3 := G2.trans (World.grownBy_alloc w2 (.cells #[.int .i64 r, .int .i64 a, .int .i64 0] 169) (some g))
 have hz2 := G2.size
 have hg2 := S2.lt
 obtain ⟨V, hV⟩ : ∃ V, V = w2.alloc (.cells #[.int .i64 r, .int .i64 a, .int .i64 0] 169) := ⟨_, rfl⟩
 obtain ⟨p, hp⟩ : ∃ p, p = w2.heap.size := ⟨_, rfl⟩
 have hrp : w.heap.size < p := by omega
 have hgp : g ≠ p := by omega
 rw [← hV] at ko kr S3 G3
 rw [← hp] at ko
 have HV := hide hV
 have HP := hide hp
 clear hV hp S2 G2
 go_upto_region 2 with fail
 rw [← HV.out, ← HP.out]
 have c0 := (ko.cell 0).trans (rfl : _ = some (Value.int .i64 r))
 by_cases hr : r = 1
 ·subst hr
  go_wp2_with fail
  refine (l1Pick_any g (k + 2) _ [0, 1, 2, 3, 999999, 1] A c l _ _ (S3.alloc _) (by omega) (by simp) (by simp) (Bk.new _ _ _) (by have := S3.lt; omega)).mono ?_
  rintro e w3 ⟨v, rfl, hv, S4, g4⟩
  have hv' : 0 ≤ v ∧ v ≤ 999999 := by simp at hv; omega
  replace kr := (kr.alloc _).grown g4 (by simp; omega)
  replace ko := (ko.alloc _).grown g4 (by simpa using hgp.symm)
  have G4 := G3.trans (grown_alloc g4)
  clear g4 G3 S3 hv c0
  have q0 := (ko.cell 0).trans (rfl : _ = some (Value.int .i64 1))
  have q1 := (ko.cell 1).trans (rfl : _ = some (Value.int .i64 a))
  have q2 := (ko.cell 2).trans (rfl : _ = some (Value.int .i64 0))
  have f2 := ko.frozen 2
  have k0 := (kr.cell 0).trans (rfl : _ = some (Value.int .i64 0))
  have k1 := (kr.cell 1).trans (rfl : _ = some (Value.int .i64 0))
  have k2 := (kr.cell 2).trans (rfl : _ = some (Value.int .i64 0))
  have e0 := kr.frozen 0
  have e1 := kr.frozen 1
  have e2 := kr.frozen 2
  have HG4 := hide G4
  have hne : p ≠ w.heap.size := by omega
  have hne' : w.heap.size ≠ p := by omega
  clear G4
  go_wp2
  refine bodyPost_ret (v := evV 1 a v) (by simp [results, Try.results114, go_sem, k0, k1, k2]) rfl ?_
  refine ⟨⟨1, a, v⟩, rfl, opF_draw (evF_ok (.inr rfl) (by simp only; omega)) (fun e => by simp only at e; omega), k + 3, by omega, ?_, ?_⟩
  ·have hB : ∀ {V : World}, Below (g + 1) w3 V → ∀ {q i : Nat} {u : Value}, g < q → Below (g + 1) w3 (V.setCell ⟨q, i, none⟩ u) := fun h q i u hq => h.setCell (by simp only; omega) _
   exact S4.below (B := g + 1) (hB (hB (hB (hB (Below.refl _ _) (by omega)) hgl) hgl) hgl) (Nat.lt_succ_self _)
  ·exact grown_new (Nat.le_refl _) _ (grown_new (Nat.le_refl _) _ (grown_new (Nat.le_refl _) _ (grown_new (p := ⟨p, 2, none⟩) (Nat.le_of_lt hrp) _ HG4.out)))
 ·have hb : (r == 1) = false := beq_eq_false_iff_ne.2 hr
  have q0 := (ko.cell 0).trans (rfl : _ = some (Value.int .i64 r))
  have q1 := (ko.cell 1).trans (rfl : _ = some (Value.int .i64 a))
  have q2 := (ko.cell 2).trans (rfl : _ = some (Value.int .i64 0))
  have k0 := (kr.cell 0).trans (rfl : _ = some (Value.int .i64 0))
  have k1 := (kr.cell 1).trans (rfl : _ = some (Value.int .i64 0))
  have k2 := (kr.cell 2).trans (rfl : _ = some (Value.int .i64 0))
  have e0 := kr.frozen 0
  have e1 := kr.frozen 1
  have e2 := kr.frozen 2
  have HG3 := hide G3
  clear G3 c0
  go_wp2
  refine bodyPost_ret (v := evV r a 0) (by simp [results, Try.results114, go_sem, k0, k1, k2]) rfl ?_
  refine ⟨⟨r, a, 0⟩, rfl, opF_draw (evF_ok (by simp only; omega) (by simp only; omega)) (fun _ => rfl), k + 2, by omega, ?_, ?_⟩
  ·have hB : ∀ {U : World}, Below (g + 1) V U → ∀ {q i : Nat} {u : Value}, g < q → Below (g + 1) V (U.setCell ⟨q, i, none⟩ u) := fun h q i u hq => h.setCell (by simp only; omega) _
   exact S3.below (B := g + 1) (hB (hB (hB (Below.refl _ _) hgl) hgl) hgl) (Nat.lt_succ_self _)
  ·exact grown_new (Nat.le_refl _) _ (grown_new (Nat.le_refl _) _ (grown_new (Nat.le_refl _) _ HG3.out))
/-- A new row is apart from what was there. -/
theorem OwnTOp.fresh {w w' : World} {base b2 : Nat} {v : Value} {t : List (List Ev)} {us : List Value} (h : OwnTOp w base v t us) {u : Value} {n : Nat} {xs : List Value} (hu : w'.ownsRow b2 169 3 u n xs) (hb2 : w.heap.size ≤ b2) :
  ∀ b, u.ownBlock = some b → v.ownBlock ≠ some b ∧ ∀ (i : Nat) (u' : Value), us[i]? = some u' → u'.ownBlock ≠ some b := by
 intro b hb
 have h1 := (hu.lt b hb).1
 refine ⟨fun e => by have := h.row.lt b e; omega, fun i u' hi e => ?_⟩
 obtain ⟨_, hq, _⟩ := h.at_ hi
 have := hq.lt b e
 omega
set_option maxRecDepth 100000 in
set_option maxHeartbeats 1600000 in
theorem l7Programs_any (g k : Nat) (A : Option Addr) (c : Nat) (l : List Int) (w : World) (hS : Src w g A c l k) (hk : k ≤ 1000) :
  Calls Try.prog 80 #[.pointer (some ⟨g, 0, none⟩)] w fun e w' => ∃ t us D d, e = .returned (.slice D t.length d) ∧ 1 ≤ t.length ∧ t.length ≤ 4 ∧ (∀ x ∈ t, x.length ≤ 8 ∧ ∀ y ∈ x, opF y = 0) ∧ OwnTOp w' w.heap.size (.slice D t.length d) t us ∧ Went w g A c l k 100 w' := by
 obtain ⟨i0, hi, hz0, hz1, hz2⟩ := info_parts info_ops
 obtain ⟨j0, hj, hy0, hy1, hy2⟩ := info_parts info_op
 have hgl := hS.lt
 go_enter Try.func80, Try.ntmps80
 go_wp2_with fail
 refine (l1Next_any g k 4 A c l _ (hS.alloc _) (by omega) (by omega) (by omega)).mono ?_
 rintro e w1 ⟨r, rfl, h0, h1, S1, g1⟩
 have hr : r ≤ 3 := by omega
 obtain ⟨N, rfl⟩ := Int.eq_ofNat_of_zero_le h0
 have hN : N ≤ 3 := by omega
 have o1 := (World.ownsRow_lit w #[] 0 (e := 170) (size := 1) (base := w.heap.size) (Nat.le_refl _) (by simp) rfl).kept g1 (.inr (by simp [Value.ownBlock]; omega))
 have oT : OwnTOp w1 w.heap.size (.slice (some ⟨w.heap.size, 0, none⟩) 0 0) [] [] := ⟨o1, fun i hi => by simp at hi, fun i j u u' _ hu => by simp at hu⟩
 have G1 := grown_alloc g1
 clear g1 h1 hr o1
 go_wp2
 go_loopw [3, 4] (fun v q wr => ∃ (t : List (List Ev)) (us : List Value) (m k' : Nat), m + t.length = N + 1 ∧ q = .int .i64 m ∧ (∀ x ∈ t, x.length ≤ 8 ∧ ∀ y ∈ x, opF y = 0) ∧ OwnTOp wr w.heap.size v t us ∧ Src wr g A c l k' ∧ k' + 22 * m ≤ k + 1 + 22 * (N + 1) ∧ w.grownBy wr (some g)) (fun _ q _ => (intOf q).toNat)
 case atStart => exact ⟨[], [], N + 1, k + 1, rfl, by go_num, by simp, oT, S1, by omega, G1⟩
 case round =>
  clear oT S1 G1
  obtain ⟨t, us, m, k', hm, rfl, hall, ho, hSr, hkk, hgr⟩ := hrel
  have HM := hide hm
  have hx1 : t.length ≤ 4 := by omega
  have hm1 : m ≤ 4 := by omega
  clear hm
  have hsz := hgr.size
  by_cases hlt : 0 < m
  ·obtain ⟨wo, hwo⟩ : ∃ wo : World, wo = wr := ⟨_, rfl⟩
   subst hwo
   have hwg := hSr.lt
   have rowL : (wo.alloc (Obj.cells #[] 169)).ownsRow wo.heap.size 169 3 (.slice (some ⟨wo.heap.size, 0, none⟩) 0 0) 0 [] := World.ownsRow_lit wo #[] 0 (Nat.le_refl _) (by simp) rfl
   go_wp2_with fail
   refine (l1Next_any g k' 8 A c l _ (hSr.alloc _) (by omega) (by omega) (by omega)).mono ?_
   rintro e w1 ⟨r, rfl, h0, h1, S1, g1⟩
   have hr : r ≤ 7 := by omega
   obtain ⟨K, rfl⟩ := Int.eq_ofNat_of_zero_le h0
   have hK : K ≤ 7 := by omega
   have o1 := rowL.kept g1 (.inr (by simp [Value.ownBlock]; omega))
   have G1 := grown_alloc g1
   clear g1 h1 hr rowL
   go_wp2
   go_loopw [5, 6] (fun v q wr => ∃ (es : List Ev) (mm k2 : Nat), mm + es.length = K ∧ q = .int .i64 mm ∧ (∀ x ∈ es, opF x = 0) ∧ wr.ownsRow wo.heap.size 169 3 v es.length (evs es) ∧ Src wr g A c l k2 ∧ k2 + 3 * mm ≤ k' + 1 + 3 * K ∧ wo.grownBy wr (some g)) (fun _ q _ => (intOf q).toNat)
   case atStart => exact ⟨[], K, k' + 1, rfl, rfl, by simp, o1, S1, by omega, G1⟩
   case round =>
    clear o1 S1 G1
    obtain ⟨es, mm, k2, hmm, rfl, hev, hoe, hSe, hkk2, hgr2⟩ := hrel
    have HMM := hide hmm
    have hx2 : es.length ≤ 8 := by omega
    have hm2 : mm ≤ 8 := by omega
    clear hmm
    have hsz2 := hgr2.size
    by_cases hlt2 : 0 < mm
    ·go_wp2_with fail
     refine (l7Op_any g k2 A c l wr hSe (by omega)).mono ?_
     rintro e w2 ⟨x, rfl, hx, k3, hk3, hS1, hg1⟩
     have ho1 := hoe.kept hg1 (.inr (fun e => own_apart hoe g (.inl hwg) e.symm))
     have hgr1 := hgr2.trans hg1
     have hsz1 := hgr1.size
     clear hg1
     go_wp2_with (at_builtin; refine wpList_append_own_at _ rfl _ _ 170 rfl wo.heap.size 169 j0 (.agg #[.int .i64 0, .int .i64 0, .int .i64 0]) 3 24 Try.underlying170 hj hy0 hy1 hy2 rfl (by decide) _ _ _ rfl (ho1.alloc _) ⟨w2.heap.size, 0, none⟩ 1 1 [.int .i64 x.k, .int .i64 x.a, .int .i64 x.v] rfl rfl (cell_three_new _ _ _ _ _) (one_cells3 _ _ _ _) (by unfold maxLen; omega) (by omega) (by simp; omega) ?_; intro v' w3 hown' hgrow _ hat)
     have hbl : Below wo.heap.size w2 w3 := ((Below.refl _ _).alloc hsz1 _).trans (grown_below (ho1.alloc (.cells #[.int .i64 x.k, .int .i64 x.a, .int .i64 x.v] 169)) hgrow (by simp; omega) (Nat.le_refl _))
     have hgr3 : wo.grownBy w3 (some g) := hgr1.andThen (grown_alloc hgrow) (fun j hj => .inl (ho1.lt j hj).1)
     clear hgrow hat
     go_roundw
     case rel => exact ⟨es ++ [x], mm - 1, k3, by have := HMM.out; simp; omega, by go_num, by intro y hy; rcases List.mem_append.1 hy with h | h; exact hev y h; simp at h; rw [h]; exact hx, by rw [List.length_append, evs_append]; exact hown', hS1.below hbl hwg, by omega, hgr3⟩
     case measure => simp [intOf]; omega
    ·obtain ⟨D, d, rfl⟩ := own_shape hoe
     have hn : es.length = K := by have := HMM.out; omega
     have ho1 := ho.kept hgr2 (fun b e => by simp at e; omega)
     have hfr := ho.fresh hoe (Nat.le_refl _)
     have hown1 := own_mono hoe hsz
     have hgr1 := hgr.trans hgr2
     have hsz1 := hgr1.size
     have hes8 : es.length ≤ 8 := by omega
     have hk4 : k2 + 22 * (m - 1) ≤ k + 1 + 22 * (N + 1) := by omega
     have HN := hide hn
     clear hn hgr2 hoe hkk2 hkk hK
     go_wp2_with (at_builtin; refine wpList_append_own_at _ rfl _ _ 123 rfl w.heap.size 170 i0 (.slice none 0 0) 1 24 Try.underlying123 hi hz0 hz1 hz2 rfl (by decide) _ _ _ rfl (ho1.row.alloc _) ⟨wr.heap.size, 0, none⟩ 1 1 [.slice D es.length d] rfl rfl (cell_one_new _ _ _) (one_cellS _ _ _) (by unfold maxLen; omega) (by omega) (by simp; omega) ?_; intro v' w3 hown' hgrow _ hat)
     have hP := (ho1.alloc (.cells #[.slice D es.length d] 170)).push (es := es) (hown1.alloc _) hfr hown' hgrow hat
     have hbl : Below w.heap.size wr w3 := ((Below.refl _ _).alloc hsz1 _).trans (grown_below (ho1.row.alloc (.cells #[.slice D es.length d] 170)) hgrow (by simp; omega) (Nat.le_refl _))
     have hgr4 : w.grownBy w3 (some g) := hgr1.andThen (grown_alloc hgrow) (fun j hj => .inl (ho1.row.lt j hj).1)
     clear hgrow hat
     go_roundw
     case rel => exact ⟨t ++ [es], us ++ [.slice D es.length d], m - 1, k2, by have := HM.out; simp; omega, by go_num, by intro y hy; rcases List.mem_append.1 hy with h | h; exact hall y h; simp at h; rw [h]; exact ⟨hes8, hev⟩, hP, hSe.below hbl hgl, hk4, hgr4⟩
     case measure => simp [intOf]; omega
  ·obtain ⟨D, d, hv⟩ := own_shape ho.row
   have HV := hide hv
   clear hv
   go_wp2
   go_ret
   have hn : t.length = N + 1 := by have := HM.out; omega
   have ho2 := ho
   rw [HV.out] at ho2
   exact ⟨t, us, D, d, congrArg Ending.returned HV.out, by omega, by omega, hall, ho2, k', by omega, hSr, hgr⟩
end Go.Proofs.Ytnnfkmjhaljplaa
namespace Go.Proofs.Ytnnfkmjhaljplaa
open Go.RowKit Go.Shelf
/-- The marks that ranges over functions have left, each from block B on. -/
def mark (D : Nat) : Deferred := { target := .collected D, args := #[] }
structure Mks (B : Nat) (Ds : List Nat) (w : World) : Prop where
 one : Ds.Nodup
 lie : ∀ D ∈ Ds, B ≤ D ∧ w.heap[D]? = some (.deferred (some []))
theorem Mks.lt {B : Nat} {Ds : List Nat} {w : World} (h : Mks B Ds w) : ∀ D ∈ Ds, D < w.heap.size := fun D hD => (Array.getElem?_eq_some_iff.1 (h.lie D hD).2).1
theorem Mks.kept {B : Nat} {Ds : List Nat} {w w' : World} (h : Mks B Ds w) (hb : Below w.heap.size w w') : Mks B Ds w' := ⟨h.one, fun D hD => ⟨(h.lie D hD).1, (hb.block D (h.lt D hD)).trans (h.lie D hD).2⟩⟩
theorem Mks.others {B : Nat} {Ds : List Nat} {w w' : World} (h : Mks B Ds w) (hb : KeepsOthers w w') : Mks B Ds w' := ⟨h.one, fun D hD => ⟨(h.lie D hD).1, hb.same D _ (h.lie D hD).2 rfl⟩⟩
/-- A body that is left by a return alone. -/
def retOnly (Q : Exit → Act → World → Prop) : Exit → Act → World → Prop
 | .ret, a, w => Q .ret a w
 | .normal, a, w => Q .normal a w
 | _, _, _ => False
theorem retOnly_up {Q : Exit → Act → World → Prop} : ∀ e a w, retOnly Q e a w → Q e a w
 | .ret, _, _, h => h
 | .normal, _, _, h => h
 | .exit _, _, _, h => h.elim
 | .goto _, _, _, h => h.elim
 | .panic _, _, _, h => h.elim
 | .outgrown, _, _, h => h.elim
/-- At the function's return the marks are taken, one behind the other. -/
theorem leaves_marks {F : Fence} {n : Nat} {P : Program} {fn : Func} {tmps : Array Value} {R : Ending → World → Prop} {B : Nat} {Φ : World → Prop} (hΦ : OwnFrom B (fun (_ : Unit) w => Φ w))
  (hend : ∀ w, Φ w → LeavesIn F n P fn tmps R [] .returning w) : ∀ (Ds : List Nat) (w : World), Mks B Ds w → Φ w → LeavesInM F n P fn tmps R (Ds.map mark) .returning w
 | [], w, _, h => hend w h
 | D :: Ds, w, hm, h => by
  obtain ⟨hB, hD⟩ := hm.lie D (List.mem_cons_self ..)
  refine ⟨by simp, .inl ⟨D, _, rfl, run_takeDeferred hD, ?_⟩⟩
  refine leaves_marks hΦ hend Ds _ ⟨(List.nodup_cons.1 hm.one).2, fun E hE => ?_⟩ (hΦ.putObj (s := ()) _ h hB hD rfl)
  have hne : E ≠ D := fun e => (List.nodup_cons.1 hm.one).1 (e ▸ hE)
  exact ⟨(hm.lie E (List.mem_cons_of_mem _ hE)).1, (World.putObj_heap_other hne).trans (hm.lie E (List.mem_cons_of_mem _ hE)).2⟩
end Go.Proofs.Ytnnfkmjhaljplaa
namespace Go.Proofs.Ytnnfkmjhaljplaa
open Go
section
variable {P : Program} {ops : Array Oper} {Q : Exit → Act → World → Prop} {md : Region.Mode} {S T : World → Prop} {m : Nat}
/-- Whatever order is picked from here on; S holds behind every operation that is carried out before number m. -/
def wpAnyE (P : Program) (md : Region.Mode) (ops : Array Oper) (Q : Exit → Act → World → Prop) (S : World → Prop) (m : Nat) : Nat → Array Bool → Act → World → Prop
 | 0, listed, a, w => Region.ready md ops listed = [] ∧ Q .normal a w
 | fuel + 1, listed, a, w =>
  (Region.ready md ops listed = [] → Q .normal a w) ∧
  ∀ i ∈ Region.ready md ops listed, wpOp P ops Q i (fun a' w' => ((listed.setIfInBounds i true).getD m false = true ∨ S w') ∧ wpAnyE P md ops Q S m fuel (listed.setIfInBounds i true) a' w') a w
theorem wpAny_of_E : ∀ (fuel : Nat) (listed : Array Bool) (a : Act) (w : World), wpAnyE P md ops Q S m fuel listed a w → wpAny P md ops Q fuel listed a w
 | 0, _, _, _, h => h
 | fuel + 1, _, _, _, h => ⟨h.1, fun i hi => wpOp_mono (fun a' w' h' => wpAny_of_E fuel _ a' w' h'.2) (h.2 i hi)⟩
/-- What is taken first yields in every world that meets T: in whatever world; or T is S, and number m waits for it. -/
theorem wpAnyE_first {i : Nat} {oi : Oper} {v : Value} (hi : ops[i]? = some oi) (hsel : ∀ (j : Nat) (o : Oper) cs b, ops[j]? = some o → o.op ≠ .select cs b)
  (hQ : ∀ c a w, Q (.panic c) (a.put oi.dst v) w → Q (.panic c) a w) (him : i ≠ m) (hT : (∀ w, T w) ∨ ((∀ w, S w → T w) ∧ Region.waitsFor md ops m i = true)) :
  ∀ (fuel : Nat) (listed : Array Bool) (a : Act) (w : World), ((∀ w, T w) ∨ listed.getD m false = false) →
   (∀ j oj, ops[j]? = some oj → j ≠ i → listed.getD j true = false → (∀ e ∈ oj.after, Region.binds md e = true → e.on ≠ i) → oi.apart ops oj = true) →
   i ∈ Region.ready md ops listed → YieldsIf P ops T oi v a → T w → (listed.getD m false = true ∨ S w) →
   wpAnyE P md ops Q S m fuel (listed.setIfInBounds i true) (a.put oi.dst v) w → wpAnyE P md ops Q S m (fuel + 1) listed a w := by
 intro fuel
 induction fuel with
 | zero =>
  intro listed a w hm hfree hr hy hS hC H
  refine ⟨fun h => (by rw [h] at hr; cases hr), fun j hj => ?_⟩
  by_cases hji : j = i
  ·subst hji; exact hy.wpOp hi hS ⟨by rw [getD_set_ne false him]; exact hC, H⟩
  ·have := ready_mono hj hji
   rw [H.1] at this
   cases this
 | succ fuel ih =>
  intro listed a w hm hfree hr hy hS hC H
  refine ⟨fun h => (by rw [h] at hr; cases hr), fun j hj => ?_⟩
  by_cases hji : j = i
  ·subst hji; exact hy.wpOp hi hS ⟨by rw [getD_set_ne false him]; exact hC, H⟩
  ·have h1 := H.2 j (ready_mono hj hji)
   obtain ⟨hjun, oj, hoj, hall⟩ := mem_ready.1 hj
   have hnot : ∀ e ∈ oj.after, Region.binds md e = true → e.on ≠ i := fun e he hb heq => by
    have h1 := hall e he hb
    rw [heq, getD_both (mem_ready.1 hr).1] at h1
    cases h1
   have h2 := wpOp_putIf hoj (hfree j oj hoj hji hjun hnot) (fun cs b => hsel i oi cs b hi) (fun cs b => hsel j oj cs b hoj) hQ hy h1
   have hfree' : ∀ k ok, ops[k]? = some ok → k ≠ i → (listed.setIfInBounds j true).getD k true = false →
     (∀ e ∈ ok.after, Region.binds md e = true → e.on ≠ i) → oi.apart ops ok = true := fun k ok hk hki hun hno => by
    refine hfree k ok hk hki ?_ hno
    by_cases hjk : j = k
    ·subst hjk; exact hjun
    ·rw [getD_set_ne true hjk] at hun; exact hun
   have hjm : (∀ w, T w) ∨ (listed.setIfInBounds j true).getD m false = false := by
    rcases hT with hT | ⟨_, hw⟩
    ·exact .inl hT
    ·rcases hm with hm | hm
     ·exact .inl hm
     ·refine .inr ?_
      by_cases hjm : j = m
      ·subst hjm
       obtain ⟨o', ho', e, he, hb, hon⟩ := Region.waitsFor_spec hw
       have : o' = oj := Option.some.inj (ho'.symm.trans hoj)
       subst this
       exact absurd hon (hnot e he hb)
      ·rw [getD_set_ne false hjm]; exact hm
   have hback : ∀ w', (((listed.setIfInBounds i true).setIfInBounds j true).getD m false = true ∨ S w') → ((listed.setIfInBounds j true).getD m false = true ∨ S w') := fun w' h => by
    rw [Array.setIfInBounds_comm _ _ (Ne.symm hji), getD_set_ne false him] at h
    exact h
   have hTw : ∀ w', ((listed.setIfInBounds j true).getD m false = true ∨ S w') → T w' := fun w' h => by
    rcases hT with hT | ⟨hST, _⟩
    ·exact hT w'
    ·rcases hjm with hm | hm
     ·exact hm w'
     ·rcases h with h | h
      ·rw [hm] at h; cases h
      ·exact hST w' h
   refine wpOp_mono (fun a' w' h3 => ⟨hback w' h3.2.1, ih (listed.setIfInBounds j true) a' w' hjm hfree' (ready_mono hr (Ne.symm hji)) h3.1 (hTw w' (hback w' h3.2.1)) (hback w' h3.2.1) ?_⟩) h2
   rw [Array.setIfInBounds_comm _ _ hji]
   exact h3.2.2
/-- What yields in whatever world is taken first. -/
theorem wpAnyE_take {i : Nat} {oi : Oper} {v : Value} {fuel : Nat} {listed : Array Bool} {a : Act} {w : World} (hi : ops[i]? = some oi)
  (hs : Region.noSelect ops = true) (hf : Region.free md ops listed i = true) (hr : (Region.ready md ops listed).contains i = true) (him : i ≠ m)
  (hQ : ∀ c a w, Q (.panic c) (a.put oi.dst v) w → Q (.panic c) a w) (hS : listed.getD m false = true ∨ S w) (hy : YieldsIf P ops (fun _ => True) oi v a)
  (h : wpAnyE P md ops Q S m fuel (listed.setIfInBounds i true) (a.put oi.dst v) w) : wpAnyE P md ops Q S m (fuel + 1) listed a w :=
 wpAnyE_first (T := fun _ => True) hi (Region.noSelect_spec hs) hQ him (.inl fun _ => trivial) fuel listed a w (.inl fun _ => trivial) (Region.free_spec hi hf) (by simpa using hr) hy trivial hS h
/-- A load that number m waits for is taken first. -/
theorem wpAnyE_load {i : Nat} {oi : Oper} {v : Value} {fuel : Nat} {listed : Array Bool} {a : Act} {w : World} (hi : ops[i]? = some oi)
  (hs : Region.noSelect ops = true) (hf : Region.free md ops listed i = true) (hr : (Region.ready md ops listed).contains i = true) (him : i ≠ m)
  (hQ : ∀ c a w, Q (.panic c) (a.put oi.dst v) w → Q (.panic c) a w) (hS : S w) (hw : Region.waitsFor md ops m i = true) (hm : listed.getD m false = false) (hy : YieldsIf P ops S oi v a)
  (h : wpAnyE P md ops Q S m fuel (listed.setIfInBounds i true) (a.put oi.dst v) w) : wpAnyE P md ops Q S m (fuel + 1) listed a w :=
 wpAnyE_first (T := S) hi (Region.noSelect_spec hs) hQ him (.inr ⟨fun _ h => h, hw⟩) fuel listed a w (.inr hm) (Region.free_spec hi hf) (by simpa using hr) hy hS (.inr hS) h
/-- Each of the operations rs comes up next. -/
def AllReadyE (P : Program) (md : Region.Mode) (ops : Array Oper) (Q : Exit → Act → World → Prop) (S : World → Prop) (m : Nat) (fuel : Nat) (listed : Array Bool) (a : Act) (w : World) (rs : List Nat) : Prop :=
 ∀ i ∈ rs, wpOp P ops Q i (fun a' w' => ((listed.setIfInBounds i true).getD m false = true ∨ S w') ∧ wpAnyE P md ops Q S m fuel (listed.setIfInBounds i true) a' w') a w
theorem AllReadyE.nil {fuel : Nat} {listed : Array Bool} {a : Act} {w : World} : AllReadyE P md ops Q S m fuel listed a w [] := fun _ h => by cases h
/-- Before number m. -/
theorem AllReadyE.cons {fuel : Nat} {listed : Array Bool} {a : Act} {w : World} {i : Nat} {o : Oper} {rs : List Nat} (ho : ops[i]? = some o)
  (h : ∀ K' : Act → World → Prop, Shut (∀ a w, S w → (S w → wpAnyE P md ops Q S m fuel (listed.setIfInBounds i true) a w) → K' a w) → if Region.wanted o (yielded ops a.tmps) = true then Oper.wp P o a w K' Q else K' (a.put o.dst undef) w)
  (hs : AllReadyE P md ops Q S m fuel listed a w rs) : AllReadyE P md ops Q S m fuel listed a w (i :: rs) := fun j hj => by
 rcases List.mem_cons.1 hj with rfl | hj
 ·exact wpOp_step ho (fun K' hK => h K' (fun a w hS hW => hK a w ⟨.inr hS, hW hS⟩))
 ·exact hs j hj
/-- Number m, or one behind it. -/
theorem AllReadyE.last {fuel : Nat} {listed : Array Bool} {a : Act} {w : World} {i : Nat} {o : Oper} {rs : List Nat} (ho : ops[i]? = some o) (hl : (listed.setIfInBounds i true).getD m false = true)
  (h : ∀ K' : Act → World → Prop, Shut (∀ a w, wpAnyE P md ops Q S m fuel (listed.setIfInBounds i true) a w → K' a w) → if Region.wanted o (yielded ops a.tmps) = true then Oper.wp P o a w K' Q else K' (a.put o.dst undef) w)
  (hs : AllReadyE P md ops Q S m fuel listed a w rs) : AllReadyE P md ops Q S m fuel listed a w (i :: rs) := fun j hj => by
 rcases List.mem_cons.1 hj with rfl | hj
 ·exact wpOp_step ho (fun K' hK => h K' (fun a w hW => hK a w ⟨.inl hl, hW⟩))
 ·exact hs j hj
theorem wpAnyE_ready {rs : List Nat} {fuel : Nat} {listed : Array Bool} {a : Act} {w : World} (hr : Region.ready md ops listed = rs) (hne : rs ≠ [])
  (h : AllReadyE P md ops Q S m fuel listed a w rs) : wpAnyE P md ops Q S m (fuel + 1) listed a w := ⟨fun h0 => absurd (hr ▸ h0) hne, hr ▸ h⟩
theorem wpAnyE_done {listed : Array Bool} {a : Act} {w : World} (hr : Region.ready md ops listed = []) (h : Q .normal a w) : ∀ fuel, wpAnyE P md ops Q S m fuel listed a w
 | 0 => ⟨hr, h⟩
 | _ + 1 => ⟨fun _ => h, by rw [hr]; simp⟩
theorem wp_region_E {id : Nat} {a : Act} {w : World} (m : Nat) (S : World → Prop) (hm : P.follows .mixedOrders = true) (hS : S w.drew)
  (h : S w.drew → wpAnyE P .any ops Q S m ops.size (Array.replicate ops.size false) a w.drew) : (Code.region id ops true).wp P Q a w :=
 wp_region_any hm (wpAny_of_E (m := m) (S := S) _ _ _ _ (h hS))
end
end Go.Proofs.Ytnnfkmjhaljplaa
