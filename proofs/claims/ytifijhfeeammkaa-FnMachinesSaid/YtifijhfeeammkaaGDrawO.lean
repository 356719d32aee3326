/- In the midst of draws: the source and the arrays that lie. Contracts of the model's draws of ops and programs. -/
import Derived.Test.YtifijhfeeammkaaGDrawT
import Derived.Test.YtifijhfeeammkaaGOp
import Derived.Test.YtifijhfeeammkaaGMsi
namespace Go.Proofs.Ytifijhfeeammkaa
open Go.RowKit

/-- In the midst of the draws: the source is read as far as k; the arrays of L lie as they were laid. -/
structure Mid (w0 : World) (g : Nat) (A : Option Addr) (c : Nat) (l : List Int) (k : Nat) (L : List (Nat × List Int)) (w : World) : Prop where
  src : Src w g A c l k
  gr : w0.grownBy w (some g)
  arr : ∀ p ∈ L, Bk w p.1 (p.2.map (Value.int .i64)).toArray 2 ∧ p.1 ≠ g
section
variable {w0 w w' : World} {g k : Nat} {A : Option Addr} {c : Nat} {l : List Int} {L : List (Nat × List Int)}
theorem Mid.start (h : Src w g A c l k) : Mid w g A c l k [] w := ⟨h, World.grownBy.refl _ _, fun p hp => by simp at hp⟩
theorem Mid.dr (h : Mid w0 g A c l k L w) : Mid w0 g A c l k L w.drew := ⟨h.src.drewN 1, grown_drewN h.gr 1, fun p hp => ⟨(h.arr p hp).1.drewN 1, (h.arr p hp).2⟩⟩
theorem Mid.al (h : Mid w0 g A c l k L w) (a b d : Int) : Mid w0 g A c l k ((w.heap.size, [a, b, d]) :: L) (w.alloc (.cells #[.int .i64 a, .int .i64 b, .int .i64 d] 2)) :=
  ⟨h.src.alloc _, h.gr.trans (World.grownBy_alloc _ _ _), fun p hp => by
    rcases List.mem_cons.1 hp with rfl | hp
    · exact ⟨Bk.new _ _ _, by have := h.src.lt; simp only; omega⟩
    · exact ⟨(h.arr p hp).1.alloc _, (h.arr p hp).2⟩⟩
theorem Mid.ale (h : Mid w0 g A c l k L w) (x y z : Int) : Mid w0 g A c l k L (w.alloc (.cells #[.int .i64 x, .int .i64 y, .int .i64 z] 127)) :=
  ⟨h.src.alloc _, h.gr.trans (World.grownBy_alloc _ _ _), fun p hp => ⟨(h.arr p hp).1.alloc _, (h.arr p hp).2⟩⟩
theorem Mid.al2 (h : Mid w0 g A c l k L w) (a b : Int) : Mid w0 g A c l k ((w.heap.size, [a, b]) :: L) (w.alloc (.cells #[.int .i64 a, .int .i64 b] 2)) :=
  ⟨h.src.alloc _, h.gr.trans (World.grownBy_alloc _ _ _), fun p hp => by
    rcases List.mem_cons.1 hp with rfl | hp
    · exact ⟨Bk.new _ _ _, by have := h.src.lt; simp only; omega⟩
    · exact ⟨(h.arr p hp).1.alloc _, (h.arr p hp).2⟩⟩
theorem Mid.any (h : Mid w0 g A c l k L w) (o : Obj) : Mid w0 g A c l k L (w.alloc o) :=
  ⟨h.src.alloc _, h.gr.trans (World.grownBy_alloc _ _ _), fun p hp => ⟨(h.arr p hp).1.alloc _, (h.arr p hp).2⟩⟩
theorem Src.same {j : Nat} (h : Src w g A c l k) (h' : Src w g A c l j) : k = j := by
  have a := h.blk.cell 1
  have b := h'.blk.cell 1
  rw [a] at b
  simp at b
  omega
theorem pick_mid (h : Nat) (zs : List Int) (E : ∃ k L, Mid w0 g A c l k L w ∧ k ≤ 4000 ∧ (h, zs) ∈ L) (hz : 0 < zs.length) (hz2 : zs.length ≤ 1000) :
    Calls Try.prog 63 #[.pointer (some ⟨g, 0, none⟩), .slice (some ⟨h, 0, none⟩) zs.length zs.length] w fun e w' => ∃ r : Int, e = .returned (.int .i64 r) ∧ ∀ k L, Mid w0 g A c l k L w → Mid w0 g A c l (k + 1) L w' := by
  obtain ⟨k, L, M, hk, hm⟩ := E
  refine (l1Pick_any g k h zs A c l 2 w M.src hk hz hz2 (M.arr _ hm).1 (M.arr _ hm).2).mono ?_
  rintro e w1 ⟨r, rfl, _, S1, g1⟩
  refine ⟨r, rfl, fun j L' M' => ?_⟩
  obtain rfl := M.src.same M'.src
  exact ⟨S1, M'.gr.trans g1, fun p hp => ⟨(M'.arr p hp).1.grown g1 (by have := (M'.arr p hp).2; simpa using this), (M'.arr p hp).2⟩⟩
end
theorem rdE_new (w : World) (x : Ev) (t : TypeId) : RdE (w.alloc (.cells #[.int .i64 x.k, .int .i64 x.a, .int .i64 x.v] t)) (w.heap.size + 1) (some ⟨w.heap.size, 0, none⟩) [x] := by
  intro _
  refine ⟨w.heap.size, 0, rfl, Nat.lt_succ_self _, fun i hi => ?_⟩
  have hi' : i < 3 := by simpa [evs] using hi
  rw [Nat.zero_add, (Bk.new w #[.int .i64 x.k, .int .i64 x.a, .int .i64 x.v] t).cell i]
  rcases (show i = 0 ∨ i = 1 ∨ i = 2 by omega) with rfl | rfl | rfl <;> rfl
end Go.Proofs.Ytifijhfeeammkaa
namespace Go.Proofs.Ytifijhfeeammkaa
open Go.RowKit

theorem opF_draw {o : Ev} (h : evF o = 0) (h2 : o.k = 0 → o.v = 0) : opF o = 0 := by
  unfold opF
  rw [if_pos h, if_neg (fun hh => hh.2 (h2 hh.1))]
theorem pgF_draw {t : List (List Ev)} (h : 1 ≤ t.length ∧ t.length ≤ 4) (ha : ∀ l ∈ t, l.length ≤ 8 ∧ ∀ o ∈ l, opF o = 0) : pgF t = 0 := by
  have k1 : ∀ l : List Ev, (∀ o ∈ l, opF o = 0) → opsF l = 0 := by
    intro l
    induction l with
    | nil => intro _; rfl
    | cons o r ih => intro hh; rw [opsF, if_pos (hh o (by simp))]; exact ih fun x hx => hh x (by simp [hx])
  have k2 : ∀ u : List (List Ev), (∀ l ∈ u, l.length ≤ 8 ∧ ∀ o ∈ l, opF o = 0) → prsF u = 0 := by
    intro u
    induction u with
    | nil => intro _; rfl
    | cons l r ih =>
      intro hh
      have e : prF l = 0 := by unfold prF; rw [if_pos (hh l (by simp)).1]; exact k1 l (hh l (by simp)).2
      rw [prsF, if_pos e]
      exact ih fun x hx => hh x (by simp [hx])
  unfold pgF
  rw [if_pos h]
  exact k2 t ha

set_option maxHeartbeats 800000 in
theorem l7Op_any (g k : Nat) (A : Option Addr) (c : Nat) (l : List Int) (w : World) (hS : Src w g A c l k) (hk : k ≤ 1500) :
    Calls Try.prog 61 #[.pointer (some ⟨g, 0, none⟩)] w fun e w' => ∃ x : Ev, e = .returned (evV x.k x.a x.v) ∧ opF x = 0 ∧ Went w g A c l k 3 w' := by
  obtain ⟨W, hW⟩ : ∃ W, W = w.alloc (Obj.cells #[Value.int .i64 0, .int .i64 0, .int .i64 0] 29) := ⟨_, rfl⟩
  have HW := hide hW
  have kr : Bk W w.heap.size #[.int .i64 0, .int .i64 0, .int .i64 0] 29 := by rw [hW]; exact Bk.new _ _ _
  have S0 : Src W g A c l k := by rw [hW]; exact hS.alloc _
  have G0 : w.grownBy W (some g) := by rw [hW]; exact World.grownBy_alloc _ _ _
  have hgl := hS.lt
  clear hW
  go_enter Try.func61, Try.ntmps61
  go_wp2_with fail
  rw [← HW.out]
  refine (l1Next_any g k 2 A c l W S0 (by omega) (by omega) (by omega)).mono ?_
  rintro e w1 ⟨r, rfl, h0, h1, S1, g1⟩
  replace kr := kr.grown g1 (by simp; omega)
  have G1 := G0.trans g1
  clear g1 S0 G0
  go_wp2_with fail
  refine (l1Pick_any g (k + 1) _ [0, 1, 2, 4, 5, 1, 999999] A c l _ _ (S1.alloc _) (by omega) (by simp) (by simp) (Bk.new _ _ _) (by have := S1.lt; omega)).mono ?_
  rintro e w2 ⟨a, rfl, ha, S2, g2⟩
  have ha' : 0 ≤ a ∧ a ≤ 999999 := by simp at ha; omega
  replace kr := (kr.alloc _).grown g2 (by simp; omega)
  have hkl := kr.lt
  have G2 := G1.trans (grown_alloc g2)
  clear g2 G1 S1 ha
  have ko := Bk.new w2 #[.int .i64 r, .int .i64 a, .int .i64 0] 29
  replace kr := kr.alloc (.cells #[.int .i64 r, .int .i64 a, .int .i64 0] 29)
  have S3 := S2.alloc (.cells #[.int .i64 r, .int .i64 a, .int .i64 0] 29)
  have G3 := G2.trans (World.grownBy_alloc w2 (.cells #[.int .i64 r, .int .i64 a, .int .i64 0] 29) (some g))
  have hz2 := G2.size
  have hg2 := S2.lt
  obtain ⟨V, hV⟩ : ∃ V, V = w2.alloc (.cells #[.int .i64 r, .int .i64 a, .int .i64 0] 29) := ⟨_, rfl⟩
  obtain ⟨p, hp⟩ : ∃ p, p = w2.heap.size := ⟨_, rfl⟩
  have hrp : w.heap.size < p := by omega
  have hgp : g ≠ p := by omega
  rw [← hV] at ko kr S3 G3
  rw [← hp] at ko
  have HV := hide hV
  have HP := hide hp
  clear hV hp S2 G2
  go_upto_region 2 with fail
  rw [← HV.out, ← HP.out]
  have c0 := (ko.cell 0).trans (rfl : _ = some (Value.int .i64 r))
  by_cases hr : r = 1
  · subst hr
    go_wp2_with fail
    refine (l1Pick_any g (k + 2) _ [0, 1, 2, 3, 999999, 1] A c l _ _ (S3.alloc _) (by omega) (by simp) (by simp) (Bk.new _ _ _) (by have := S3.lt; omega)).mono ?_
    rintro e w3 ⟨v, rfl, hv, S4, g4⟩
    have hv' : 0 ≤ v ∧ v ≤ 999999 := by simp at hv; omega
    replace kr := (kr.alloc _).grown g4 (by simp; omega)
    replace ko := (ko.alloc _).grown g4 (by simpa using hgp.symm)
    have G4 := G3.trans (grown_alloc g4)
    clear g4 G3 S3 hv c0
    have q0 := (ko.cell 0).trans (rfl : _ = some (Value.int .i64 1))
    have q1 := (ko.cell 1).trans (rfl : _ = some (Value.int .i64 a))
    have q2 := (ko.cell 2).trans (rfl : _ = some (Value.int .i64 0))
    have f2 := ko.frozen 2
    have k0 := (kr.cell 0).trans (rfl : _ = some (Value.int .i64 0))
    have k1 := (kr.cell 1).trans (rfl : _ = some (Value.int .i64 0))
    have k2 := (kr.cell 2).trans (rfl : _ = some (Value.int .i64 0))
    have e0 := kr.frozen 0
    have e1 := kr.frozen 1
    have e2 := kr.frozen 2
    have HG4 := hide G4
    have hne : p ≠ w.heap.size := by omega
    have hne' : w.heap.size ≠ p := by omega
    clear G4
    go_wp2
    refine bodyPost_ret (v := evV 1 a v) (by simp [results, Try.results61, go_sem, k0, k1, k2]) rfl ?_
    refine ⟨⟨1, a, v⟩, rfl, opF_draw (evF_ok (.inr rfl) (by simp only; omega)) (fun e => by simp only at e; omega), k + 3, by omega, ?_, ?_⟩
    · have hB : ∀ {V : World}, Below (g + 1) w3 V → ∀ {q i : Nat} {u : Value}, g < q → Below (g + 1) w3 (V.setCell ⟨q, i, none⟩ u) := fun h q i u hq => h.setCell (by simp only; omega) _
      exact S4.below (B := g + 1) (hB (hB (hB (hB (Below.refl _ _) (by omega)) hgl) hgl) hgl) (Nat.lt_succ_self _)
    · exact grown_new (Nat.le_refl _) _ (grown_new (Nat.le_refl _) _ (grown_new (Nat.le_refl _) _ (grown_new (p := ⟨p, 2, none⟩) (Nat.le_of_lt hrp) _ HG4.out)))
  · have hb : (r == 1) = false := beq_eq_false_iff_ne.2 hr
    have q0 := (ko.cell 0).trans (rfl : _ = some (Value.int .i64 r))
    have q1 := (ko.cell 1).trans (rfl : _ = some (Value.int .i64 a))
    have q2 := (ko.cell 2).trans (rfl : _ = some (Value.int .i64 0))
    have k0 := (kr.cell 0).trans (rfl : _ = some (Value.int .i64 0))
    have k1 := (kr.cell 1).trans (rfl : _ = some (Value.int .i64 0))
    have k2 := (kr.cell 2).trans (rfl : _ = some (Value.int .i64 0))
    have e0 := kr.frozen 0
    have e1 := kr.frozen 1
    have e2 := kr.frozen 2
    have HG3 := hide G3
    clear G3 c0
    go_wp2
    refine bodyPost_ret (v := evV r a 0) (by simp [results, Try.results61, go_sem, k0, k1, k2]) rfl ?_
    refine ⟨⟨r, a, 0⟩, rfl, opF_draw (evF_ok (by simp only; omega) (by simp only; omega)) (fun _ => rfl), k + 2, by omega, ?_, ?_⟩
    · have hB : ∀ {U : World}, Below (g + 1) V U → ∀ {q i : Nat} {u : Value}, g < q → Below (g + 1) V (U.setCell ⟨q, i, none⟩ u) := fun h q i u hq => h.setCell (by simp only; omega) _
      exact S3.below (B := g + 1) (hB (hB (hB (Below.refl _ _) hgl) hgl) hgl) (Nat.lt_succ_self _)
    · exact grown_new (Nat.le_refl _) _ (grown_new (Nat.le_refl _) _ (grown_new (Nat.le_refl _) _ HG3.out))
/-- A new row is apart from what was there. -/
theorem OwnTOp.fresh {w w' : World} {base b2 : Nat} {v : Value} {t : List (List Ev)} {us : List Value} (h : OwnTOp w base v t us) {u : Value} {n : Nat} {xs : List Value} (hu : w'.ownsRow b2 29 3 u n xs) (hb2 : w.heap.size ≤ b2) :
    ∀ b, u.ownBlock = some b → v.ownBlock ≠ some b ∧ ∀ (i : Nat) (u' : Value), us[i]? = some u' → u'.ownBlock ≠ some b := by
  intro b hb
  have h1 := (hu.lt b hb).1
  refine ⟨fun e => by have := h.row.lt b e; omega, fun i u' hi e => ?_⟩
  obtain ⟨_, hq, _⟩ := h.at_ hi
  have := hq.lt b e
  omega

set_option maxRecDepth 100000 in
set_option maxHeartbeats 1600000 in
theorem l7Programs_any (g k : Nat) (A : Option Addr) (c : Nat) (l : List Int) (w : World) (hS : Src w g A c l k) (hk : k ≤ 1000) :
    Calls Try.prog 113 #[.pointer (some ⟨g, 0, none⟩)] w fun e w' => ∃ t us D d, e = .returned (.slice D t.length d) ∧ 1 ≤ t.length ∧ t.length ≤ 4 ∧ (∀ x ∈ t, x.length ≤ 8 ∧ ∀ y ∈ x, opF y = 0) ∧ OwnTOp w' w.heap.size (.slice D t.length d) t us ∧ Went w g A c l k 100 w' := by
  obtain ⟨i0, hi, hz0, hz1, hz2⟩ := info_parts info_ops
  obtain ⟨j0, hj, hy0, hy1, hy2⟩ := info_parts info_op
  have hgl := hS.lt
  go_enter Try.func113, Try.ntmps113
  go_wp2_with fail
  refine (l1Next_any g k 4 A c l _ (hS.alloc _) (by omega) (by omega) (by omega)).mono ?_
  rintro e w1 ⟨r, rfl, h0, h1, S1, g1⟩
  have hr : r ≤ 3 := by omega
  obtain ⟨N, rfl⟩ := Int.eq_ofNat_of_zero_le h0
  have hN : N ≤ 3 := by omega
  have o1 := (World.ownsRow_lit w #[] 0 (e := 147) (size := 1) (base := w.heap.size) (Nat.le_refl _) (by simp) rfl).kept g1 (.inr (by simp [Value.ownBlock]; omega))
  have oT : OwnTOp w1 w.heap.size (.slice (some ⟨w.heap.size, 0, none⟩) 0 0) [] [] := ⟨o1, fun i hi => by simp at hi, fun i j u u' _ hu => by simp at hu⟩
  have G1 := grown_alloc g1
  clear g1 h1 hr o1
  go_wp2
  go_loopw [3, 4] (fun v q wr => ∃ (t : List (List Ev)) (us : List Value) (m k' : Nat), m + t.length = N + 1 ∧ q = .int .i64 m ∧ (∀ x ∈ t, x.length ≤ 8 ∧ ∀ y ∈ x, opF y = 0) ∧ OwnTOp wr w.heap.size v t us ∧ Src wr g A c l k' ∧ k' + 22 * m ≤ k + 1 + 22 * (N + 1) ∧ w.grownBy wr (some g)) (fun _ q _ => (intOf q).toNat)
  case atStart => exact ⟨[], [], N + 1, k + 1, rfl, by go_num, by simp, oT, S1, by omega, G1⟩
  case round =>
    clear oT S1 G1
    obtain ⟨t, us, m, k', hm, rfl, hall, ho, hSr, hkk, hgr⟩ := hrel
    have HM := hide hm
    have hx1 : t.length ≤ 4 := by omega
    have hm1 : m ≤ 4 := by omega
    clear hm
    have hsz := hgr.size
    by_cases hlt : 0 < m
    · obtain ⟨wo, hwo⟩ : ∃ wo : World, wo = wr := ⟨_, rfl⟩
      subst hwo
      have hwg := hSr.lt
      have rowL : (wo.alloc (Obj.cells #[] 29)).ownsRow wo.heap.size 29 3 (.slice (some ⟨wo.heap.size, 0, none⟩) 0 0) 0 [] := World.ownsRow_lit wo #[] 0 (Nat.le_refl _) (by simp) rfl
      go_wp2_with fail
      refine (l1Next_any g k' 8 A c l _ (hSr.alloc _) (by omega) (by omega) (by omega)).mono ?_
      rintro e w1 ⟨r, rfl, h0, h1, S1, g1⟩
      have hr : r ≤ 7 := by omega
      obtain ⟨K, rfl⟩ := Int.eq_ofNat_of_zero_le h0
      have hK : K ≤ 7 := by omega
      have o1 := rowL.kept g1 (.inr (by simp [Value.ownBlock]; omega))
      have G1 := grown_alloc g1
      clear g1 h1 hr rowL
      go_wp2
      go_loopw [5, 6] (fun v q wr => ∃ (es : List Ev) (mm k2 : Nat), mm + es.length = K ∧ q = .int .i64 mm ∧ (∀ x ∈ es, opF x = 0) ∧ wr.ownsRow wo.heap.size 29 3 v es.length (evs es) ∧ Src wr g A c l k2 ∧ k2 + 3 * mm ≤ k' + 1 + 3 * K ∧ wo.grownBy wr (some g)) (fun _ q _ => (intOf q).toNat)
      case atStart => exact ⟨[], K, k' + 1, rfl, rfl, by simp, o1, S1, by omega, G1⟩
      case round =>
        clear o1 S1 G1
        obtain ⟨es, mm, k2, hmm, rfl, hev, hoe, hSe, hkk2, hgr2⟩ := hrel
        have HMM := hide hmm
        have hx2 : es.length ≤ 8 := by omega
        have hm2 : mm ≤ 8 := by omega
        clear hmm
        have hsz2 := hgr2.size
        by_cases hlt2 : 0 < mm
        · go_wp2_with fail
          refine (l7Op_any g k2 A c l wr hSe (by omega)).mono ?_
          rintro e w2 ⟨x, rfl, hx, k3, hk3, hS1, hg1⟩
          have ho1 := hoe.kept hg1 (.inr (fun e => own_apart hoe g (.inl hwg) e.symm))
          have hgr1 := hgr2.trans hg1
          have hsz1 := hgr1.size
          clear hg1
          go_wp2_with (at_builtin; refine wpList_append_own_at _ rfl _ _ 147 rfl wo.heap.size 29 j0 (.agg #[.int .i64 0, .int .i64 0, .int .i64 0]) 3 24 Try.underlying147 hj hy0 hy1 hy2 rfl (by decide) _ _ _ rfl (ho1.alloc _) ⟨w2.heap.size, 0, none⟩ 1 1 [.int .i64 x.k, .int .i64 x.a, .int .i64 x.v] rfl rfl (cell_three_new _ _ _ _ _) (one_cells3 _ _ _ _) (by unfold maxLen; omega) (by omega) (by simp; omega) ?_; intro v' w3 hown' hgrow _ hat)
          have hbl : Below wo.heap.size w2 w3 := ((Below.refl _ _).alloc hsz1 _).trans (grown_below (ho1.alloc (.cells #[.int .i64 x.k, .int .i64 x.a, .int .i64 x.v] 29)) hgrow (by simp; omega) (Nat.le_refl _))
          have hgr3 : wo.grownBy w3 (some g) := hgr1.andThen (grown_alloc hgrow) (fun j hj => .inl (ho1.lt j hj).1)
          clear hgrow hat
          go_roundw
          case rel => exact ⟨es ++ [x], mm - 1, k3, by have := HMM.out; simp; omega, by go_num, by intro y hy; rcases List.mem_append.1 hy with h | h; exact hev y h; simp at h; rw [h]; exact hx, by rw [List.length_append, evs_append]; exact hown', hS1.below hbl hwg, by omega, hgr3⟩
          case measure => simp [intOf]; omega
        · obtain ⟨D, d, rfl⟩ := own_shape hoe
          have hn : es.length = K := by have := HMM.out; omega
          have ho1 := ho.kept hgr2 (fun b e => by simp at e; omega)
          have hfr := ho.fresh hoe (Nat.le_refl _)
          have hown1 := own_mono hoe hsz
          have hgr1 := hgr.trans hgr2
          have hsz1 := hgr1.size
          have hes8 : es.length ≤ 8 := by omega
          have hk4 : k2 + 22 * (m - 1) ≤ k + 1 + 22 * (N + 1) := by omega
          have HN := hide hn
          clear hn hgr2 hoe hkk2 hkk hK
          go_wp2_with (at_builtin; refine wpList_append_own_at _ rfl _ _ 49 rfl w.heap.size 147 i0 (.slice none 0 0) 1 24 Try.underlying49 hi hz0 hz1 hz2 rfl (by decide) _ _ _ rfl (ho1.row.alloc _) ⟨wr.heap.size, 0, none⟩ 1 1 [.slice D es.length d] rfl rfl (cell_one_new _ _ _) (one_cellS _ _ _) (by unfold maxLen; omega) (by omega) (by simp; omega) ?_; intro v' w3 hown' hgrow _ hat)
          have hP := (ho1.alloc (.cells #[.slice D es.length d] 147)).push (es := es) (hown1.alloc _) hfr hown' hgrow hat
          have hbl : Below w.heap.size wr w3 := ((Below.refl _ _).alloc hsz1 _).trans (grown_below (ho1.row.alloc (.cells #[.slice D es.length d] 147)) hgrow (by simp; omega) (Nat.le_refl _))
          have hgr4 : w.grownBy w3 (some g) := hgr1.andThen (grown_alloc hgrow) (fun j hj => .inl (ho1.row.lt j hj).1)
          clear hgrow hat
          go_roundw
          case rel => exact ⟨t ++ [es], us ++ [.slice D es.length d], m - 1, k2, by have := HM.out; simp; omega, by go_num, by intro y hy; rcases List.mem_append.1 hy with h | h; exact hall y h; simp at h; rw [h]; exact ⟨hes8, hev⟩, hP, hSe.below hbl hgl, hk4, hgr4⟩
          case measure => simp [intOf]; omega
    · obtain ⟨D, d, hv⟩ := own_shape ho.row
      have HV := hide hv
      clear hv
      go_wp2
      go_ret
      have hn : t.length = N + 1 := by have := HM.out; omega
      have ho2 := ho
      rw [HV.out] at ho2
      exact ⟨t, us, D, d, congrArg Ending.returned HV.out, by omega, by omega, hall, ho2, k', by omega, hSr, hgr⟩
end Go.Proofs.Ytifijhfeeammkaa
