/- What the laws' walks rest upon, part 9. -/
import Derived.Test.YtnnfkmjhaljplaaGreatM02
import Derived.Test.YtnnfkmjhaljplaaGreatM06
import Derived.Test.YtnnfkmjhaljplaaGreatM07
import Derived.Test.YtnnfkmjhaljplaaGreatM05
import Derived.Test.YtnnfkmjhaljplaaGreatM08
import Derived.Deep.RegionHeld3
import Derived.Deep.DeepCutAuto
namespace Go.Proofs.YtnnfkmjhaljplaaGreat
open Go.RowKit
/-- In the midst of the draws: the source is read as far as k; the arrays of L lie as they were laid. -/
structure Mid (w0 : World) (g : Nat) (A : Option Addr) (c : Nat) (l : List Int) (k : Nat) (L : List (Nat × List Int)) (w : World) : Prop where
  src : Src w g A c l k
  gr : w0.grownBy w (some g)
  arr : ∀ p ∈ L, Bk w p.1 (p.2.map (Value.int .i64)).toArray 2 ∧ p.1 ≠ g
section
variable {w0 w w' : World} {g k : Nat} {A : Option Addr} {c : Nat} {l : List Int} {L : List (Nat × List Int)}
theorem Mid.start (h : Src w g A c l k) : Mid w g A c l k [] w := ⟨h, World.grownBy.refl _ _, fun p hp => by simp at hp⟩
theorem Mid.dr (h : Mid w0 g A c l k L w) : Mid w0 g A c l k L w.drew := ⟨h.src.drewN 1, grown_drewN h.gr 1, fun p hp => ⟨(h.arr p hp).1.drewN 1, (h.arr p hp).2⟩⟩
theorem Mid.al (h : Mid w0 g A c l k L w) (a b d : Int) : Mid w0 g A c l k ((w.heap.size, [a, b, d]) :: L) (w.alloc (.cells #[.int .i64 a, .int .i64 b, .int .i64 d] 2)) :=
  ⟨h.src.alloc _, h.gr.trans (World.grownBy_alloc _ _ _), fun p hp => by
    rcases List.mem_cons.1 hp with rfl | hp
    · exact ⟨Bk.new _ _ _, by have := h.src.lt; simp only; omega⟩
    · exact ⟨(h.arr p hp).1.alloc _, (h.arr p hp).2⟩⟩
theorem Mid.al2 (h : Mid w0 g A c l k L w) (a b : Int) : Mid w0 g A c l k ((w.heap.size, [a, b]) :: L) (w.alloc (.cells #[.int .i64 a, .int .i64 b] 2)) :=
  ⟨h.src.alloc _, h.gr.trans (World.grownBy_alloc _ _ _), fun p hp => by
    rcases List.mem_cons.1 hp with rfl | hp
    · exact ⟨Bk.new _ _ _, by have := h.src.lt; simp only; omega⟩
    · exact ⟨(h.arr p hp).1.alloc _, (h.arr p hp).2⟩⟩
theorem Mid.any (h : Mid w0 g A c l k L w) (o : Obj) : Mid w0 g A c l k L (w.alloc o) :=
  ⟨h.src.alloc _, h.gr.trans (World.grownBy_alloc _ _ _), fun p hp => ⟨(h.arr p hp).1.alloc _, (h.arr p hp).2⟩⟩
theorem Src.same {j : Nat} (h : Src w g A c l k) (h' : Src w g A c l j) : k = j := by
  have a := h.blk.cell 1
  have b := h'.blk.cell 1
  rw [a] at b
  simp at b
  omega
theorem pick_mid (h : Nat) (zs : List Int) (E : ∃ k L, Mid w0 g A c l k L w ∧ k ≤ 4000 ∧ (h, zs) ∈ L) (hz : 0 < zs.length) (hz2 : zs.length ≤ 1000) :
    Calls Tryz.prog 21 #[.pointer (some ⟨g, 0, none⟩), .slice (some ⟨h, 0, none⟩) zs.length zs.length] w fun e w' => ∃ r : Int, e = .returned (.int .i64 r) ∧ ∀ k L, Mid w0 g A c l k L w → Mid w0 g A c l (k + 1) L w' := by
  obtain ⟨k, L, M, hk, hm⟩ := E
  refine (l1Pick_any g k h zs A c l 2 w M.src hk hz hz2 (M.arr _ hm).1 (M.arr _ hm).2).mono ?_
  rintro e w1 ⟨r, rfl, _, S1, g1⟩
  refine ⟨r, rfl, fun j L' M' => ?_⟩
  obtain rfl := M.src.same M'.src
  exact ⟨S1, M'.gr.trans g1, fun p hp => ⟨(M'.arr p hp).1.grown g1 (by have := (M'.arr p hp).2; simpa using this), (M'.arr p hp).2⟩⟩
end
theorem rdE_new (w : World) (x : Ev) (t : TypeId) : RdE (w.alloc (.cells #[.int .i64 x.k, .int .i64 x.a, .int .i64 x.v] t)) (w.heap.size + 1) (some ⟨w.heap.size, 0, none⟩) [x] := by
  intro _
  refine ⟨w.heap.size, 0, rfl, Nat.lt_succ_self _, fun i hi => ?_⟩
  have hi' : i < 3 := by simpa [evs] using hi
  rw [Nat.zero_add, (Bk.new w #[.int .i64 x.k, .int .i64 x.a, .int .i64 x.v] t).cell i]
  rcases (show i = 0 ∨ i = 1 ∨ i = 2 by omega) with rfl | rfl | rfl <;> rfl
end Go.Proofs.YtnnfkmjhaljplaaGreat
namespace Go.Proofs.YtnnfkmjhaljplaaGreat
open Go.RowKit
theorem opF_draw {o : Ev} (h : evF o = 0) (h2 : o.k = 0 → o.v = 0) : opF o = 0 := by
  unfold opF
  rw [if_pos h, if_neg (fun hh => hh.2 (h2 hh.1))]
theorem pgF_draw {t : List (List Ev)} (h : 1 ≤ t.length ∧ t.length ≤ 4) (ha : ∀ l ∈ t, l.length ≤ 8 ∧ ∀ o ∈ l, opF o = 0) : pgF t = 0 := by
  have k1 : ∀ l : List Ev, (∀ o ∈ l, opF o = 0) → opsF l = 0 := by
    intro l
    induction l with
    | nil => intro _; rfl
    | cons o r ih => intro hh; rw [opsF, if_pos (hh o (by simp))]; exact ih fun x hx => hh x (by simp [hx])
  have k2 : ∀ u : List (List Ev), (∀ l ∈ u, l.length ≤ 8 ∧ ∀ o ∈ l, opF o = 0) → prsF u = 0 := by
    intro u
    induction u with
    | nil => intro _; rfl
    | cons l r ih =>
      intro hh
      have e : prF l = 0 := by unfold prF; rw [if_pos (hh l (by simp)).1]; exact k1 l (hh l (by simp)).2
      rw [prsF, if_pos e]
      exact ih fun x hx => hh x (by simp [hx])
  unfold pgF
  rw [if_pos h]
  exact k2 t ha
set_option maxHeartbeats 800000 in
theorem l7Op_any (g k : Nat) (A : Option Addr) (c : Nat) (l : List Int) (w : World) (hS : Src w g A c l k) (hk : k ≤ 1500) :
    Calls Tryz.prog 45 #[.pointer (some ⟨g, 0, none⟩)] w fun e w' => ∃ x : Ev, e = .returned (evV x.k x.a x.v) ∧ opF x = 0 ∧ Went w g A c l k 3 w' := by
  obtain ⟨W, hW⟩ : ∃ W, W = w.alloc (Obj.cells #[Value.int .i64 0, .int .i64 0, .int .i64 0] 84) := ⟨_, rfl⟩
  have HW := hide hW
  have kr : Bk W w.heap.size #[.int .i64 0, .int .i64 0, .int .i64 0] 84 := by rw [hW]; exact Bk.new _ _ _
  have S0 : Src W g A c l k := by rw [hW]; exact hS.alloc _
  have G0 : w.grownBy W (some g) := by rw [hW]; exact World.grownBy_alloc _ _ _
  have hgl := hS.lt
  clear hW
  go_enter Tryz.func45, Tryz.ntmps45
  go_wp2_with fail
  rw [← HW.out]
  refine (l1Next_any g k 2 A c l W S0 (by omega) (by omega) (by omega)).mono ?_
  rintro e w1 ⟨r, rfl, h0, h1, S1, g1⟩
  replace kr := kr.grown g1 (by simp; omega)
  have G1 := G0.trans g1
  clear g1 S0 G0
  go_wp2_with fail
  refine (l1Pick_any g (k + 1) _ [0, 1, 2, 4, 5, 1, 999999] A c l _ _ (S1.alloc _) (by omega) (by simp) (by simp) (Bk.new _ _ _) (by have := S1.lt; omega)).mono ?_
  rintro e w2 ⟨a, rfl, ha, S2, g2⟩
  have ha' : 0 ≤ a ∧ a ≤ 999999 := by simp at ha; omega
  replace kr := (kr.alloc _).grown g2 (by simp; omega)
  have hkl := kr.lt
  have G2 := G1.trans (grown_alloc g2)
  clear g2 G1 S1 ha
  have ko := Bk.new w2 #[.int .i64 r, .int .i64 a, .int .i64 0] 84
  replace kr := kr.alloc (.cells #[.int .i64 r, .int .i64 a, .int .i64 0] 84)
  have S3 := S2.alloc (.cells #[.int .i64 r, .int .i64 a, .int .i64 0] 84)
  have G3 := G2.trans (World.grownBy_alloc w2 (.cells #[.int .i64 r, .int .i64 a, .int .i64 0] 84) (some g))
  have hz2 := G2.size
  have hg2 := S2.lt
  obtain ⟨V, hV⟩ : ∃ V, V = w2.alloc (.cells #[.int .i64 r, .int .i64 a, .int .i64 0] 84) := ⟨_, rfl⟩
  obtain ⟨p, hp⟩ : ∃ p, p = w2.heap.size := ⟨_, rfl⟩
  have hrp : w.heap.size < p := by omega
  have hgp : g ≠ p := by omega
  rw [← hV] at ko kr S3 G3
  rw [← hp] at ko
  have HV := hide hV
  have HP := hide hp
  clear hV hp S2 G2
  go_upto_region 2 with fail
  rw [← HV.out, ← HP.out]
  have c0 := (ko.cell 0).trans (rfl : _ = some (Value.int .i64 r))
  by_cases hr : r = 1
  · subst hr
    go_wp2_with fail
    refine (l1Pick_any g (k + 2) _ [0, 1, 2, 3, 999999, 1] A c l _ _ (S3.alloc _) (by omega) (by simp) (by simp) (Bk.new _ _ _) (by have := S3.lt; omega)).mono ?_
    rintro e w3 ⟨v, rfl, hv, S4, g4⟩
    have hv' : 0 ≤ v ∧ v ≤ 999999 := by simp at hv; omega
    replace kr := (kr.alloc _).grown g4 (by simp; omega)
    replace ko := (ko.alloc _).grown g4 (by simpa using hgp.symm)
    have G4 := G3.trans (grown_alloc g4)
    clear g4 G3 S3 hv c0
    have q0 := (ko.cell 0).trans (rfl : _ = some (Value.int .i64 1))
    have q1 := (ko.cell 1).trans (rfl : _ = some (Value.int .i64 a))
    have q2 := (ko.cell 2).trans (rfl : _ = some (Value.int .i64 0))
    have f2 := ko.frozen 2
    have k0 := (kr.cell 0).trans (rfl : _ = some (Value.int .i64 0))
    have k1 := (kr.cell 1).trans (rfl : _ = some (Value.int .i64 0))
    have k2 := (kr.cell 2).trans (rfl : _ = some (Value.int .i64 0))
    have e0 := kr.frozen 0
    have e1 := kr.frozen 1
    have e2 := kr.frozen 2
    have HG4 := hide G4
    have hne : p ≠ w.heap.size := by omega
    have hne' : w.heap.size ≠ p := by omega
    clear G4
    go_wp2
    refine bodyPost_ret (v := evV 1 a v) (by simp [results, Tryz.results45, go_sem, k0, k1, k2]) rfl ?_
    refine ⟨⟨1, a, v⟩, rfl, opF_draw (evF_ok (.inr rfl) (by simp only; omega)) (fun e => by simp only at e; omega), k + 3, by omega, ?_, ?_⟩
    · have hB : ∀ {V : World}, Below (g + 1) w3 V → ∀ {q i : Nat} {u : Value}, g < q → Below (g + 1) w3 (V.setCell ⟨q, i, none⟩ u) := fun h q i u hq => h.setCell (by simp only; omega) _
      exact S4.below (B := g + 1) (hB (hB (hB (hB (Below.refl _ _) (by omega)) hgl) hgl) hgl) (Nat.lt_succ_self _)
    · exact grown_new (Nat.le_refl _) _ (grown_new (Nat.le_refl _) _ (grown_new (Nat.le_refl _) _ (grown_new (p := ⟨p, 2, none⟩) (Nat.le_of_lt hrp) _ HG4.out)))
  · have hb : (r == 1) = false := beq_eq_false_iff_ne.2 hr
    have q0 := (ko.cell 0).trans (rfl : _ = some (Value.int .i64 r))
    have q1 := (ko.cell 1).trans (rfl : _ = some (Value.int .i64 a))
    have q2 := (ko.cell 2).trans (rfl : _ = some (Value.int .i64 0))
    have k0 := (kr.cell 0).trans (rfl : _ = some (Value.int .i64 0))
    have k1 := (kr.cell 1).trans (rfl : _ = some (Value.int .i64 0))
    have k2 := (kr.cell 2).trans (rfl : _ = some (Value.int .i64 0))
    have e0 := kr.frozen 0
    have e1 := kr.frozen 1
    have e2 := kr.frozen 2
    have HG3 := hide G3
    clear G3 c0
    go_wp2
    refine bodyPost_ret (v := evV r a 0) (by simp [results, Tryz.results45, go_sem, k0, k1, k2]) rfl ?_
    refine ⟨⟨r, a, 0⟩, rfl, opF_draw (evF_ok (by simp only; omega) (by simp only; omega)) (fun _ => rfl), k + 2, by omega, ?_, ?_⟩
    · have hB : ∀ {U : World}, Below (g + 1) V U → ∀ {q i : Nat} {u : Value}, g < q → Below (g + 1) V (U.setCell ⟨q, i, none⟩ u) := fun h q i u hq => h.setCell (by simp only; omega) _
      exact S3.below (B := g + 1) (hB (hB (hB (Below.refl _ _) hgl) hgl) hgl) (Nat.lt_succ_self _)
    · exact grown_new (Nat.le_refl _) _ (grown_new (Nat.le_refl _) _ (grown_new (Nat.le_refl _) _ HG3.out))
/-- A new row is apart from what was there. -/
theorem OwnTOp.fresh {w w' : World} {base b2 : Nat} {v : Value} {t : List (List Ev)} {us : List Value} (h : OwnTOp w base v t us) {u : Value} {n : Nat} {xs : List Value} (hu : w'.ownsRow b2 84 3 u n xs) (hb2 : w.heap.size ≤ b2) :
    ∀ b, u.ownBlock = some b → v.ownBlock ≠ some b ∧ ∀ (i : Nat) (u' : Value), us[i]? = some u' → u'.ownBlock ≠ some b := by
  intro b hb
  have h1 := (hu.lt b hb).1
  refine ⟨fun e => by have := h.row.lt b e; omega, fun i u' hi e => ?_⟩
  obtain ⟨_, hq, _⟩ := h.at_ hi
  have := hq.lt b e
  omega
set_option maxRecDepth 100000 in
set_option maxHeartbeats 1600000 in
theorem l7Programs_any (g k : Nat) (A : Option Addr) (c : Nat) (l : List Int) (w : World) (hS : Src w g A c l k) (hk : k ≤ 1000) :
    Calls Tryz.prog 19 #[.pointer (some ⟨g, 0, none⟩)] w fun e w' => ∃ t us D d, e = .returned (.slice D t.length d) ∧ 1 ≤ t.length ∧ t.length ≤ 4 ∧ (∀ x ∈ t, x.length ≤ 8 ∧ ∀ y ∈ x, opF y = 0) ∧ OwnTOp w' w.heap.size (.slice D t.length d) t us ∧ Went w g A c l k 100 w' := by
  obtain ⟨i0, hi, hz0, hz1, hz2⟩ := info_parts info_ops
  obtain ⟨j0, hj, hy0, hy1, hy2⟩ := info_parts info_op
  have hgl := hS.lt
  go_enter Tryz.func19, Tryz.ntmps19
  go_wp2_with fail
  refine (l1Next_any g k 4 A c l _ (hS.alloc _) (by omega) (by omega) (by omega)).mono ?_
  rintro e w1 ⟨r, rfl, h0, h1, S1, g1⟩
  have hr : r ≤ 3 := by omega
  obtain ⟨N, rfl⟩ := Int.eq_ofNat_of_zero_le h0
  have hN : N ≤ 3 := by omega
  have o1 := (World.ownsRow_lit w #[] 0 (e := 104) (size := 1) (base := w.heap.size) (Nat.le_refl _) (by simp) rfl).kept g1 (.inr (by simp [Value.ownBlock]; omega))
  have oT : OwnTOp w1 w.heap.size (.slice (some ⟨w.heap.size, 0, none⟩) 0 0) [] [] := ⟨o1, fun i hi => by simp at hi, fun i j u u' _ hu => by simp at hu⟩
  have G1 := grown_alloc g1
  clear g1 h1 hr o1
  go_wp2
  go_loopw [3, 4] (fun v q wr => ∃ (t : List (List Ev)) (us : List Value) (m k' : Nat), m + t.length = N + 1 ∧ q = .int .i64 m ∧ (∀ x ∈ t, x.length ≤ 8 ∧ ∀ y ∈ x, opF y = 0) ∧ OwnTOp wr w.heap.size v t us ∧ Src wr g A c l k' ∧ k' + 22 * m ≤ k + 1 + 22 * (N + 1) ∧ w.grownBy wr (some g)) (fun _ q _ => (intOf q).toNat)
  case atStart => exact ⟨[], [], N + 1, k + 1, rfl, by go_num, by simp, oT, S1, by omega, G1⟩
  case round =>
    clear oT S1 G1
    obtain ⟨t, us, m, k', hm, rfl, hall, ho, hSr, hkk, hgr⟩ := hrel
    have HM := hide hm
    have hx1 : t.length ≤ 4 := by omega
    have hm1 : m ≤ 4 := by omega
    clear hm
    have hsz := hgr.size
    by_cases hlt : 0 < m
    · obtain ⟨wo, hwo⟩ : ∃ wo : World, wo = wr := ⟨_, rfl⟩
      subst hwo
      have hwg := hSr.lt
      have rowL : (wo.alloc (Obj.cells #[] 84)).ownsRow wo.heap.size 84 3 (.slice (some ⟨wo.heap.size, 0, none⟩) 0 0) 0 [] := World.ownsRow_lit wo #[] 0 (Nat.le_refl _) (by simp) rfl
      go_wp2_with fail
      refine (l1Next_any g k' 8 A c l _ (hSr.alloc _) (by omega) (by omega) (by omega)).mono ?_
      rintro e w1 ⟨r, rfl, h0, h1, S1, g1⟩
      have hr : r ≤ 7 := by omega
      obtain ⟨K, rfl⟩ := Int.eq_ofNat_of_zero_le h0
      have hK : K ≤ 7 := by omega
      have o1 := rowL.kept g1 (.inr (by simp [Value.ownBlock]; omega))
      have G1 := grown_alloc g1
      clear g1 h1 hr rowL
      go_wp2
      go_loopw [5, 6] (fun v q wr => ∃ (es : List Ev) (mm k2 : Nat), mm + es.length = K ∧ q = .int .i64 mm ∧ (∀ x ∈ es, opF x = 0) ∧ wr.ownsRow wo.heap.size 84 3 v es.length (evs es) ∧ Src wr g A c l k2 ∧ k2 + 3 * mm ≤ k' + 1 + 3 * K ∧ wo.grownBy wr (some g)) (fun _ q _ => (intOf q).toNat)
      case atStart => exact ⟨[], K, k' + 1, rfl, rfl, by simp, o1, S1, by omega, G1⟩
      case round =>
        clear o1 S1 G1
        obtain ⟨es, mm, k2, hmm, rfl, hev, hoe, hSe, hkk2, hgr2⟩ := hrel
        have HMM := hide hmm
        have hx2 : es.length ≤ 8 := by omega
        have hm2 : mm ≤ 8 := by omega
        clear hmm
        have hsz2 := hgr2.size
        by_cases hlt2 : 0 < mm
        · go_wp2_with fail
          refine (l7Op_any g k2 A c l wr hSe (by omega)).mono ?_
          rintro e w2 ⟨x, rfl, hx, k3, hk3, hS1, hg1⟩
          have ho1 := hoe.kept hg1 (.inr (fun e => own_apart hoe g (.inl hwg) e.symm))
          have hgr1 := hgr2.trans hg1
          have hsz1 := hgr1.size
          clear hg1
          go_wp2_with (at_builtin; refine wpList_append_own_at _ rfl _ _ 104 rfl wo.heap.size 84 j0 (.agg #[.int .i64 0, .int .i64 0, .int .i64 0]) 3 24 Tryz.underlying104 hj hy0 hy1 hy2 rfl (by decide) _ _ _ rfl (ho1.alloc _) ⟨w2.heap.size, 0, none⟩ 1 1 [.int .i64 x.k, .int .i64 x.a, .int .i64 x.v] rfl rfl (cell_three_new _ _ _ _ _) (one_cells3 _ _ _ _) (by unfold maxLen; omega) (by omega) (by simp; omega) ?_; intro v' w3 hown' hgrow _ hat)
          have hbl : Below wo.heap.size w2 w3 := ((Below.refl _ _).alloc hsz1 _).trans (grown_below (ho1.alloc (.cells #[.int .i64 x.k, .int .i64 x.a, .int .i64 x.v] 84)) hgrow (by simp; omega) (Nat.le_refl _))
          have hgr3 : wo.grownBy w3 (some g) := hgr1.andThen (grown_alloc hgrow) (fun j hj => .inl (ho1.lt j hj).1)
          clear hgrow hat
          go_roundw
          case rel => exact ⟨es ++ [x], mm - 1, k3, by have := HMM.out; simp; omega, by go_num, by intro y hy; rcases List.mem_append.1 hy with h | h; exact hev y h; simp at h; rw [h]; exact hx, by rw [List.length_append, evs_append]; exact hown', hS1.below hbl hwg, by omega, hgr3⟩
          case measure => simp [intOf]; omega
        · obtain ⟨D, d, rfl⟩ := own_shape hoe
          have hn : es.length = K := by have := HMM.out; omega
          have ho1 := ho.kept hgr2 (fun b e => by simp at e; omega)
          have hfr := ho.fresh hoe (Nat.le_refl _)
          have hown1 := own_mono hoe hsz
          have hgr1 := hgr.trans hgr2
          have hsz1 := hgr1.size
          have hes8 : es.length ≤ 8 := by omega
          have hk4 : k2 + 22 * (m - 1) ≤ k + 1 + 22 * (N + 1) := by omega
          have HN := hide hn
          clear hn hgr2 hoe hkk2 hkk hK
          go_wp2_with (at_builtin; refine wpList_append_own_at _ rfl _ _ 28 rfl w.heap.size 104 i0 (.slice none 0 0) 1 24 Tryz.underlying28 hi hz0 hz1 hz2 rfl (by decide) _ _ _ rfl (ho1.row.alloc _) ⟨wr.heap.size, 0, none⟩ 1 1 [.slice D es.length d] rfl rfl (cell_one_new _ _ _) (one_cellS _ _ _) (by unfold maxLen; omega) (by omega) (by simp; omega) ?_; intro v' w3 hown' hgrow _ hat)
          have hP := (ho1.alloc (.cells #[.slice D es.length d] 104)).push (es := es) (hown1.alloc _) hfr hown' hgrow hat
          have hbl : Below w.heap.size wr w3 := ((Below.refl _ _).alloc hsz1 _).trans (grown_below (ho1.row.alloc (.cells #[.slice D es.length d] 104)) hgrow (by simp; omega) (Nat.le_refl _))
          have hgr4 : w.grownBy w3 (some g) := hgr1.andThen (grown_alloc hgrow) (fun j hj => .inl (ho1.row.lt j hj).1)
          clear hgrow hat
          go_roundw
          case rel => exact ⟨t ++ [es], us ++ [.slice D es.length d], m - 1, k2, by have := HM.out; simp; omega, by go_num, by intro y hy; rcases List.mem_append.1 hy with h | h; exact hall y h; simp at h; rw [h]; exact ⟨hes8, hev⟩, hP, hSe.below hbl hgl, hk4, hgr4⟩
          case measure => simp [intOf]; omega
    · obtain ⟨D, d, hv⟩ := own_shape ho.row
      have HV := hide hv
      clear hv
      go_wp2
      go_ret
      have hn : t.length = N + 1 := by have := HM.out; omega
      have ho2 := ho
      rw [HV.out] at ho2
      exact ⟨t, us, D, d, congrArg Ending.returned HV.out, by omega, by omega, hall, ho2, k', by omega, hSr, hgr⟩
end Go.Proofs.YtnnfkmjhaljplaaGreat
namespace Go.Proofs.YtnnfkmjhaljplaaGreat
open Go.RowKit
theorem rdT_nilsO {w : World} {base n : Nat} {A : Option Addr} {c : Nat} (h : w.ownsRow base 104 1 (.slice A n c) n (List.replicate n (Value.slice none 0 0))) : RdT w w.heap.size A (List.replicate n []) := by
  intro h0
  rw [List.length_replicate] at h0
  rcases h.2 with ⟨_, h''⟩ | ⟨g, cap, cur, h', _⟩
  · omega
  · simp only [Value.slice.injEq] at h'
    obtain ⟨rfl, _, rfl⟩ := h'
    refine ⟨g, 0, rfl, (h.lt g rfl).2, fun i hi => ?_⟩
    have hi' : i < n := by simpa using hi
    refine ⟨none, 0, ?_, by simp, by simp, by simpa using RdE.nil_⟩
    rw [Nat.zero_add, h.cellAt i (by omega), List.getElem?_replicate]
    simp [hi']
theorem OwnTOp.rd_ {w : World} {base n c : Nat} {A : Option Addr} {t : List (List Ev)} {us : List Value} (h : OwnTOp w base (.slice A n c) t us) (hn : n = t.length) : RdT w w.heap.size A t := by
  subst hn
  exact h.rd
/-- What the walk is left with: programs to read, and the source gone on. -/
def BentOPost (w : World) (g : Nat) (A : Option Addr) (c : Nat) (l : List Int) (k : Nat) (e : Ending) (w' : World) : Prop :=
  ∃ (t : List (List Ev)) (D : Option Addr) (d : Nat), e = .returned (.slice D t.length d) ∧ t.length ≤ 5 ∧ (∀ x ∈ t, x.length ≤ 20) ∧ (∀ w2 : World, w'.grownBy w2 (some g) → RdT w2 w2.heap.size D t) ∧ Went w g A c l k 110 w'
set_option maxRecDepth 100000 in
set_option maxHeartbeats 8000000 in
theorem l7Bent_any (g k : Nat) (A : Option Addr) (c : Nat) (l : List Int) (w : World) (hS : Src w g A c l k) (hk : k ≤ 1000) :
    Calls Tryz.prog 25 #[.pointer (some ⟨g, 0, none⟩)] w (BentOPost w g A c l k) := by
  obtain ⟨i0, hi, hz0, hz1, hz2⟩ := info_parts info_op
  obtain ⟨j0, hj, hy0, hy1, hy2⟩ := info_parts info_ops
  have hgl := hS.lt
  go_enter Tryz.func25, Tryz.ntmps25
  go_wp2_with fail
  refine (l7Programs_any g k A c l _ hS (by omega)).mono ?_
  rintro e w1 ⟨t, us, D, d, rfl, ht1, ht4, hall, oT, k1, hk1, S1, G1⟩
  have hat : 0 < t.length := by omega
  go_wp2_with fail
  refine (l1Next_any g k1 14 A c l _ S1 (by omega) (by omega) (by omega)).mono ?_
  rintro e w3 ⟨s, rfl, hs0, hs1, S3, g3⟩
  have oT3 := oT.kept g3 (fun b e => by simp at e; omega)
  have G3 := G1.trans g3
  have z3 := G3.size
  clear g3 hs1 oT G1 S1
  obtain ⟨gv, rfl⟩ : ∃ gv, D = some ⟨gv, 0, none⟩ := by
    rcases oT3.row.2 with ⟨h', h''⟩ | ⟨g, cap, cur, h', _⟩
    · omega
    · simp only [Value.slice.injEq, true_and] at h'
      exact ⟨g, h'.1⟩
  have hgv := oT3.row.lt gv rfl
  obtain ⟨u, hu, hown, hu3⟩ := oT3.rows 0 hat
  have hf := oT3.row.frozenAt 0
  have hc : w3.cell? ⟨gv, 0, none⟩ = some u := by
    rw [oT3.row.cellAt 0 (by omega)]
    exact hu
  have hall20 : ∀ x ∈ t, x.length ≤ 20 := fun x hx => by have := (hall x hx).1; omega
  by_cases e0 : s = 0
  · subst e0
    obtain ⟨Au, cu, rfl⟩ := own_shape hown
    have hl8 := (hall _ (List.getElem_mem hat)).1
    have M0 : Mid w3 g A c l (k1 + 1) [] w3 := Mid.start S3
    have hk350 : k1 ≤ 2000 := by omega
    have mc : ∀ (w' : World) (k' : Nat) (L : List (Nat × List Int)), Mid w3 g A c l k' L w' → w'.cell? ⟨gv, 0, none⟩ = some (.slice Au t[0].length cu) := fun w' k' L M => M.gr.cell hc (by simp; omega)
    have MC := hide mc
    have ot : ∀ (w' : World) (k' : Nat) (L : List (Nat × List Int)), Mid w3 g A c l k' L w' → w'.ownsRow w.heap.size 84 3 (.slice Au t[0].length cu) t[0].length (evs t[0]) := fun w' k' L M => hown.kept M.gr (own_sep fun b hb e => by have := hown.lt b hb; simp at e; omega)
    have OT := hide ot
    clear ot
    clear mc hc hf
    have hc := MC.out _ _ _ M0
    go_wp2_with fail
    have M := Mid.dr M0
    refine wp_region_E 15 (fun w' => w'.cell? ⟨gv, 0, none⟩ = some (.slice Au t[0].length cu)) (by kernel_rfl) (MC.out _ _ _ M) (fun hHeld => ?_)
    try simp only [Act.put, List.setIfInBounds_toArray, List.set_cons_zero, List.set_cons_succ]
    refine wpAnyE_take (i := 0) (v := ?_) (by (simp only [List.getElem?_toArray, List.getElem?_cons_zero]; rfl)) (by kernel_rfl) (by kernel_rfl) (by kernel_rfl) (by decide) (by exact fun _ _ _ h => h) (.inr hHeld) (Or.inl ⟨by rfl, ?_⟩) ?_
    rotate_left
    · (intro w' _; go_simp <;> with_reducible rfl)
    try simp only [Act.put, List.setIfInBounds_toArray, List.set_cons_zero, List.set_cons_succ]
    refine wpAnyE_take (i := 1) (v := ?_) (by (simp only [List.getElem?_toArray, List.getElem?_cons_succ, List.getElem?_cons_zero]; rfl)) (by kernel_rfl) (by kernel_rfl) (by kernel_rfl) (by decide) (by exact fun _ _ _ h => h) (.inr hHeld) (Or.inl ⟨by rfl, ?_⟩) ?_
    rotate_left
    · (intro w' _; go_simp <;> with_reducible rfl)
    try simp only [Act.put, List.setIfInBounds_toArray, List.set_cons_zero, List.set_cons_succ]
    refine wpAnyE_take (i := 4) (v := ?_) (by (simp only [List.getElem?_toArray, List.getElem?_cons_succ, List.getElem?_cons_zero]; rfl)) (by kernel_rfl) (by kernel_rfl) (by kernel_rfl) (by decide) (by exact fun _ _ _ h => h) (.inr hHeld) (Or.inl ⟨by rfl, ?_⟩) ?_
    rotate_left
    · (intro w' _; go_simp <;> with_reducible rfl)
    try simp only [Act.put, List.setIfInBounds_toArray, List.set_cons_zero, List.set_cons_succ]
    refine wpAnyE_take (i := 7) (v := ?_) (by (simp only [List.getElem?_toArray, List.getElem?_cons_succ, List.getElem?_cons_zero]; rfl)) (by kernel_rfl) (by kernel_rfl) (by kernel_rfl) (by decide) (by exact fun _ _ _ h => h) (.inr hHeld) (Or.inl ⟨by rfl, ?_⟩) ?_
    rotate_left
    · (intro w' _; go_simp <;> with_reducible rfl)
    try simp only [Act.put, List.setIfInBounds_toArray, List.set_cons_zero, List.set_cons_succ]
    refine wpAnyE_take (i := 10) (v := ?_) (by (simp only [List.getElem?_toArray, List.getElem?_cons_succ, List.getElem?_cons_zero]; rfl)) (by kernel_rfl) (by kernel_rfl) (by kernel_rfl) (by decide) (by exact fun _ _ _ h => h) (.inr hHeld) (Or.inl ⟨by rfl, ?_⟩) ?_
    rotate_left
    · (intro w' _; go_simp <;> with_reducible rfl)
    try simp only [Act.put, List.setIfInBounds_toArray, List.set_cons_zero, List.set_cons_succ]
    refine wpAnyE_take (i := 2) (v := ?_) (by (simp only [List.getElem?_toArray, List.getElem?_cons_succ, List.getElem?_cons_zero]; rfl)) (by kernel_rfl) (by kernel_rfl) (by kernel_rfl) (by decide) (by exact fun _ _ _ h => h) (.inr hHeld) (Or.inl ⟨by rfl, ?_⟩) ?_
    rotate_left
    · (intro w' _; go_simp <;> with_reducible rfl)
    try simp only [Act.put, List.setIfInBounds_toArray, List.set_cons_zero, List.set_cons_succ]
    refine wpAnyE_load (i := 3) (v := ?_) (by (simp only [List.getElem?_toArray, List.getElem?_cons_succ, List.getElem?_cons_zero]; rfl)) (by kernel_rfl) (by kernel_rfl) (by kernel_rfl) (by decide) (by exact fun _ _ _ h => h) hHeld (by kernel_rfl) (by kernel_rfl) (Or.inl ⟨by rfl, ?_⟩) ?_
    rotate_left
    · (intro w' hSw; (try dsimp only at hSw); go_simp <;> with_reducible rfl)
    try simp only [Act.put, List.setIfInBounds_toArray, List.set_cons_zero, List.set_cons_succ]
    refine wpAnyE_ready (rs := [5, 8, 11]) (by kernel_rfl) (by simp) ?_
    refine AllReadyE.cons (by (simp only [List.getElem?_toArray, List.getElem?_cons_succ, List.getElem?_cons_zero]; rfl)) (fun K hK => ?_) ?_
    · skip
      go_simp
      replace M := Mid.al M 0 1 2
      refine hK.out _ _ (MC.out _ _ _ M) (fun hNew => ?_)
      replace hHeld := hNew
      clear hK K hNew
      try simp only [Act.put, List.setIfInBounds_toArray, List.set_cons_zero, List.set_cons_succ]
      refine wpAnyE_ready (rs := [6, 8, 11]) (by kernel_rfl) (by simp) ?_
      refine AllReadyE.cons (by (simp only [List.getElem?_toArray, List.getElem?_cons_succ, List.getElem?_cons_zero]; rfl)) (fun K hK => ?_) ?_
      · skip
        go_simp
        go_at_call 21
        refine (pick_mid (w0 := w3) (A := A) (c := c) (l := l) _ [0, 1, 2] ⟨_, _, M, by omega, by simp⟩ (by simp) (by simp)).mono ?_
        rintro e wa ⟨r1, rfl, N⟩
        replace M := N _ _ M
        clear N
        refine hK.out _ _ (MC.out _ _ _ M) (fun hNew => ?_)
        replace hHeld := hNew
        clear hK K hNew
        try simp only [Act.put, List.setIfInBounds_toArray, List.set_cons_zero, List.set_cons_succ]
        refine wpAnyE_ready (rs := [8, 11]) (by kernel_rfl) (by simp) ?_
        refine AllReadyE.cons (by (simp only [List.getElem?_toArray, List.getElem?_cons_succ, List.getElem?_cons_zero]; rfl)) (fun K hK => ?_) ?_
        · skip
          go_simp
          replace M := Mid.al2 M 0 (-1)
          refine hK.out _ _ (MC.out _ _ _ M) (fun hNew => ?_)
          replace hHeld := hNew
          clear hK K hNew
          try simp only [Act.put, List.setIfInBounds_toArray, List.set_cons_zero, List.set_cons_succ]
          refine wpAnyE_ready (rs := [9, 11]) (by kernel_rfl) (by simp) ?_
          refine AllReadyE.cons (by (simp only [List.getElem?_toArray, List.getElem?_cons_succ, List.getElem?_cons_zero]; rfl)) (fun K hK => ?_) ?_
          · skip
            go_simp
            go_at_call 21
            refine (pick_mid (w0 := w3) (A := A) (c := c) (l := l) _ [0, -1] ⟨_, _, M, by omega, by simp⟩ (by simp) (by simp)).mono ?_
            rintro e wa ⟨r2, rfl, N⟩
            replace M := N _ _ M
            clear N
            refine hK.out _ _ (MC.out _ _ _ M) (fun hNew => ?_)
            replace hHeld := hNew
            clear hK K hNew
            try simp only [Act.put, List.setIfInBounds_toArray, List.set_cons_zero, List.set_cons_succ]
            refine wpAnyE_ready (rs := [11]) (by kernel_rfl) (by simp) ?_
            refine AllReadyE.cons (by (simp only [List.getElem?_toArray, List.getElem?_cons_succ, List.getElem?_cons_zero]; rfl)) (fun K hK => ?_) AllReadyE.nil
            go_simp
            replace M := Mid.al M 0 5 (-1)
            refine hK.out _ _ (MC.out _ _ _ M) (fun hNew => ?_)
            replace hHeld := hNew
            clear hK K hNew
            try simp only [Act.put, List.setIfInBounds_toArray, List.set_cons_zero, List.set_cons_succ]
            refine wpAnyE_ready (rs := [12]) (by kernel_rfl) (by simp) ?_
            refine AllReadyE.cons (by (simp only [List.getElem?_toArray, List.getElem?_cons_succ, List.getElem?_cons_zero]; rfl)) (fun K hK => ?_) AllReadyE.nil
            go_simp
            go_at_call 21
            refine (pick_mid (w0 := w3) (A := A) (c := c) (l := l) _ [0, 5, -1] ⟨_, _, M, by omega, by simp⟩ (by simp) (by simp)).mono ?_
            rintro e wa ⟨r3, rfl, N⟩
            replace M := N _ _ M
            clear N
            refine hK.out _ _ (MC.out _ _ _ M) (fun hNew => ?_)
            replace hHeld := hNew
            clear hK K hNew
            try simp only [Act.put, List.setIfInBounds_toArray, List.set_cons_zero, List.set_cons_succ]
            refine wpAnyE_take (i := 13) (v := ?_) (by (simp only [List.getElem?_toArray, List.getElem?_cons_succ, List.getElem?_cons_zero]; rfl)) (by kernel_rfl) (by kernel_rfl) (by kernel_rfl) (by decide) (by exact fun _ _ _ h => h) (.inr hHeld) (Or.inl ⟨by rfl, ?_⟩) ?_
            rotate_left
            · (intro w' _; go_simp <;> with_reducible rfl)
            try simp only [Act.put, List.setIfInBounds_toArray, List.set_cons_zero, List.set_cons_succ]
            refine wpAnyE_ready (rs := [14]) (by kernel_rfl) (by simp) ?_
            refine AllReadyE.cons (by (simp only [List.getElem?_toArray, List.getElem?_cons_succ, List.getElem?_cons_zero]; rfl)) (fun K hK => ?_) AllReadyE.nil
            go_simp
            have ME := M.any (.cells #[.int .i64 r1, .int .i64 r2, .int .i64 r3] 84)
            refine hK.out _ _ (MC.out _ _ _ ME) (fun hNew => ?_)
            clear hK K hNew hHeld
            try simp only [Act.put, List.setIfInBounds_toArray, List.set_cons_zero, List.set_cons_succ]
            refine wpAnyE_ready (rs := [15]) (by kernel_rfl) (by simp) ?_
            refine AllReadyE.last (by (simp only [List.getElem?_toArray, List.getElem?_cons_succ, List.getElem?_cons_zero]; rfl)) (by kernel_rfl) (fun K hK => ?_) AllReadyE.nil
            refine step_append_re _ (by rfl) (.tmp 13) (.tmp 24) 104 (by rfl) w.heap.size 84 i0 (.agg #[.int .i64 0, .int .i64 0, .int .i64 0]) 24 Tryz.underlying104 hi hz0 hz1 hz2 rfl (.slice Au t[0].length cu) t[0].length (evs t[0]) (by rfl) ((OT.out _ _ _ M).alloc _) (some ⟨wa.heap.size, 0, none⟩) [⟨r1, r2, r3⟩] 1 _ (by rfl) (rdE_new wa ⟨r1, r2, r3⟩ _) (by unfold maxLen; simp only [List.length_singleton]; omega) (by simp only [List.length_singleton]; omega) (by have := M.gr.size; simp; omega) ?_
            intro v5 w5 o5 g5 hat5
            have M4 := ME
            have ot4 := oT3.kept M4.gr (fun b e => by (simp at e; omega))
            have rk := ot4.row.kept g5 (own_sep fun b hb e => by (simp only [Value.ownBlock, Option.some.injEq] at hb; subst hb; exact hu3 _ e rfl))
            have hf5 := rk.frozenAt 0
            have hc5 : w5.cell? ⟨gv, 0, none⟩ = some (.slice Au t[0].length cu) := (by rw [rk.cellAt 0 (by omega)]; exact hu)
            obtain ⟨D5, d5, hv5⟩ := own_shape o5
            rw [hv5] at o5 hat5
            rw [hv5]
            have HG := hide g5
            have HAT := hide hat5
            have HO := hide o5
            have OT4 := hide ot4
            clear g5 hat5 hv5 o5 rk ot4
            refine hK.out _ _ ?_
            clear hK K
            try simp only [Act.put, List.setIfInBounds_toArray, List.set_cons_zero, List.set_cons_succ]
            refine wpAnyE_take (i := 16) (v := ?_) (by (simp only [List.getElem?_toArray, List.getElem?_cons_succ, List.getElem?_cons_zero]; rfl)) (by kernel_rfl) (by kernel_rfl) (by kernel_rfl) (by decide) (by exact fun _ _ _ h => h) (.inl (by kernel_rfl)) (Or.inl ⟨by rfl, ?_⟩) ?_
            rotate_left
            · (intro w' _; go_simp <;> with_reducible rfl)
            try simp only [Act.put, List.setIfInBounds_toArray, List.set_cons_zero, List.set_cons_succ]
            refine wpAnyE_ready (rs := [17]) (by kernel_rfl) (by simp) ?_
            refine AllReadyE.last (by (simp only [List.getElem?_toArray, List.getElem?_cons_succ, List.getElem?_cons_zero]; rfl)) (by kernel_rfl) (fun K hK => ?_) AllReadyE.nil
            go_simp
            refine hK.out _ _ ?_
            clear hK K
            try simp only [Act.put, List.setIfInBounds_toArray, List.set_cons_zero, List.set_cons_succ]
            refine wpAnyE_done (by kernel_rfl) ?_ _
            go_wp2
            go_ret
            have oS := OT4.out.swap (es' := t[0] ++ [⟨r1, r2, r3⟩]) hu HG.out (fun b e => .inl e) (by rw [List.length_append, evs_append]; exact HO.out) (fun b hb => by
              rcases HAT.out with e | e
              · exact .inl (e.symm.trans hb)
              · rw [e] at hb; simp only [Option.some.injEq] at hb; exact .inr (Nat.le_of_eq hb))
            have rw4 := OT.out _ _ _ M4
            have G5 := grown_new (p := ⟨gv, 0, none⟩) hgv.1 (.slice D5 (t[0].length + 1) d5) ((G3.trans M4.gr).andThen HG.out (fun j hj => .inl (rw4.lt j hj).1))
            have hb5 := grown_below rw4 HG.out (by have := M4.gr.size; omega) (Nat.le_refl _)
            have S5 := (M4.src.below hb5 hgl).below (B := w.heap.size) ((Below.refl _ _).setCell (p := ⟨gv, 0, none⟩) hgv.1 (.slice D5 (t[0].length + 1) d5)) hgl
            exact ⟨t.set 0 (t[0] ++ [⟨r1, r2, r3⟩]), some ⟨gv, 0, none⟩, d, (by rw [List.length_set]; rfl), by rw [List.length_set]; omega, set_len hall20 (by rw [List.length_append]; simp; omega), fun w2 hg => (oS.kept hg (fun b e => by simp at e; omega)).rd_ (by rw [List.length_set]), k1 + 1 + 1 + 1 + 1, by omega, S5, G5⟩
          refine AllReadyE.cons (by (simp only [List.getElem?_toArray, List.getElem?_cons_succ, List.getElem?_cons_zero]; rfl)) (fun K hK => ?_) ?_
          · skip
            go_simp
            replace M := Mid.al M 0 5 (-1)
            refine hK.out _ _ (MC.out _ _ _ M) (fun hNew => ?_)
            replace hHeld := hNew
            clear hK K hNew
            try simp only [Act.put, List.setIfInBounds_toArray, List.set_cons_zero, List.set_cons_succ]
            refine wpAnyE_ready (rs := [9]) (by kernel_rfl) (by simp) ?_
            refine AllReadyE.cons (by (simp only [List.getElem?_toArray, List.getElem?_cons_succ, List.getElem?_cons_zero]; rfl)) (fun K hK => ?_) AllReadyE.nil
            go_simp
            go_at_call 21
            refine (pick_mid (w0 := w3) (A := A) (c := c) (l := l) _ [0, -1] ⟨_, _, M, by omega, by simp⟩ (by simp) (by simp)).mono ?_
            rintro e wa ⟨r2, rfl, N⟩
            replace M := N _ _ M
            clear N
            refine hK.out _ _ (MC.out _ _ _ M) (fun hNew => ?_)
            replace hHeld := hNew
            clear hK K hNew
            try simp only [Act.put, List.setIfInBounds_toArray, List.set_cons_zero, List.set_cons_succ]
            refine wpAnyE_ready (rs := [12]) (by kernel_rfl) (by simp) ?_
            refine AllReadyE.cons (by (simp only [List.getElem?_toArray, List.getElem?_cons_succ, List.getElem?_cons_zero]; rfl)) (fun K hK => ?_) AllReadyE.nil
            go_simp
            go_at_call 21
            refine (pick_mid (w0 := w3) (A := A) (c := c) (l := l) _ [0, 5, -1] ⟨_, _, M, by omega, by simp⟩ (by simp) (by simp)).mono ?_
            rintro e wa ⟨r3, rfl, N⟩
            replace M := N _ _ M
            clear N
            refine hK.out _ _ (MC.out _ _ _ M) (fun hNew => ?_)
            replace hHeld := hNew
            clear hK K hNew
            try simp only [Act.put, List.setIfInBounds_toArray, List.set_cons_zero, List.set_cons_succ]
            refine wpAnyE_take (i := 13) (v := ?_) (by (simp only [List.getElem?_toArray, List.getElem?_cons_succ, List.getElem?_cons_zero]; rfl)) (by kernel_rfl) (by kernel_rfl) (by kernel_rfl) (by decide) (by exact fun _ _ _ h => h) (.inr hHeld) (Or.inl ⟨by rfl, ?_⟩) ?_
            rotate_left
            · (intro w' _; go_simp <;> with_reducible rfl)
            try simp only [Act.put, List.setIfInBounds_toArray, List.set_cons_zero, List.set_cons_succ]
            refine wpAnyE_ready (rs := [14]) (by kernel_rfl) (by simp) ?_
            refine AllReadyE.cons (by (simp only [List.getElem?_toArray, List.getElem?_cons_succ, List.getElem?_cons_zero]; rfl)) (fun K hK => ?_) AllReadyE.nil
            go_simp
            have ME := M.any (.cells #[.int .i64 r1, .int .i64 r2, .int .i64 r3] 84)
            refine hK.out _ _ (MC.out _ _ _ ME) (fun hNew => ?_)
            clear hK K hNew hHeld
            try simp only [Act.put, List.setIfInBounds_toArray, List.set_cons_zero, List.set_cons_succ]
            refine wpAnyE_ready (rs := [15]) (by kernel_rfl) (by simp) ?_
            refine AllReadyE.last (by (simp only [List.getElem?_toArray, List.getElem?_cons_succ, List.getElem?_cons_zero]; rfl)) (by kernel_rfl) (fun K hK => ?_) AllReadyE.nil
            refine step_append_re _ (by rfl) (.tmp 13) (.tmp 24) 104 (by rfl) w.heap.size 84 i0 (.agg #[.int .i64 0, .int .i64 0, .int .i64 0]) 24 Tryz.underlying104 hi hz0 hz1 hz2 rfl (.slice Au t[0].length cu) t[0].length (evs t[0]) (by rfl) ((OT.out _ _ _ M).alloc _) (some ⟨wa.heap.size, 0, none⟩) [⟨r1, r2, r3⟩] 1 _ (by rfl) (rdE_new wa ⟨r1, r2, r3⟩ _) (by unfold maxLen; simp only [List.length_singleton]; omega) (by simp only [List.length_singleton]; omega) (by have := M.gr.size; simp; omega) ?_
            intro v5 w5 o5 g5 hat5
            have M4 := ME
            have ot4 := oT3.kept M4.gr (fun b e => by (simp at e; omega))
            have rk := ot4.row.kept g5 (own_sep fun b hb e => by (simp only [Value.ownBlock, Option.some.injEq] at hb; subst hb; exact hu3 _ e rfl))
            have hf5 := rk.frozenAt 0
            have hc5 : w5.cell? ⟨gv, 0, none⟩ = some (.slice Au t[0].length cu) := (by rw [rk.cellAt 0 (by omega)]; exact hu)
            obtain ⟨D5, d5, hv5⟩ := own_shape o5
            rw [hv5] at o5 hat5
            rw [hv5]
            have HG := hide g5
            have HAT := hide hat5
            have HO := hide o5
            have OT4 := hide ot4
            clear g5 hat5 hv5 o5 rk ot4
            refine hK.out _ _ ?_
            clear hK K
            try simp only [Act.put, List.setIfInBounds_toArray, List.set_cons_zero, List.set_cons_succ]
            refine wpAnyE_take (i := 16) (v := ?_) (by (simp only [List.getElem?_toArray, List.getElem?_cons_succ, List.getElem?_cons_zero]; rfl)) (by kernel_rfl) (by kernel_rfl) (by kernel_rfl) (by decide) (by exact fun _ _ _ h => h) (.inl (by kernel_rfl)) (Or.inl ⟨by rfl, ?_⟩) ?_
            rotate_left
            · (intro w' _; go_simp <;> with_reducible rfl)
            try simp only [Act.put, List.setIfInBounds_toArray, List.set_cons_zero, List.set_cons_succ]
            refine wpAnyE_ready (rs := [17]) (by kernel_rfl) (by simp) ?_
            refine AllReadyE.last (by (simp only [List.getElem?_toArray, List.getElem?_cons_succ, List.getElem?_cons_zero]; rfl)) (by kernel_rfl) (fun K hK => ?_) AllReadyE.nil
            go_simp
            refine hK.out _ _ ?_
            clear hK K
            try simp only [Act.put, List.setIfInBounds_toArray, List.set_cons_zero, List.set_cons_succ]
            refine wpAnyE_done (by kernel_rfl) ?_ _
            go_wp2
            go_ret
            have oS := OT4.out.swap (es' := t[0] ++ [⟨r1, r2, r3⟩]) hu HG.out (fun b e => .inl e) (by rw [List.length_append, evs_append]; exact HO.out) (fun b hb => by
              rcases HAT.out with e | e
              · exact .inl (e.symm.trans hb)
              · rw [e] at hb; simp only [Option.some.injEq] at hb; exact .inr (Nat.le_of_eq hb))
            have rw4 := OT.out _ _ _ M4
            have G5 := grown_new (p := ⟨gv, 0, none⟩) hgv.1 (.slice D5 (t[0].length + 1) d5) ((G3.trans M4.gr).andThen HG.out (fun j hj => .inl (rw4.lt j hj).1))
            have hb5 := grown_below rw4 HG.out (by have := M4.gr.size; omega) (Nat.le_refl _)
            have S5 := (M4.src.below hb5 hgl).below (B := w.heap.size) ((Below.refl _ _).setCell (p := ⟨gv, 0, none⟩) hgv.1 (.slice D5 (t[0].length + 1) d5)) hgl
            exact ⟨t.set 0 (t[0] ++ [⟨r1, r2, r3⟩]), some ⟨gv, 0, none⟩, d, (by rw [List.length_set]; rfl), by rw [List.length_set]; omega, set_len hall20 (by rw [List.length_append]; simp; omega), fun w2 hg => (oS.kept hg (fun b e => by simp at e; omega)).rd_ (by rw [List.length_set]), k1 + 1 + 1 + 1 + 1, by omega, S5, G5⟩
          exact AllReadyE.nil
        refine AllReadyE.cons (by (simp only [List.getElem?_toArray, List.getElem?_cons_succ, List.getElem?_cons_zero]; rfl)) (fun K hK => ?_) ?_
        · skip
          go_simp
          replace M := Mid.al M 0 5 (-1)
          refine hK.out _ _ (MC.out _ _ _ M) (fun hNew => ?_)
          replace hHeld := hNew
          clear hK K hNew
          try simp only [Act.put, List.setIfInBounds_toArray, List.set_cons_zero, List.set_cons_succ]
          refine wpAnyE_ready (rs := [8]) (by kernel_rfl) (by simp) ?_
          refine AllReadyE.cons (by (simp only [List.getElem?_toArray, List.getElem?_cons_succ, List.getElem?_cons_zero]; rfl)) (fun K hK => ?_) AllReadyE.nil
          go_simp
          replace M := Mid.al2 M 0 (-1)
          refine hK.out _ _ (MC.out _ _ _ M) (fun hNew => ?_)
          replace hHeld := hNew
          clear hK K hNew
          try simp only [Act.put, List.setIfInBounds_toArray, List.set_cons_zero, List.set_cons_succ]
          refine wpAnyE_ready (rs := [9]) (by kernel_rfl) (by simp) ?_
          refine AllReadyE.cons (by (simp only [List.getElem?_toArray, List.getElem?_cons_succ, List.getElem?_cons_zero]; rfl)) (fun K hK => ?_) AllReadyE.nil
          go_simp
          go_at_call 21
          refine (pick_mid (w0 := w3) (A := A) (c := c) (l := l) _ [0, -1] ⟨_, _, M, by omega, by simp⟩ (by simp) (by simp)).mono ?_
          rintro e wa ⟨r2, rfl, N⟩
          replace M := N _ _ M
          clear N
          refine hK.out _ _ (MC.out _ _ _ M) (fun hNew => ?_)
          replace hHeld := hNew
          clear hK K hNew
          try simp only [Act.put, List.setIfInBounds_toArray, List.set_cons_zero, List.set_cons_succ]
          refine wpAnyE_ready (rs := [12]) (by kernel_rfl) (by simp) ?_
          refine AllReadyE.cons (by (simp only [List.getElem?_toArray, List.getElem?_cons_succ, List.getElem?_cons_zero]; rfl)) (fun K hK => ?_) AllReadyE.nil
          go_simp
          go_at_call 21
          refine (pick_mid (w0 := w3) (A := A) (c := c) (l := l) _ [0, 5, -1] ⟨_, _, M, by omega, by simp⟩ (by simp) (by simp)).mono ?_
          rintro e wa ⟨r3, rfl, N⟩
          replace M := N _ _ M
          clear N
          refine hK.out _ _ (MC.out _ _ _ M) (fun hNew => ?_)
          replace hHeld := hNew
          clear hK K hNew
          try simp only [Act.put, List.setIfInBounds_toArray, List.set_cons_zero, List.set_cons_succ]
          refine wpAnyE_take (i := 13) (v := ?_) (by (simp only [List.getElem?_toArray, List.getElem?_cons_succ, List.getElem?_cons_zero]; rfl)) (by kernel_rfl) (by kernel_rfl) (by kernel_rfl) (by decide) (by exact fun _ _ _ h => h) (.inr hHeld) (Or.inl ⟨by rfl, ?_⟩) ?_
          rotate_left
          · (intro w' _; go_simp <;> with_reducible rfl)
          try simp only [Act.put, List.setIfInBounds_toArray, List.set_cons_zero, List.set_cons_succ]
          refine wpAnyE_ready (rs := [14]) (by kernel_rfl) (by simp) ?_
          refine AllReadyE.cons (by (simp only [List.getElem?_toArray, List.getElem?_cons_succ, List.getElem?_cons_zero]; rfl)) (fun K hK => ?_) AllReadyE.nil
          go_simp
          have ME := M.any (.cells #[.int .i64 r1, .int .i64 r2, .int .i64 r3] 84)
          refine hK.out _ _ (MC.out _ _ _ ME) (fun hNew => ?_)
          clear hK K hNew hHeld
          try simp only [Act.put, List.setIfInBounds_toArray, List.set_cons_zero, List.set_cons_succ]
          refine wpAnyE_ready (rs := [15]) (by kernel_rfl) (by simp) ?_
          refine AllReadyE.last (by (simp only [List.getElem?_toArray, List.getElem?_cons_succ, List.getElem?_cons_zero]; rfl)) (by kernel_rfl) (fun K hK => ?_) AllReadyE.nil
          refine step_append_re _ (by rfl) (.tmp 13) (.tmp 24) 104 (by rfl) w.heap.size 84 i0 (.agg #[.int .i64 0, .int .i64 0, .int .i64 0]) 24 Tryz.underlying104 hi hz0 hz1 hz2 rfl (.slice Au t[0].length cu) t[0].length (evs t[0]) (by rfl) ((OT.out _ _ _ M).alloc _) (some ⟨wa.heap.size, 0, none⟩) [⟨r1, r2, r3⟩] 1 _ (by rfl) (rdE_new wa ⟨r1, r2, r3⟩ _) (by unfold maxLen; simp only [List.length_singleton]; omega) (by simp only [List.length_singleton]; omega) (by have := M.gr.size; simp; omega) ?_
          intro v5 w5 o5 g5 hat5
          have M4 := ME
          have ot4 := oT3.kept M4.gr (fun b e => by (simp at e; omega))
          have rk := ot4.row.kept g5 (own_sep fun b hb e => by (simp only [Value.ownBlock, Option.some.injEq] at hb; subst hb; exact hu3 _ e rfl))
          have hf5 := rk.frozenAt 0
          have hc5 : w5.cell? ⟨gv, 0, none⟩ = some (.slice Au t[0].length cu) := (by rw [rk.cellAt 0 (by omega)]; exact hu)
          obtain ⟨D5, d5, hv5⟩ := own_shape o5
          rw [hv5] at o5 hat5
          rw [hv5]
          have HG := hide g5
          have HAT := hide hat5
          have HO := hide o5
          have OT4 := hide ot4
          clear g5 hat5 hv5 o5 rk ot4
          refine hK.out _ _ ?_
          clear hK K
          try simp only [Act.put, List.setIfInBounds_toArray, List.set_cons_zero, List.set_cons_succ]
          refine wpAnyE_take (i := 16) (v := ?_) (by (simp only [List.getElem?_toArray, List.getElem?_cons_succ, List.getElem?_cons_zero]; rfl)) (by kernel_rfl) (by kernel_rfl) (by kernel_rfl) (by decide) (by exact fun _ _ _ h => h) (.inl (by kernel_rfl)) (Or.inl ⟨by rfl, ?_⟩) ?_
          rotate_left
          · (intro w' _; go_simp <;> with_reducible rfl)
          try simp only [Act.put, List.setIfInBounds_toArray, List.set_cons_zero, List.set_cons_succ]
          refine wpAnyE_ready (rs := [17]) (by kernel_rfl) (by simp) ?_
          refine AllReadyE.last (by (simp only [List.getElem?_toArray, List.getElem?_cons_succ, List.getElem?_cons_zero]; rfl)) (by kernel_rfl) (fun K hK => ?_) AllReadyE.nil
          go_simp
          refine hK.out _ _ ?_
          clear hK K
          try simp only [Act.put, List.setIfInBounds_toArray, List.set_cons_zero, List.set_cons_succ]
          refine wpAnyE_done (by kernel_rfl) ?_ _
          go_wp2
          go_ret
          have oS := OT4.out.swap (es' := t[0] ++ [⟨r1, r2, r3⟩]) hu HG.out (fun b e => .inl e) (by rw [List.length_append, evs_append]; exact HO.out) (fun b hb => by
            rcases HAT.out with e | e
            · exact .inl (e.symm.trans hb)
            · rw [e] at hb; simp only [Option.some.injEq] at hb; exact .inr (Nat.le_of_eq hb))
          have rw4 := OT.out _ _ _ M4
          have G5 := grown_new (p := ⟨gv, 0, none⟩) hgv.1 (.slice D5 (t[0].length + 1) d5) ((G3.trans M4.gr).andThen HG.out (fun j hj => .inl (rw4.lt j hj).1))
          have hb5 := grown_below rw4 HG.out (by have := M4.gr.size; omega) (Nat.le_refl _)
          have S5 := (M4.src.below hb5 hgl).below (B := w.heap.size) ((Below.refl _ _).setCell (p := ⟨gv, 0, none⟩) hgv.1 (.slice D5 (t[0].length + 1) d5)) hgl
          exact ⟨t.set 0 (t[0] ++ [⟨r1, r2, r3⟩]), some ⟨gv, 0, none⟩, d, (by rw [List.length_set]; rfl), by rw [List.length_set]; omega, set_len hall20 (by rw [List.length_append]; simp; omega), fun w2 hg => (oS.kept hg (fun b e => by simp at e; omega)).rd_ (by rw [List.length_set]), k1 + 1 + 1 + 1 + 1, by omega, S5, G5⟩
        exact AllReadyE.nil
      refine AllReadyE.cons (by (simp only [List.getElem?_toArray, List.getElem?_cons_succ, List.getElem?_cons_zero]; rfl)) (fun K hK => ?_) ?_
      · skip
        go_simp
        replace M := Mid.al2 M 0 (-1)
        refine hK.out _ _ (MC.out _ _ _ M) (fun hNew => ?_)
        replace hHeld := hNew
        clear hK K hNew
        try simp only [Act.put, List.setIfInBounds_toArray, List.set_cons_zero, List.set_cons_succ]
        refine wpAnyE_ready (rs := [6, 11]) (by kernel_rfl) (by simp) ?_
        refine AllReadyE.cons (by (simp only [List.getElem?_toArray, List.getElem?_cons_succ, List.getElem?_cons_zero]; rfl)) (fun K hK => ?_) ?_
        · skip
          go_simp
          go_at_call 21
          refine (pick_mid (w0 := w3) (A := A) (c := c) (l := l) _ [0, 1, 2] ⟨_, _, M, by omega, by simp⟩ (by simp) (by simp)).mono ?_
          rintro e wa ⟨r1, rfl, N⟩
          replace M := N _ _ M
          clear N
          refine hK.out _ _ (MC.out _ _ _ M) (fun hNew => ?_)
          replace hHeld := hNew
          clear hK K hNew
          try simp only [Act.put, List.setIfInBounds_toArray, List.set_cons_zero, List.set_cons_succ]
          refine wpAnyE_ready (rs := [9, 11]) (by kernel_rfl) (by simp) ?_
          refine AllReadyE.cons (by (simp only [List.getElem?_toArray, List.getElem?_cons_succ, List.getElem?_cons_zero]; rfl)) (fun K hK => ?_) ?_
          · skip
            go_simp
            go_at_call 21
            refine (pick_mid (w0 := w3) (A := A) (c := c) (l := l) _ [0, -1] ⟨_, _, M, by omega, by simp⟩ (by simp) (by simp)).mono ?_
            rintro e wa ⟨r2, rfl, N⟩
            replace M := N _ _ M
            clear N
            refine hK.out _ _ (MC.out _ _ _ M) (fun hNew => ?_)
            replace hHeld := hNew
            clear hK K hNew
            try simp only [Act.put, List.setIfInBounds_toArray, List.set_cons_zero, List.set_cons_succ]
            refine wpAnyE_ready (rs := [11]) (by kernel_rfl) (by simp) ?_
            refine AllReadyE.cons (by (simp only [List.getElem?_toArray, List.getElem?_cons_succ, List.getElem?_cons_zero]; rfl)) (fun K hK => ?_) AllReadyE.nil
            go_simp
            replace M := Mid.al M 0 5 (-1)
            refine hK.out _ _ (MC.out _ _ _ M) (fun hNew => ?_)
            replace hHeld := hNew
            clear hK K hNew
            try simp only [Act.put, List.setIfInBounds_toArray, List.set_cons_zero, List.set_cons_succ]
            refine wpAnyE_ready (rs := [12]) (by kernel_rfl) (by simp) ?_
            refine AllReadyE.cons (by (simp only [List.getElem?_toArray, List.getElem?_cons_succ, List.getElem?_cons_zero]; rfl)) (fun K hK => ?_) AllReadyE.nil
            go_simp
            go_at_call 21
            refine (pick_mid (w0 := w3) (A := A) (c := c) (l := l) _ [0, 5, -1] ⟨_, _, M, by omega, by simp⟩ (by simp) (by simp)).mono ?_
            rintro e wa ⟨r3, rfl, N⟩
            replace M := N _ _ M
            clear N
            refine hK.out _ _ (MC.out _ _ _ M) (fun hNew => ?_)
            replace hHeld := hNew
            clear hK K hNew
            try simp only [Act.put, List.setIfInBounds_toArray, List.set_cons_zero, List.set_cons_succ]
            refine wpAnyE_take (i := 13) (v := ?_) (by (simp only [List.getElem?_toArray, List.getElem?_cons_succ, List.getElem?_cons_zero]; rfl)) (by kernel_rfl) (by kernel_rfl) (by kernel_rfl) (by decide) (by exact fun _ _ _ h => h) (.inr hHeld) (Or.inl ⟨by rfl, ?_⟩) ?_
            rotate_left
            · (intro w' _; go_simp <;> with_reducible rfl)
            try simp only [Act.put, List.setIfInBounds_toArray, List.set_cons_zero, List.set_cons_succ]
            refine wpAnyE_ready (rs := [14]) (by kernel_rfl) (by simp) ?_
            refine AllReadyE.cons (by (simp only [List.getElem?_toArray, List.getElem?_cons_succ, List.getElem?_cons_zero]; rfl)) (fun K hK => ?_) AllReadyE.nil
            go_simp
            have ME := M.any (.cells #[.int .i64 r1, .int .i64 r2, .int .i64 r3] 84)
            refine hK.out _ _ (MC.out _ _ _ ME) (fun hNew => ?_)
            clear hK K hNew hHeld
            try simp only [Act.put, List.setIfInBounds_toArray, List.set_cons_zero, List.set_cons_succ]
            refine wpAnyE_ready (rs := [15]) (by kernel_rfl) (by simp) ?_
            refine AllReadyE.last (by (simp only [List.getElem?_toArray, List.getElem?_cons_succ, List.getElem?_cons_zero]; rfl)) (by kernel_rfl) (fun K hK => ?_) AllReadyE.nil
            refine step_append_re _ (by rfl) (.tmp 13) (.tmp 24) 104 (by rfl) w.heap.size 84 i0 (.agg #[.int .i64 0, .int .i64 0, .int .i64 0]) 24 Tryz.underlying104 hi hz0 hz1 hz2 rfl (.slice Au t[0].length cu) t[0].length (evs t[0]) (by rfl) ((OT.out _ _ _ M).alloc _) (some ⟨wa.heap.size, 0, none⟩) [⟨r1, r2, r3⟩] 1 _ (by rfl) (rdE_new wa ⟨r1, r2, r3⟩ _) (by unfold maxLen; simp only [List.length_singleton]; omega) (by simp only [List.length_singleton]; omega) (by have := M.gr.size; simp; omega) ?_
            intro v5 w5 o5 g5 hat5
            have M4 := ME
            have ot4 := oT3.kept M4.gr (fun b e => by (simp at e; omega))
            have rk := ot4.row.kept g5 (own_sep fun b hb e => by (simp only [Value.ownBlock, Option.some.injEq] at hb; subst hb; exact hu3 _ e rfl))
            have hf5 := rk.frozenAt 0
            have hc5 : w5.cell? ⟨gv, 0, none⟩ = some (.slice Au t[0].length cu) := (by rw [rk.cellAt 0 (by omega)]; exact hu)
            obtain ⟨D5, d5, hv5⟩ := own_shape o5
            rw [hv5] at o5 hat5
            rw [hv5]
            have HG := hide g5
            have HAT := hide hat5
            have HO := hide o5
            have OT4 := hide ot4
            clear g5 hat5 hv5 o5 rk ot4
            refine hK.out _ _ ?_
            clear hK K
            try simp only [Act.put, List.setIfInBounds_toArray, List.set_cons_zero, List.set_cons_succ]
            refine wpAnyE_take (i := 16) (v := ?_) (by (simp only [List.getElem?_toArray, List.getElem?_cons_succ, List.getElem?_cons_zero]; rfl)) (by kernel_rfl) (by kernel_rfl) (by kernel_rfl) (by decide) (by exact fun _ _ _ h => h) (.inl (by kernel_rfl)) (Or.inl ⟨by rfl, ?_⟩) ?_
            rotate_left
            · (intro w' _; go_simp <;> with_reducible rfl)
            try simp only [Act.put, List.setIfInBounds_toArray, List.set_cons_zero, List.set_cons_succ]
            refine wpAnyE_ready (rs := [17]) (by kernel_rfl) (by simp) ?_
            refine AllReadyE.last (by (simp only [List.getElem?_toArray, List.getElem?_cons_succ, List.getElem?_cons_zero]; rfl)) (by kernel_rfl) (fun K hK => ?_) AllReadyE.nil
            go_simp
            refine hK.out _ _ ?_
            clear hK K
            try simp only [Act.put, List.setIfInBounds_toArray, List.set_cons_zero, List.set_cons_succ]
            refine wpAnyE_done (by kernel_rfl) ?_ _
            go_wp2
            go_ret
            have oS := OT4.out.swap (es' := t[0] ++ [⟨r1, r2, r3⟩]) hu HG.out (fun b e => .inl e) (by rw [List.length_append, evs_append]; exact HO.out) (fun b hb => by
              rcases HAT.out with e | e
              · exact .inl (e.symm.trans hb)
              · rw [e] at hb; simp only [Option.some.injEq] at hb; exact .inr (Nat.le_of_eq hb))
            have rw4 := OT.out _ _ _ M4
            have G5 := grown_new (p := ⟨gv, 0, none⟩) hgv.1 (.slice D5 (t[0].length + 1) d5) ((G3.trans M4.gr).andThen HG.out (fun j hj => .inl (rw4.lt j hj).1))
            have hb5 := grown_below rw4 HG.out (by have := M4.gr.size; omega) (Nat.le_refl _)
            have S5 := (M4.src.below hb5 hgl).below (B := w.heap.size) ((Below.refl _ _).setCell (p := ⟨gv, 0, none⟩) hgv.1 (.slice D5 (t[0].length + 1) d5)) hgl
            exact ⟨t.set 0 (t[0] ++ [⟨r1, r2, r3⟩]), some ⟨gv, 0, none⟩, d, (by rw [List.length_set]; rfl), by rw [List.length_set]; omega, set_len hall20 (by rw [List.length_append]; simp; omega), fun w2 hg => (oS.kept hg (fun b e => by simp at e; omega)).rd_ (by rw [List.length_set]), k1 + 1 + 1 + 1 + 1, by omega, S5, G5⟩
          refine AllReadyE.cons (by (simp only [List.getElem?_toArray, List.getElem?_cons_succ, List.getElem?_cons_zero]; rfl)) (fun K hK => ?_) ?_
          · skip
            go_simp
            replace M := Mid.al M 0 5 (-1)
            refine hK.out _ _ (MC.out _ _ _ M) (fun hNew => ?_)
            replace hHeld := hNew
            clear hK K hNew
            try simp only [Act.put, List.setIfInBounds_toArray, List.set_cons_zero, List.set_cons_succ]
            refine wpAnyE_ready (rs := [9]) (by kernel_rfl) (by simp) ?_
            refine AllReadyE.cons (by (simp only [List.getElem?_toArray, List.getElem?_cons_succ, List.getElem?_cons_zero]; rfl)) (fun K hK => ?_) AllReadyE.nil
            go_simp
            go_at_call 21
            refine (pick_mid (w0 := w3) (A := A) (c := c) (l := l) _ [0, -1] ⟨_, _, M, by omega, by simp⟩ (by simp) (by simp)).mono ?_
            rintro e wa ⟨r2, rfl, N⟩
            replace M := N _ _ M
            clear N
            refine hK.out _ _ (MC.out _ _ _ M) (fun hNew => ?_)
            replace hHeld := hNew
            clear hK K hNew
            try simp only [Act.put, List.setIfInBounds_toArray, List.set_cons_zero, List.set_cons_succ]
            refine wpAnyE_ready (rs := [12]) (by kernel_rfl) (by simp) ?_
            refine AllReadyE.cons (by (simp only [List.getElem?_toArray, List.getElem?_cons_succ, List.getElem?_cons_zero]; rfl)) (fun K hK => ?_) AllReadyE.nil
            go_simp
            go_at_call 21
            refine (pick_mid (w0 := w3) (A := A) (c := c) (l := l) _ [0, 5, -1] ⟨_, _, M, by omega, by simp⟩ (by simp) (by simp)).mono ?_
            rintro e wa ⟨r3, rfl, N⟩
            replace M := N _ _ M
            clear N
            refine hK.out _ _ (MC.out _ _ _ M) (fun hNew => ?_)
            replace hHeld := hNew
            clear hK K hNew
            try simp only [Act.put, List.setIfInBounds_toArray, List.set_cons_zero, List.set_cons_succ]
            refine wpAnyE_take (i := 13) (v := ?_) (by (simp only [List.getElem?_toArray, List.getElem?_cons_succ, List.getElem?_cons_zero]; rfl)) (by kernel_rfl) (by kernel_rfl) (by kernel_rfl) (by decide) (by exact fun _ _ _ h => h) (.inr hHeld) (Or.inl ⟨by rfl, ?_⟩) ?_
            rotate_left
            · (intro w' _; go_simp <;> with_reducible rfl)
            try simp only [Act.put, List.setIfInBounds_toArray, List.set_cons_zero, List.set_cons_succ]
            refine wpAnyE_ready (rs := [14]) (by kernel_rfl) (by simp) ?_
            refine AllReadyE.cons (by (simp only [List.getElem?_toArray, List.getElem?_cons_succ, List.getElem?_cons_zero]; rfl)) (fun K hK => ?_) AllReadyE.nil
            go_simp
            have ME := M.any (.cells #[.int .i64 r1, .int .i64 r2, .int .i64 r3] 84)
            refine hK.out _ _ (MC.out _ _ _ ME) (fun hNew => ?_)
            clear hK K hNew hHeld
            try simp only [Act.put, List.setIfInBounds_toArray, List.set_cons_zero, List.set_cons_succ]
            refine wpAnyE_ready (rs := [15]) (by kernel_rfl) (by simp) ?_
            refine AllReadyE.last (by (simp only [List.getElem?_toArray, List.getElem?_cons_succ, List.getElem?_cons_zero]; rfl)) (by kernel_rfl) (fun K hK => ?_) AllReadyE.nil
            refine step_append_re _ (by rfl) (.tmp 13) (.tmp 24) 104 (by rfl) w.heap.size 84 i0 (.agg #[.int .i64 0, .int .i64 0, .int .i64 0]) 24 Tryz.underlying104 hi hz0 hz1 hz2 rfl (.slice Au t[0].length cu) t[0].length (evs t[0]) (by rfl) ((OT.out _ _ _ M).alloc _) (some ⟨wa.heap.size, 0, none⟩) [⟨r1, r2, r3⟩] 1 _ (by rfl) (rdE_new wa ⟨r1, r2, r3⟩ _) (by unfold maxLen; simp only [List.length_singleton]; omega) (by simp only [List.length_singleton]; omega) (by have := M.gr.size; simp; omega) ?_
            intro v5 w5 o5 g5 hat5
            have M4 := ME
            have ot4 := oT3.kept M4.gr (fun b e => by (simp at e; omega))
            have rk := ot4.row.kept g5 (own_sep fun b hb e => by (simp only [Value.ownBlock, Option.some.injEq] at hb; subst hb; exact hu3 _ e rfl))
            have hf5 := rk.frozenAt 0
            have hc5 : w5.cell? ⟨gv, 0, none⟩ = some (.slice Au t[0].length cu) := (by rw [rk.cellAt 0 (by omega)]; exact hu)
            obtain ⟨D5, d5, hv5⟩ := own_shape o5
            rw [hv5] at o5 hat5
            rw [hv5]
            have HG := hide g5
            have HAT := hide hat5
            have HO := hide o5
            have OT4 := hide ot4
            clear g5 hat5 hv5 o5 rk ot4
            refine hK.out _ _ ?_
            clear hK K
            try simp only [Act.put, List.setIfInBounds_toArray, List.set_cons_zero, List.set_cons_succ]
            refine wpAnyE_take (i := 16) (v := ?_) (by (simp only [List.getElem?_toArray, List.getElem?_cons_succ, List.getElem?_cons_zero]; rfl)) (by kernel_rfl) (by kernel_rfl) (by kernel_rfl) (by decide) (by exact fun _ _ _ h => h) (.inl (by kernel_rfl)) (Or.inl ⟨by rfl, ?_⟩) ?_
            rotate_left
            · (intro w' _; go_simp <;> with_reducible rfl)
            try simp only [Act.put, List.setIfInBounds_toArray, List.set_cons_zero, List.set_cons_succ]
            refine wpAnyE_ready (rs := [17]) (by kernel_rfl) (by simp) ?_
            refine AllReadyE.last (by (simp only [List.getElem?_toArray, List.getElem?_cons_succ, List.getElem?_cons_zero]; rfl)) (by kernel_rfl) (fun K hK => ?_) AllReadyE.nil
            go_simp
            refine hK.out _ _ ?_
            clear hK K
            try simp only [Act.put, List.setIfInBounds_toArray, List.set_cons_zero, List.set_cons_succ]
            refine wpAnyE_done (by kernel_rfl) ?_ _
            go_wp2
            go_ret
            have oS := OT4.out.swap (es' := t[0] ++ [⟨r1, r2, r3⟩]) hu HG.out (fun b e => .inl e) (by rw [List.length_append, evs_append]; exact HO.out) (fun b hb => by
              rcases HAT.out with e | e
              · exact .inl (e.symm.trans hb)
              · rw [e] at hb; simp only [Option.some.injEq] at hb; exact .inr (Nat.le_of_eq hb))
            have rw4 := OT.out _ _ _ M4
            have G5 := grown_new (p := ⟨gv, 0, none⟩) hgv.1 (.slice D5 (t[0].length + 1) d5) ((G3.trans M4.gr).andThen HG.out (fun j hj => .inl (rw4.lt j hj).1))
            have hb5 := grown_below rw4 HG.out (by have := M4.gr.size; omega) (Nat.le_refl _)
            have S5 := (M4.src.below hb5 hgl).below (B := w.heap.size) ((Below.refl _ _).setCell (p := ⟨gv, 0, none⟩) hgv.1 (.slice D5 (t[0].length + 1) d5)) hgl
            exact ⟨t.set 0 (t[0] ++ [⟨r1, r2, r3⟩]), some ⟨gv, 0, none⟩, d, (by rw [List.length_set]; rfl), by rw [List.length_set]; omega, set_len hall20 (by rw [List.length_append]; simp; omega), fun w2 hg => (oS.kept hg (fun b e => by simp at e; omega)).rd_ (by rw [List.length_set]), k1 + 1 + 1 + 1 + 1, by omega, S5, G5⟩
          exact AllReadyE.nil
        refine AllReadyE.cons (by (simp only [List.getElem?_toArray, List.getElem?_cons_succ, List.getElem?_cons_zero]; rfl)) (fun K hK => ?_) ?_
        · skip
          go_simp
          replace M := Mid.al M 0 5 (-1)
          refine hK.out _ _ (MC.out _ _ _ M) (fun hNew => ?_)
          replace hHeld := hNew
          clear hK K hNew
          try simp only [Act.put, List.setIfInBounds_toArray, List.set_cons_zero, List.set_cons_succ]
          refine wpAnyE_ready (rs := [6]) (by kernel_rfl) (by simp) ?_
          refine AllReadyE.cons (by (simp only [List.getElem?_toArray, List.getElem?_cons_succ, List.getElem?_cons_zero]; rfl)) (fun K hK => ?_) AllReadyE.nil
          go_simp
          go_at_call 21
          refine (pick_mid (w0 := w3) (A := A) (c := c) (l := l) _ [0, 1, 2] ⟨_, _, M, by omega, by simp⟩ (by simp) (by simp)).mono ?_
          rintro e wa ⟨r1, rfl, N⟩
          replace M := N _ _ M
          clear N
          refine hK.out _ _ (MC.out _ _ _ M) (fun hNew => ?_)
          replace hHeld := hNew
          clear hK K hNew
          try simp only [Act.put, List.setIfInBounds_toArray, List.set_cons_zero, List.set_cons_succ]
          refine wpAnyE_ready (rs := [9]) (by kernel_rfl) (by simp) ?_
          refine AllReadyE.cons (by (simp only [List.getElem?_toArray, List.getElem?_cons_succ, List.getElem?_cons_zero]; rfl)) (fun K hK => ?_) AllReadyE.nil
          go_simp
          go_at_call 21
          refine (pick_mid (w0 := w3) (A := A) (c := c) (l := l) _ [0, -1] ⟨_, _, M, by omega, by simp⟩ (by simp) (by simp)).mono ?_
          rintro e wa ⟨r2, rfl, N⟩
          replace M := N _ _ M
          clear N
          refine hK.out _ _ (MC.out _ _ _ M) (fun hNew => ?_)
          replace hHeld := hNew
          clear hK K hNew
          try simp only [Act.put, List.setIfInBounds_toArray, List.set_cons_zero, List.set_cons_succ]
          refine wpAnyE_ready (rs := [12]) (by kernel_rfl) (by simp) ?_
          refine AllReadyE.cons (by (simp only [List.getElem?_toArray, List.getElem?_cons_succ, List.getElem?_cons_zero]; rfl)) (fun K hK => ?_) AllReadyE.nil
          go_simp
          go_at_call 21
          refine (pick_mid (w0 := w3) (A := A) (c := c) (l := l) _ [0, 5, -1] ⟨_, _, M, by omega, by simp⟩ (by simp) (by simp)).mono ?_
          rintro e wa ⟨r3, rfl, N⟩
          replace M := N _ _ M
          clear N
          refine hK.out _ _ (MC.out _ _ _ M) (fun hNew => ?_)
          replace hHeld := hNew
          clear hK K hNew
          try simp only [Act.put, List.setIfInBounds_toArray, List.set_cons_zero, List.set_cons_succ]
          refine wpAnyE_take (i := 13) (v := ?_) (by (simp only [List.getElem?_toArray, List.getElem?_cons_succ, List.getElem?_cons_zero]; rfl)) (by kernel_rfl) (by kernel_rfl) (by kernel_rfl) (by decide) (by exact fun _ _ _ h => h) (.inr hHeld) (Or.inl ⟨by rfl, ?_⟩) ?_
          rotate_left
          · (intro w' _; go_simp <;> with_reducible rfl)
          try simp only [Act.put, List.setIfInBounds_toArray, List.set_cons_zero, List.set_cons_succ]
          refine wpAnyE_ready (rs := [14]) (by kernel_rfl) (by simp) ?_
          refine AllReadyE.cons (by (simp only [List.getElem?_toArray, List.getElem?_cons_succ, List.getElem?_cons_zero]; rfl)) (fun K hK => ?_) AllReadyE.nil
          go_simp
          have ME := M.any (.cells #[.int .i64 r1, .int .i64 r2, .int .i64 r3] 84)
          refine hK.out _ _ (MC.out _ _ _ ME) (fun hNew => ?_)
          clear hK K hNew hHeld
          try simp only [Act.put, List.setIfInBounds_toArray, List.set_cons_zero, List.set_cons_succ]
          refine wpAnyE_ready (rs := [15]) (by kernel_rfl) (by simp) ?_
          refine AllReadyE.last (by (simp only [List.getElem?_toArray, List.getElem?_cons_succ, List.getElem?_cons_zero]; rfl)) (by kernel_rfl) (fun K hK => ?_) AllReadyE.nil
          refine step_append_re _ (by rfl) (.tmp 13) (.tmp 24) 104 (by rfl) w.heap.size 84 i0 (.agg #[.int .i64 0, .int .i64 0, .int .i64 0]) 24 Tryz.underlying104 hi hz0 hz1 hz2 rfl (.slice Au t[0].length cu) t[0].length (evs t[0]) (by rfl) ((OT.out _ _ _ M).alloc _) (some ⟨wa.heap.size, 0, none⟩) [⟨r1, r2, r3⟩] 1 _ (by rfl) (rdE_new wa ⟨r1, r2, r3⟩ _) (by unfold maxLen; simp only [List.length_singleton]; omega) (by simp only [List.length_singleton]; omega) (by have := M.gr.size; simp; omega) ?_
          intro v5 w5 o5 g5 hat5
          have M4 := ME
          have ot4 := oT3.kept M4.gr (fun b e => by (simp at e; omega))
          have rk := ot4.row.kept g5 (own_sep fun b hb e => by (simp only [Value.ownBlock, Option.some.injEq] at hb; subst hb; exact hu3 _ e rfl))
          have hf5 := rk.frozenAt 0
          have hc5 : w5.cell? ⟨gv, 0, none⟩ = some (.slice Au t[0].length cu) := (by rw [rk.cellAt 0 (by omega)]; exact hu)
          obtain ⟨D5, d5, hv5⟩ := own_shape o5
          rw [hv5] at o5 hat5
          rw [hv5]
          have HG := hide g5
          have HAT := hide hat5
          have HO := hide o5
          have OT4 := hide ot4
          clear g5 hat5 hv5 o5 rk ot4
          refine hK.out _ _ ?_
          clear hK K
          try simp only [Act.put, List.setIfInBounds_toArray, List.set_cons_zero, List.set_cons_succ]
          refine wpAnyE_take (i := 16) (v := ?_) (by (simp only [List.getElem?_toArray, List.getElem?_cons_succ, List.getElem?_cons_zero]; rfl)) (by kernel_rfl) (by kernel_rfl) (by kernel_rfl) (by decide) (by exact fun _ _ _ h => h) (.inl (by kernel_rfl)) (Or.inl ⟨by rfl, ?_⟩) ?_
          rotate_left
          · (intro w' _; go_simp <;> with_reducible rfl)
          try simp only [Act.put, List.setIfInBounds_toArray, List.set_cons_zero, List.set_cons_succ]
          refine wpAnyE_ready (rs := [17]) (by kernel_rfl) (by simp) ?_
          refine AllReadyE.last (by (simp only [List.getElem?_toArray, List.getElem?_cons_succ, List.getElem?_cons_zero]; rfl)) (by kernel_rfl) (fun K hK => ?_) AllReadyE.nil
          go_simp
          refine hK.out _ _ ?_
          clear hK K
          try simp only [Act.put, List.setIfInBounds_toArray, List.set_cons_zero, List.set_cons_succ]
          refine wpAnyE_done (by kernel_rfl) ?_ _
          go_wp2
          go_ret
          have oS := OT4.out.swap (es' := t[0] ++ [⟨r1, r2, r3⟩]) hu HG.out (fun b e => .inl e) (by rw [List.length_append, evs_append]; exact HO.out) (fun b hb => by
            rcases HAT.out with e | e
            · exact .inl (e.symm.trans hb)
            · rw [e] at hb; simp only [Option.some.injEq] at hb; exact .inr (Nat.le_of_eq hb))
          have rw4 := OT.out _ _ _ M4
          have G5 := grown_new (p := ⟨gv, 0, none⟩) hgv.1 (.slice D5 (t[0].length + 1) d5) ((G3.trans M4.gr).andThen HG.out (fun j hj => .inl (rw4.lt j hj).1))
          have hb5 := grown_below rw4 HG.out (by have := M4.gr.size; omega) (Nat.le_refl _)
          have S5 := (M4.src.below hb5 hgl).below (B := w.heap.size) ((Below.refl _ _).setCell (p := ⟨gv, 0, none⟩) hgv.1 (.slice D5 (t[0].length + 1) d5)) hgl
          exact ⟨t.set 0 (t[0] ++ [⟨r1, r2, r3⟩]), some ⟨gv, 0, none⟩, d, (by rw [List.length_set]; rfl), by rw [List.length_set]; omega, set_len hall20 (by rw [List.length_append]; simp; omega), fun w2 hg => (oS.kept hg (fun b e => by simp at e; omega)).rd_ (by rw [List.length_set]), k1 + 1 + 1 + 1 + 1, by omega, S5, G5⟩
        exact AllReadyE.nil
      refine AllReadyE.cons (by (simp only [List.getElem?_toArray, List.getElem?_cons_succ, List.getElem?_cons_zero]; rfl)) (fun K hK => ?_) ?_
      · skip
        go_simp
        replace M := Mid.al M 0 5 (-1)
        refine hK.out _ _ (MC.out _ _ _ M) (fun hNew => ?_)
        replace hHeld := hNew
        clear hK K hNew
        try simp only [Act.put, List.setIfInBounds_toArray, List.set_cons_zero, List.set_cons_succ]
        refine wpAnyE_ready (rs := [6, 8]) (by kernel_rfl) (by simp) ?_
        refine AllReadyE.cons (by (simp only [List.getElem?_toArray, List.getElem?_cons_succ, List.getElem?_cons_zero]; rfl)) (fun K hK => ?_) ?_
        · skip
          go_simp
          go_at_call 21
          refine (pick_mid (w0 := w3) (A := A) (c := c) (l := l) _ [0, 1, 2] ⟨_, _, M, by omega, by simp⟩ (by simp) (by simp)).mono ?_
          rintro e wa ⟨r1, rfl, N⟩
          replace M := N _ _ M
          clear N
          refine hK.out _ _ (MC.out _ _ _ M) (fun hNew => ?_)
          replace hHeld := hNew
          clear hK K hNew
          try simp only [Act.put, List.setIfInBounds_toArray, List.set_cons_zero, List.set_cons_succ]
          refine wpAnyE_ready (rs := [8]) (by kernel_rfl) (by simp) ?_
          refine AllReadyE.cons (by (simp only [List.getElem?_toArray, List.getElem?_cons_succ, List.getElem?_cons_zero]; rfl)) (fun K hK => ?_) AllReadyE.nil
          go_simp
          replace M := Mid.al2 M 0 (-1)
          refine hK.out _ _ (MC.out _ _ _ M) (fun hNew => ?_)
          replace hHeld := hNew
          clear hK K hNew
          try simp only [Act.put, List.setIfInBounds_toArray, List.set_cons_zero, List.set_cons_succ]
          refine wpAnyE_ready (rs := [9]) (by kernel_rfl) (by simp) ?_
          refine AllReadyE.cons (by (simp only [List.getElem?_toArray, List.getElem?_cons_succ, List.getElem?_cons_zero]; rfl)) (fun K hK => ?_) AllReadyE.nil
          go_simp
          go_at_call 21
          refine (pick_mid (w0 := w3) (A := A) (c := c) (l := l) _ [0, -1] ⟨_, _, M, by omega, by simp⟩ (by simp) (by simp)).mono ?_
          rintro e wa ⟨r2, rfl, N⟩
          replace M := N _ _ M
          clear N
          refine hK.out _ _ (MC.out _ _ _ M) (fun hNew => ?_)
          replace hHeld := hNew
          clear hK K hNew
          try simp only [Act.put, List.setIfInBounds_toArray, List.set_cons_zero, List.set_cons_succ]
          refine wpAnyE_ready (rs := [12]) (by kernel_rfl) (by simp) ?_
          refine AllReadyE.cons (by (simp only [List.getElem?_toArray, List.getElem?_cons_succ, List.getElem?_cons_zero]; rfl)) (fun K hK => ?_) AllReadyE.nil
          go_simp
          go_at_call 21
          refine (pick_mid (w0 := w3) (A := A) (c := c) (l := l) _ [0, 5, -1] ⟨_, _, M, by omega, by simp⟩ (by simp) (by simp)).mono ?_
          rintro e wa ⟨r3, rfl, N⟩
          replace M := N _ _ M
          clear N
          refine hK.out _ _ (MC.out _ _ _ M) (fun hNew => ?_)
          replace hHeld := hNew
          clear hK K hNew
          try simp only [Act.put, List.setIfInBounds_toArray, List.set_cons_zero, List.set_cons_succ]
          refine wpAnyE_take (i := 13) (v := ?_) (by (simp only [List.getElem?_toArray, List.getElem?_cons_succ, List.getElem?_cons_zero]; rfl)) (by kernel_rfl) (by kernel_rfl) (by kernel_rfl) (by decide) (by exact fun _ _ _ h => h) (.inr hHeld) (Or.inl ⟨by rfl, ?_⟩) ?_
          rotate_left
          · (intro w' _; go_simp <;> with_reducible rfl)
          try simp only [Act.put, List.setIfInBounds_toArray, List.set_cons_zero, List.set_cons_succ]
          refine wpAnyE_ready (rs := [14]) (by kernel_rfl) (by simp) ?_
          refine AllReadyE.cons (by (simp only [List.getElem?_toArray, List.getElem?_cons_succ, List.getElem?_cons_zero]; rfl)) (fun K hK => ?_) AllReadyE.nil
          go_simp
          have ME := M.any (.cells #[.int .i64 r1, .int .i64 r2, .int .i64 r3] 84)
          refine hK.out _ _ (MC.out _ _ _ ME) (fun hNew => ?_)
          clear hK K hNew hHeld
          try simp only [Act.put, List.setIfInBounds_toArray, List.set_cons_zero, List.set_cons_succ]
          refine wpAnyE_ready (rs := [15]) (by kernel_rfl) (by simp) ?_
          refine AllReadyE.last (by (simp only [List.getElem?_toArray, List.getElem?_cons_succ, List.getElem?_cons_zero]; rfl)) (by kernel_rfl) (fun K hK => ?_) AllReadyE.nil
          refine step_append_re _ (by rfl) (.tmp 13) (.tmp 24) 104 (by rfl) w.heap.size 84 i0 (.agg #[.int .i64 0, .int .i64 0, .int .i64 0]) 24 Tryz.underlying104 hi hz0 hz1 hz2 rfl (.slice Au t[0].length cu) t[0].length (evs t[0]) (by rfl) ((OT.out _ _ _ M).alloc _) (some ⟨wa.heap.size, 0, none⟩) [⟨r1, r2, r3⟩] 1 _ (by rfl) (rdE_new wa ⟨r1, r2, r3⟩ _) (by unfold maxLen; simp only [List.length_singleton]; omega) (by simp only [List.length_singleton]; omega) (by have := M.gr.size; simp; omega) ?_
          intro v5 w5 o5 g5 hat5
          have M4 := ME
          have ot4 := oT3.kept M4.gr (fun b e => by (simp at e; omega))
          have rk := ot4.row.kept g5 (own_sep fun b hb e => by (simp only [Value.ownBlock, Option.some.injEq] at hb; subst hb; exact hu3 _ e rfl))
          have hf5 := rk.frozenAt 0
          have hc5 : w5.cell? ⟨gv, 0, none⟩ = some (.slice Au t[0].length cu) := (by rw [rk.cellAt 0 (by omega)]; exact hu)
          obtain ⟨D5, d5, hv5⟩ := own_shape o5
          rw [hv5] at o5 hat5
          rw [hv5]
          have HG := hide g5
          have HAT := hide hat5
          have HO := hide o5
          have OT4 := hide ot4
          clear g5 hat5 hv5 o5 rk ot4
          refine hK.out _ _ ?_
          clear hK K
          try simp only [Act.put, List.setIfInBounds_toArray, List.set_cons_zero, List.set_cons_succ]
          refine wpAnyE_take (i := 16) (v := ?_) (by (simp only [List.getElem?_toArray, List.getElem?_cons_succ, List.getElem?_cons_zero]; rfl)) (by kernel_rfl) (by kernel_rfl) (by kernel_rfl) (by decide) (by exact fun _ _ _ h => h) (.inl (by kernel_rfl)) (Or.inl ⟨by rfl, ?_⟩) ?_
          rotate_left
          · (intro w' _; go_simp <;> with_reducible rfl)
          try simp only [Act.put, List.setIfInBounds_toArray, List.set_cons_zero, List.set_cons_succ]
          refine wpAnyE_ready (rs := [17]) (by kernel_rfl) (by simp) ?_
          refine AllReadyE.last (by (simp only [List.getElem?_toArray, List.getElem?_cons_succ, List.getElem?_cons_zero]; rfl)) (by kernel_rfl) (fun K hK => ?_) AllReadyE.nil
          go_simp
          refine hK.out _ _ ?_
          clear hK K
          try simp only [Act.put, List.setIfInBounds_toArray, List.set_cons_zero, List.set_cons_succ]
          refine wpAnyE_done (by kernel_rfl) ?_ _
          go_wp2
          go_ret
          have oS := OT4.out.swap (es' := t[0] ++ [⟨r1, r2, r3⟩]) hu HG.out (fun b e => .inl e) (by rw [List.length_append, evs_append]; exact HO.out) (fun b hb => by
            rcases HAT.out with e | e
            · exact .inl (e.symm.trans hb)
            · rw [e] at hb; simp only [Option.some.injEq] at hb; exact .inr (Nat.le_of_eq hb))
          have rw4 := OT.out _ _ _ M4
          have G5 := grown_new (p := ⟨gv, 0, none⟩) hgv.1 (.slice D5 (t[0].length + 1) d5) ((G3.trans M4.gr).andThen HG.out (fun j hj => .inl (rw4.lt j hj).1))
          have hb5 := grown_below rw4 HG.out (by have := M4.gr.size; omega) (Nat.le_refl _)
          have S5 := (M4.src.below hb5 hgl).below (B := w.heap.size) ((Below.refl _ _).setCell (p := ⟨gv, 0, none⟩) hgv.1 (.slice D5 (t[0].length + 1) d5)) hgl
          exact ⟨t.set 0 (t[0] ++ [⟨r1, r2, r3⟩]), some ⟨gv, 0, none⟩, d, (by rw [List.length_set]; rfl), by rw [List.length_set]; omega, set_len hall20 (by rw [List.length_append]; simp; omega), fun w2 hg => (oS.kept hg (fun b e => by simp at e; omega)).rd_ (by rw [List.length_set]), k1 + 1 + 1 + 1 + 1, by omega, S5, G5⟩
        refine AllReadyE.cons (by (simp only [List.getElem?_toArray, List.getElem?_cons_succ, List.getElem?_cons_zero]; rfl)) (fun K hK => ?_) ?_
        · skip
          go_simp
          replace M := Mid.al2 M 0 (-1)
          refine hK.out _ _ (MC.out _ _ _ M) (fun hNew => ?_)
          replace hHeld := hNew
          clear hK K hNew
          try simp only [Act.put, List.setIfInBounds_toArray, List.set_cons_zero, List.set_cons_succ]
          refine wpAnyE_ready (rs := [6]) (by kernel_rfl) (by simp) ?_
          refine AllReadyE.cons (by (simp only [List.getElem?_toArray, List.getElem?_cons_succ, List.getElem?_cons_zero]; rfl)) (fun K hK => ?_) AllReadyE.nil
          go_simp
          go_at_call 21
          refine (pick_mid (w0 := w3) (A := A) (c := c) (l := l) _ [0, 1, 2] ⟨_, _, M, by omega, by simp⟩ (by simp) (by simp)).mono ?_
          rintro e wa ⟨r1, rfl, N⟩
          replace M := N _ _ M
          clear N
          refine hK.out _ _ (MC.out _ _ _ M) (fun hNew => ?_)
          replace hHeld := hNew
          clear hK K hNew
          try simp only [Act.put, List.setIfInBounds_toArray, List.set_cons_zero, List.set_cons_succ]
          refine wpAnyE_ready (rs := [9]) (by kernel_rfl) (by simp) ?_
          refine AllReadyE.cons (by (simp only [List.getElem?_toArray, List.getElem?_cons_succ, List.getElem?_cons_zero]; rfl)) (fun K hK => ?_) AllReadyE.nil
          go_simp
          go_at_call 21
          refine (pick_mid (w0 := w3) (A := A) (c := c) (l := l) _ [0, -1] ⟨_, _, M, by omega, by simp⟩ (by simp) (by simp)).mono ?_
          rintro e wa ⟨r2, rfl, N⟩
          replace M := N _ _ M
          clear N
          refine hK.out _ _ (MC.out _ _ _ M) (fun hNew => ?_)
          replace hHeld := hNew
          clear hK K hNew
          try simp only [Act.put, List.setIfInBounds_toArray, List.set_cons_zero, List.set_cons_succ]
          refine wpAnyE_ready (rs := [12]) (by kernel_rfl) (by simp) ?_
          refine AllReadyE.cons (by (simp only [List.getElem?_toArray, List.getElem?_cons_succ, List.getElem?_cons_zero]; rfl)) (fun K hK => ?_) AllReadyE.nil
          go_simp
          go_at_call 21
          refine (pick_mid (w0 := w3) (A := A) (c := c) (l := l) _ [0, 5, -1] ⟨_, _, M, by omega, by simp⟩ (by simp) (by simp)).mono ?_
          rintro e wa ⟨r3, rfl, N⟩
          replace M := N _ _ M
          clear N
          refine hK.out _ _ (MC.out _ _ _ M) (fun hNew => ?_)
          replace hHeld := hNew
          clear hK K hNew
          try simp only [Act.put, List.setIfInBounds_toArray, List.set_cons_zero, List.set_cons_succ]
          refine wpAnyE_take (i := 13) (v := ?_) (by (simp only [List.getElem?_toArray, List.getElem?_cons_succ, List.getElem?_cons_zero]; rfl)) (by kernel_rfl) (by kernel_rfl) (by kernel_rfl) (by decide) (by exact fun _ _ _ h => h) (.inr hHeld) (Or.inl ⟨by rfl, ?_⟩) ?_
          rotate_left
          · (intro w' _; go_simp <;> with_reducible rfl)
          try simp only [Act.put, List.setIfInBounds_toArray, List.set_cons_zero, List.set_cons_succ]
          refine wpAnyE_ready (rs := [14]) (by kernel_rfl) (by simp) ?_
          refine AllReadyE.cons (by (simp only [List.getElem?_toArray, List.getElem?_cons_succ, List.getElem?_cons_zero]; rfl)) (fun K hK => ?_) AllReadyE.nil
          go_simp
          have ME := M.any (.cells #[.int .i64 r1, .int .i64 r2, .int .i64 r3] 84)
          refine hK.out _ _ (MC.out _ _ _ ME) (fun hNew => ?_)
          clear hK K hNew hHeld
          try simp only [Act.put, List.setIfInBounds_toArray, List.set_cons_zero, List.set_cons_succ]
          refine wpAnyE_ready (rs := [15]) (by kernel_rfl) (by simp) ?_
          refine AllReadyE.last (by (simp only [List.getElem?_toArray, List.getElem?_cons_succ, List.getElem?_cons_zero]; rfl)) (by kernel_rfl) (fun K hK => ?_) AllReadyE.nil
          refine step_append_re _ (by rfl) (.tmp 13) (.tmp 24) 104 (by rfl) w.heap.size 84 i0 (.agg #[.int .i64 0, .int .i64 0, .int .i64 0]) 24 Tryz.underlying104 hi hz0 hz1 hz2 rfl (.slice Au t[0].length cu) t[0].length (evs t[0]) (by rfl) ((OT.out _ _ _ M).alloc _) (some ⟨wa.heap.size, 0, none⟩) [⟨r1, r2, r3⟩] 1 _ (by rfl) (rdE_new wa ⟨r1, r2, r3⟩ _) (by unfold maxLen; simp only [List.length_singleton]; omega) (by simp only [List.length_singleton]; omega) (by have := M.gr.size; simp; omega) ?_
          intro v5 w5 o5 g5 hat5
          have M4 := ME
          have ot4 := oT3.kept M4.gr (fun b e => by (simp at e; omega))
          have rk := ot4.row.kept g5 (own_sep fun b hb e => by (simp only [Value.ownBlock, Option.some.injEq] at hb; subst hb; exact hu3 _ e rfl))
          have hf5 := rk.frozenAt 0
          have hc5 : w5.cell? ⟨gv, 0, none⟩ = some (.slice Au t[0].length cu) := (by rw [rk.cellAt 0 (by omega)]; exact hu)
          obtain ⟨D5, d5, hv5⟩ := own_shape o5
          rw [hv5] at o5 hat5
          rw [hv5]
          have HG := hide g5
          have HAT := hide hat5
          have HO := hide o5
          have OT4 := hide ot4
          clear g5 hat5 hv5 o5 rk ot4
          refine hK.out _ _ ?_
          clear hK K
          try simp only [Act.put, List.setIfInBounds_toArray, List.set_cons_zero, List.set_cons_succ]
          refine wpAnyE_take (i := 16) (v := ?_) (by (simp only [List.getElem?_toArray, List.getElem?_cons_succ, List.getElem?_cons_zero]; rfl)) (by kernel_rfl) (by kernel_rfl) (by kernel_rfl) (by decide) (by exact fun _ _ _ h => h) (.inl (by kernel_rfl)) (Or.inl ⟨by rfl, ?_⟩) ?_
          rotate_left
          · (intro w' _; go_simp <;> with_reducible rfl)
          try simp only [Act.put, List.setIfInBounds_toArray, List.set_cons_zero, List.set_cons_succ]
          refine wpAnyE_ready (rs := [17]) (by kernel_rfl) (by simp) ?_
          refine AllReadyE.last (by (simp only [List.getElem?_toArray, List.getElem?_cons_succ, List.getElem?_cons_zero]; rfl)) (by kernel_rfl) (fun K hK => ?_) AllReadyE.nil
          go_simp
          refine hK.out _ _ ?_
          clear hK K
          try simp only [Act.put, List.setIfInBounds_toArray, List.set_cons_zero, List.set_cons_succ]
          refine wpAnyE_done (by kernel_rfl) ?_ _
          go_wp2
          go_ret
          have oS := OT4.out.swap (es' := t[0] ++ [⟨r1, r2, r3⟩]) hu HG.out (fun b e => .inl e) (by rw [List.length_append, evs_append]; exact HO.out) (fun b hb => by
            rcases HAT.out with e | e
            · exact .inl (e.symm.trans hb)
            · rw [e] at hb; simp only [Option.some.injEq] at hb; exact .inr (Nat.le_of_eq hb))
          have rw4 := OT.out _ _ _ M4
          have G5 := grown_new (p := ⟨gv, 0, none⟩) hgv.1 (.slice D5 (t[0].length + 1) d5) ((G3.trans M4.gr).andThen HG.out (fun j hj => .inl (rw4.lt j hj).1))
          have hb5 := grown_below rw4 HG.out (by have := M4.gr.size; omega) (Nat.le_refl _)
          have S5 := (M4.src.below hb5 hgl).below (B := w.heap.size) ((Below.refl _ _).setCell (p := ⟨gv, 0, none⟩) hgv.1 (.slice D5 (t[0].length + 1) d5)) hgl
          exact ⟨t.set 0 (t[0] ++ [⟨r1, r2, r3⟩]), some ⟨gv, 0, none⟩, d, (by rw [List.length_set]; rfl), by rw [List.length_set]; omega, set_len hall20 (by rw [List.length_append]; simp; omega), fun w2 hg => (oS.kept hg (fun b e => by simp at e; omega)).rd_ (by rw [List.length_set]), k1 + 1 + 1 + 1 + 1, by omega, S5, G5⟩
        exact AllReadyE.nil
      exact AllReadyE.nil
    refine AllReadyE.cons (by (simp only [List.getElem?_toArray, List.getElem?_cons_succ, List.getElem?_cons_zero]; rfl)) (fun K hK => ?_) ?_
    · skip
      go_simp
      replace M := Mid.al2 M 0 (-1)
      refine hK.out _ _ (MC.out _ _ _ M) (fun hNew => ?_)
      replace hHeld := hNew
      clear hK K hNew
      try simp only [Act.put, List.setIfInBounds_toArray, List.set_cons_zero, List.set_cons_succ]
      refine wpAnyE_ready (rs := [5, 11]) (by kernel_rfl) (by simp) ?_
      refine AllReadyE.cons (by (simp only [List.getElem?_toArray, List.getElem?_cons_succ, List.getElem?_cons_zero]; rfl)) (fun K hK => ?_) ?_
      · skip
        go_simp
        replace M := Mid.al M 0 1 2
        refine hK.out _ _ (MC.out _ _ _ M) (fun hNew => ?_)
        replace hHeld := hNew
        clear hK K hNew
        try simp only [Act.put, List.setIfInBounds_toArray, List.set_cons_zero, List.set_cons_succ]
        refine wpAnyE_ready (rs := [6, 11]) (by kernel_rfl) (by simp) ?_
        refine AllReadyE.cons (by (simp only [List.getElem?_toArray, List.getElem?_cons_succ, List.getElem?_cons_zero]; rfl)) (fun K hK => ?_) ?_
        · skip
          go_simp
          go_at_call 21
          refine (pick_mid (w0 := w3) (A := A) (c := c) (l := l) _ [0, 1, 2] ⟨_, _, M, by omega, by simp⟩ (by simp) (by simp)).mono ?_
          rintro e wa ⟨r1, rfl, N⟩
          replace M := N _ _ M
          clear N
          refine hK.out _ _ (MC.out _ _ _ M) (fun hNew => ?_)
          replace hHeld := hNew
          clear hK K hNew
          try simp only [Act.put, List.setIfInBounds_toArray, List.set_cons_zero, List.set_cons_succ]
          refine wpAnyE_ready (rs := [9, 11]) (by kernel_rfl) (by simp) ?_
          refine AllReadyE.cons (by (simp only [List.getElem?_toArray, List.getElem?_cons_succ, List.getElem?_cons_zero]; rfl)) (fun K hK => ?_) ?_
          · skip
            go_simp
            go_at_call 21
            refine (pick_mid (w0 := w3) (A := A) (c := c) (l := l) _ [0, -1] ⟨_, _, M, by omega, by simp⟩ (by simp) (by simp)).mono ?_
            rintro e wa ⟨r2, rfl, N⟩
            replace M := N _ _ M
            clear N
            refine hK.out _ _ (MC.out _ _ _ M) (fun hNew => ?_)
            replace hHeld := hNew
            clear hK K hNew
            try simp only [Act.put, List.setIfInBounds_toArray, List.set_cons_zero, List.set_cons_succ]
            refine wpAnyE_ready (rs := [11]) (by kernel_rfl) (by simp) ?_
            refine AllReadyE.cons (by (simp only [List.getElem?_toArray, List.getElem?_cons_succ, List.getElem?_cons_zero]; rfl)) (fun K hK => ?_) AllReadyE.nil
            go_simp
            replace M := Mid.al M 0 5 (-1)
            refine hK.out _ _ (MC.out _ _ _ M) (fun hNew => ?_)
            replace hHeld := hNew
            clear hK K hNew
            try simp only [Act.put, List.setIfInBounds_toArray, List.set_cons_zero, List.set_cons_succ]
            refine wpAnyE_ready (rs := [12]) (by kernel_rfl) (by simp) ?_
            refine AllReadyE.cons (by (simp only [List.getElem?_toArray, List.getElem?_cons_succ, List.getElem?_cons_zero]; rfl)) (fun K hK => ?_) AllReadyE.nil
            go_simp
            go_at_call 21
            refine (pick_mid (w0 := w3) (A := A) (c := c) (l := l) _ [0, 5, -1] ⟨_, _, M, by omega, by simp⟩ (by simp) (by simp)).mono ?_
            rintro e wa ⟨r3, rfl, N⟩
            replace M := N _ _ M
            clear N
            refine hK.out _ _ (MC.out _ _ _ M) (fun hNew => ?_)
            replace hHeld := hNew
            clear hK K hNew
            try simp only [Act.put, List.setIfInBounds_toArray, List.set_cons_zero, List.set_cons_succ]
            refine wpAnyE_take (i := 13) (v := ?_) (by (simp only [List.getElem?_toArray, List.getElem?_cons_succ, List.getElem?_cons_zero]; rfl)) (by kernel_rfl) (by kernel_rfl) (by kernel_rfl) (by decide) (by exact fun _ _ _ h => h) (.inr hHeld) (Or.inl ⟨by rfl, ?_⟩) ?_
            rotate_left
            · (intro w' _; go_simp <;> with_reducible rfl)
            try simp only [Act.put, List.setIfInBounds_toArray, List.set_cons_zero, List.set_cons_succ]
            refine wpAnyE_ready (rs := [14]) (by kernel_rfl) (by simp) ?_
            refine AllReadyE.cons (by (simp only [List.getElem?_toArray, List.getElem?_cons_succ, List.getElem?_cons_zero]; rfl)) (fun K hK => ?_) AllReadyE.nil
            go_simp
            have ME := M.any (.cells #[.int .i64 r1, .int .i64 r2, .int .i64 r3] 84)
            refine hK.out _ _ (MC.out _ _ _ ME) (fun hNew => ?_)
            clear hK K hNew hHeld
            try simp only [Act.put, List.setIfInBounds_toArray, List.set_cons_zero, List.set_cons_succ]
            refine wpAnyE_ready (rs := [15]) (by kernel_rfl) (by simp) ?_
            refine AllReadyE.last (by (simp only [List.getElem?_toArray, List.getElem?_cons_succ, List.getElem?_cons_zero]; rfl)) (by kernel_rfl) (fun K hK => ?_) AllReadyE.nil
            refine step_append_re _ (by rfl) (.tmp 13) (.tmp 24) 104 (by rfl) w.heap.size 84 i0 (.agg #[.int .i64 0, .int .i64 0, .int .i64 0]) 24 Tryz.underlying104 hi hz0 hz1 hz2 rfl (.slice Au t[0].length cu) t[0].length (evs t[0]) (by rfl) ((OT.out _ _ _ M).alloc _) (some ⟨wa.heap.size, 0, none⟩) [⟨r1, r2, r3⟩] 1 _ (by rfl) (rdE_new wa ⟨r1, r2, r3⟩ _) (by unfold maxLen; simp only [List.length_singleton]; omega) (by simp only [List.length_singleton]; omega) (by have := M.gr.size; simp; omega) ?_
            intro v5 w5 o5 g5 hat5
            have M4 := ME
            have ot4 := oT3.kept M4.gr (fun b e => by (simp at e; omega))
            have rk := ot4.row.kept g5 (own_sep fun b hb e => by (simp only [Value.ownBlock, Option.some.injEq] at hb; subst hb; exact hu3 _ e rfl))
            have hf5 := rk.frozenAt 0
            have hc5 : w5.cell? ⟨gv, 0, none⟩ = some (.slice Au t[0].length cu) := (by rw [rk.cellAt 0 (by omega)]; exact hu)
            obtain ⟨D5, d5, hv5⟩ := own_shape o5
            rw [hv5] at o5 hat5
            rw [hv5]
            have HG := hide g5
            have HAT := hide hat5
            have HO := hide o5
            have OT4 := hide ot4
            clear g5 hat5 hv5 o5 rk ot4
            refine hK.out _ _ ?_
            clear hK K
            try simp only [Act.put, List.setIfInBounds_toArray, List.set_cons_zero, List.set_cons_succ]
            refine wpAnyE_take (i := 16) (v := ?_) (by (simp only [List.getElem?_toArray, List.getElem?_cons_succ, List.getElem?_cons_zero]; rfl)) (by kernel_rfl) (by kernel_rfl) (by kernel_rfl) (by decide) (by exact fun _ _ _ h => h) (.inl (by kernel_rfl)) (Or.inl ⟨by rfl, ?_⟩) ?_
            rotate_left
            · (intro w' _; go_simp <;> with_reducible rfl)
            try simp only [Act.put, List.setIfInBounds_toArray, List.set_cons_zero, List.set_cons_succ]
            refine wpAnyE_ready (rs := [17]) (by kernel_rfl) (by simp) ?_
            refine AllReadyE.last (by (simp only [List.getElem?_toArray, List.getElem?_cons_succ, List.getElem?_cons_zero]; rfl)) (by kernel_rfl) (fun K hK => ?_) AllReadyE.nil
            go_simp
            refine hK.out _ _ ?_
            clear hK K
            try simp only [Act.put, List.setIfInBounds_toArray, List.set_cons_zero, List.set_cons_succ]
            refine wpAnyE_done (by kernel_rfl) ?_ _
            go_wp2
            go_ret
            have oS := OT4.out.swap (es' := t[0] ++ [⟨r1, r2, r3⟩]) hu HG.out (fun b e => .inl e) (by rw [List.length_append, evs_append]; exact HO.out) (fun b hb => by
              rcases HAT.out with e | e
              · exact .inl (e.symm.trans hb)
              · rw [e] at hb; simp only [Option.some.injEq] at hb; exact .inr (Nat.le_of_eq hb))
            have rw4 := OT.out _ _ _ M4
            have G5 := grown_new (p := ⟨gv, 0, none⟩) hgv.1 (.slice D5 (t[0].length + 1) d5) ((G3.trans M4.gr).andThen HG.out (fun j hj => .inl (rw4.lt j hj).1))
            have hb5 := grown_below rw4 HG.out (by have := M4.gr.size; omega) (Nat.le_refl _)
            have S5 := (M4.src.below hb5 hgl).below (B := w.heap.size) ((Below.refl _ _).setCell (p := ⟨gv, 0, none⟩) hgv.1 (.slice D5 (t[0].length + 1) d5)) hgl
            exact ⟨t.set 0 (t[0] ++ [⟨r1, r2, r3⟩]), some ⟨gv, 0, none⟩, d, (by rw [List.length_set]; rfl), by rw [List.length_set]; omega, set_len hall20 (by rw [List.length_append]; simp; omega), fun w2 hg => (oS.kept hg (fun b e => by simp at e; omega)).rd_ (by rw [List.length_set]), k1 + 1 + 1 + 1 + 1, by omega, S5, G5⟩
          refine AllReadyE.cons (by (simp only [List.getElem?_toArray, List.getElem?_cons_succ, List.getElem?_cons_zero]; rfl)) (fun K hK => ?_) ?_
          · skip
            go_simp
            replace M := Mid.al M 0 5 (-1)
            refine hK.out _ _ (MC.out _ _ _ M) (fun hNew => ?_)
            replace hHeld := hNew
            clear hK K hNew
            try simp only [Act.put, List.setIfInBounds_toArray, List.set_cons_zero, List.set_cons_succ]
            refine wpAnyE_ready (rs := [9]) (by kernel_rfl) (by simp) ?_
            refine AllReadyE.cons (by (simp only [List.getElem?_toArray, List.getElem?_cons_succ, List.getElem?_cons_zero]; rfl)) (fun K hK => ?_) AllReadyE.nil
            go_simp
            go_at_call 21
            refine (pick_mid (w0 := w3) (A := A) (c := c) (l := l) _ [0, -1] ⟨_, _, M, by omega, by simp⟩ (by simp) (by simp)).mono ?_
            rintro e wa ⟨r2, rfl, N⟩
            replace M := N _ _ M
            clear N
            refine hK.out _ _ (MC.out _ _ _ M) (fun hNew => ?_)
            replace hHeld := hNew
            clear hK K hNew
            try simp only [Act.put, List.setIfInBounds_toArray, List.set_cons_zero, List.set_cons_succ]
            refine wpAnyE_ready (rs := [12]) (by kernel_rfl) (by simp) ?_
            refine AllReadyE.cons (by (simp only [List.getElem?_toArray, List.getElem?_cons_succ, List.getElem?_cons_zero]; rfl)) (fun K hK => ?_) AllReadyE.nil
            go_simp
            go_at_call 21
            refine (pick_mid (w0 := w3) (A := A) (c := c) (l := l) _ [0, 5, -1] ⟨_, _, M, by omega, by simp⟩ (by simp) (by simp)).mono ?_
            rintro e wa ⟨r3, rfl, N⟩
            replace M := N _ _ M
            clear N
            refine hK.out _ _ (MC.out _ _ _ M) (fun hNew => ?_)
            replace hHeld := hNew
            clear hK K hNew
            try simp only [Act.put, List.setIfInBounds_toArray, List.set_cons_zero, List.set_cons_succ]
            refine wpAnyE_take (i := 13) (v := ?_) (by (simp only [List.getElem?_toArray, List.getElem?_cons_succ, List.getElem?_cons_zero]; rfl)) (by kernel_rfl) (by kernel_rfl) (by kernel_rfl) (by decide) (by exact fun _ _ _ h => h) (.inr hHeld) (Or.inl ⟨by rfl, ?_⟩) ?_
            rotate_left
            · (intro w' _; go_simp <;> with_reducible rfl)
            try simp only [Act.put, List.setIfInBounds_toArray, List.set_cons_zero, List.set_cons_succ]
            refine wpAnyE_ready (rs := [14]) (by kernel_rfl) (by simp) ?_
            refine AllReadyE.cons (by (simp only [List.getElem?_toArray, List.getElem?_cons_succ, List.getElem?_cons_zero]; rfl)) (fun K hK => ?_) AllReadyE.nil
            go_simp
            have ME := M.any (.cells #[.int .i64 r1, .int .i64 r2, .int .i64 r3] 84)
            refine hK.out _ _ (MC.out _ _ _ ME) (fun hNew => ?_)
            clear hK K hNew hHeld
            try simp only [Act.put, List.setIfInBounds_toArray, List.set_cons_zero, List.set_cons_succ]
            refine wpAnyE_ready (rs := [15]) (by kernel_rfl) (by simp) ?_
            refine AllReadyE.last (by (simp only [List.getElem?_toArray, List.getElem?_cons_succ, List.getElem?_cons_zero]; rfl)) (by kernel_rfl) (fun K hK => ?_) AllReadyE.nil
            refine step_append_re _ (by rfl) (.tmp 13) (.tmp 24) 104 (by rfl) w.heap.size 84 i0 (.agg #[.int .i64 0, .int .i64 0, .int .i64 0]) 24 Tryz.underlying104 hi hz0 hz1 hz2 rfl (.slice Au t[0].length cu) t[0].length (evs t[0]) (by rfl) ((OT.out _ _ _ M).alloc _) (some ⟨wa.heap.size, 0, none⟩) [⟨r1, r2, r3⟩] 1 _ (by rfl) (rdE_new wa ⟨r1, r2, r3⟩ _) (by unfold maxLen; simp only [List.length_singleton]; omega) (by simp only [List.length_singleton]; omega) (by have := M.gr.size; simp; omega) ?_
            intro v5 w5 o5 g5 hat5
            have M4 := ME
            have ot4 := oT3.kept M4.gr (fun b e => by (simp at e; omega))
            have rk := ot4.row.kept g5 (own_sep fun b hb e => by (simp only [Value.ownBlock, Option.some.injEq] at hb; subst hb; exact hu3 _ e rfl))
            have hf5 := rk.frozenAt 0
            have hc5 : w5.cell? ⟨gv, 0, none⟩ = some (.slice Au t[0].length cu) := (by rw [rk.cellAt 0 (by omega)]; exact hu)
            obtain ⟨D5, d5, hv5⟩ := own_shape o5
            rw [hv5] at o5 hat5
            rw [hv5]
            have HG := hide g5
            have HAT := hide hat5
            have HO := hide o5
            have OT4 := hide ot4
            clear g5 hat5 hv5 o5 rk ot4
            refine hK.out _ _ ?_
            clear hK K
            try simp only [Act.put, List.setIfInBounds_toArray, List.set_cons_zero, List.set_cons_succ]
            refine wpAnyE_take (i := 16) (v := ?_) (by (simp only [List.getElem?_toArray, List.getElem?_cons_succ, List.getElem?_cons_zero]; rfl)) (by kernel_rfl) (by kernel_rfl) (by kernel_rfl) (by decide) (by exact fun _ _ _ h => h) (.inl (by kernel_rfl)) (Or.inl ⟨by rfl, ?_⟩) ?_
            rotate_left
            · (intro w' _; go_simp <;> with_reducible rfl)
            try simp only [Act.put, List.setIfInBounds_toArray, List.set_cons_zero, List.set_cons_succ]
            refine wpAnyE_ready (rs := [17]) (by kernel_rfl) (by simp) ?_
            refine AllReadyE.last (by (simp only [List.getElem?_toArray, List.getElem?_cons_succ, List.getElem?_cons_zero]; rfl)) (by kernel_rfl) (fun K hK => ?_) AllReadyE.nil
            go_simp
            refine hK.out _ _ ?_
            clear hK K
            try simp only [Act.put, List.setIfInBounds_toArray, List.set_cons_zero, List.set_cons_succ]
            refine wpAnyE_done (by kernel_rfl) ?_ _
            go_wp2
            go_ret
            have oS := OT4.out.swap (es' := t[0] ++ [⟨r1, r2, r3⟩]) hu HG.out (fun b e => .inl e) (by rw [List.length_append, evs_append]; exact HO.out) (fun b hb => by
              rcases HAT.out with e | e
              · exact .inl (e.symm.trans hb)
              · rw [e] at hb; simp only [Option.some.injEq] at hb; exact .inr (Nat.le_of_eq hb))
            have rw4 := OT.out _ _ _ M4
            have G5 := grown_new (p := ⟨gv, 0, none⟩) hgv.1 (.slice D5 (t[0].length + 1) d5) ((G3.trans M4.gr).andThen HG.out (fun j hj => .inl (rw4.lt j hj).1))
            have hb5 := grown_below rw4 HG.out (by have := M4.gr.size; omega) (Nat.le_refl _)
            have S5 := (M4.src.below hb5 hgl).below (B := w.heap.size) ((Below.refl _ _).setCell (p := ⟨gv, 0, none⟩) hgv.1 (.slice D5 (t[0].length + 1) d5)) hgl
            exact ⟨t.set 0 (t[0] ++ [⟨r1, r2, r3⟩]), some ⟨gv, 0, none⟩, d, (by rw [List.length_set]; rfl), by rw [List.length_set]; omega, set_len hall20 (by rw [List.length_append]; simp; omega), fun w2 hg => (oS.kept hg (fun b e => by simp at e; omega)).rd_ (by rw [List.length_set]), k1 + 1 + 1 + 1 + 1, by omega, S5, G5⟩
          exact AllReadyE.nil
        refine AllReadyE.cons (by (simp only [List.getElem?_toArray, List.getElem?_cons_succ, List.getElem?_cons_zero]; rfl)) (fun K hK => ?_) ?_
        · skip
          go_simp
          replace M := Mid.al M 0 5 (-1)
          refine hK.out _ _ (MC.out _ _ _ M) (fun hNew => ?_)
          replace hHeld := hNew
          clear hK K hNew
          try simp only [Act.put, List.setIfInBounds_toArray, List.set_cons_zero, List.set_cons_succ]
          refine wpAnyE_ready (rs := [6]) (by kernel_rfl) (by simp) ?_
          refine AllReadyE.cons (by (simp only [List.getElem?_toArray, List.getElem?_cons_succ, List.getElem?_cons_zero]; rfl)) (fun K hK => ?_) AllReadyE.nil
          go_simp
          go_at_call 21
          refine (pick_mid (w0 := w3) (A := A) (c := c) (l := l) _ [0, 1, 2] ⟨_, _, M, by omega, by simp⟩ (by simp) (by simp)).mono ?_
          rintro e wa ⟨r1, rfl, N⟩
          replace M := N _ _ M
          clear N
          refine hK.out _ _ (MC.out _ _ _ M) (fun hNew => ?_)
          replace hHeld := hNew
          clear hK K hNew
          try simp only [Act.put, List.setIfInBounds_toArray, List.set_cons_zero, List.set_cons_succ]
          refine wpAnyE_ready (rs := [9]) (by kernel_rfl) (by simp) ?_
          refine AllReadyE.cons (by (simp only [List.getElem?_toArray, List.getElem?_cons_succ, List.getElem?_cons_zero]; rfl)) (fun K hK => ?_) AllReadyE.nil
          go_simp
          go_at_call 21
          refine (pick_mid (w0 := w3) (A := A) (c := c) (l := l) _ [0, -1] ⟨_, _, M, by omega, by simp⟩ (by simp) (by simp)).mono ?_
          rintro e wa ⟨r2, rfl, N⟩
          replace M := N _ _ M
          clear N
          refine hK.out _ _ (MC.out _ _ _ M) (fun hNew => ?_)
          replace hHeld := hNew
          clear hK K hNew
          try simp only [Act.put, List.setIfInBounds_toArray, List.set_cons_zero, List.set_cons_succ]
          refine wpAnyE_ready (rs := [12]) (by kernel_rfl) (by simp) ?_
          refine AllReadyE.cons (by (simp only [List.getElem?_toArray, List.getElem?_cons_succ, List.getElem?_cons_zero]; rfl)) (fun K hK => ?_) AllReadyE.nil
          go_simp
          go_at_call 21
          refine (pick_mid (w0 := w3) (A := A) (c := c) (l := l) _ [0, 5, -1] ⟨_, _, M, by omega, by simp⟩ (by simp) (by simp)).mono ?_
          rintro e wa ⟨r3, rfl, N⟩
          replace M := N _ _ M
          clear N
          refine hK.out _ _ (MC.out _ _ _ M) (fun hNew => ?_)
          replace hHeld := hNew
          clear hK K hNew
          try simp only [Act.put, List.setIfInBounds_toArray, List.set_cons_zero, List.set_cons_succ]
          refine wpAnyE_take (i := 13) (v := ?_) (by (simp only [List.getElem?_toArray, List.getElem?_cons_succ, List.getElem?_cons_zero]; rfl)) (by kernel_rfl) (by kernel_rfl) (by kernel_rfl) (by decide) (by exact fun _ _ _ h => h) (.inr hHeld) (Or.inl ⟨by rfl, ?_⟩) ?_
          rotate_left
          · (intro w' _; go_simp <;> with_reducible rfl)
          try simp only [Act.put, List.setIfInBounds_toArray, List.set_cons_zero, List.set_cons_succ]
          refine wpAnyE_ready (rs := [14]) (by kernel_rfl) (by simp) ?_
          refine AllReadyE.cons (by (simp only [List.getElem?_toArray, List.getElem?_cons_succ, List.getElem?_cons_zero]; rfl)) (fun K hK => ?_) AllReadyE.nil
          go_simp
          have ME := M.any (.cells #[.int .i64 r1, .int .i64 r2, .int .i64 r3] 84)
          refine hK.out _ _ (MC.out _ _ _ ME) (fun hNew => ?_)
          clear hK K hNew hHeld
          try simp only [Act.put, List.setIfInBounds_toArray, List.set_cons_zero, List.set_cons_succ]
          refine wpAnyE_ready (rs := [15]) (by kernel_rfl) (by simp) ?_
          refine AllReadyE.last (by (simp only [List.getElem?_toArray, List.getElem?_cons_succ, List.getElem?_cons_zero]; rfl)) (by kernel_rfl) (fun K hK => ?_) AllReadyE.nil
          refine step_append_re _ (by rfl) (.tmp 13) (.tmp 24) 104 (by rfl) w.heap.size 84 i0 (.agg #[.int .i64 0, .int .i64 0, .int .i64 0]) 24 Tryz.underlying104 hi hz0 hz1 hz2 rfl (.slice Au t[0].length cu) t[0].length (evs t[0]) (by rfl) ((OT.out _ _ _ M).alloc _) (some ⟨wa.heap.size, 0, none⟩) [⟨r1, r2, r3⟩] 1 _ (by rfl) (rdE_new wa ⟨r1, r2, r3⟩ _) (by unfold maxLen; simp only [List.length_singleton]; omega) (by simp only [List.length_singleton]; omega) (by have := M.gr.size; simp; omega) ?_
          intro v5 w5 o5 g5 hat5
          have M4 := ME
          have ot4 := oT3.kept M4.gr (fun b e => by (simp at e; omega))
          have rk := ot4.row.kept g5 (own_sep fun b hb e => by (simp only [Value.ownBlock, Option.some.injEq] at hb; subst hb; exact hu3 _ e rfl))
          have hf5 := rk.frozenAt 0
          have hc5 : w5.cell? ⟨gv, 0, none⟩ = some (.slice Au t[0].length cu) := (by rw [rk.cellAt 0 (by omega)]; exact hu)
          obtain ⟨D5, d5, hv5⟩ := own_shape o5
          rw [hv5] at o5 hat5
          rw [hv5]
          have HG := hide g5
          have HAT := hide hat5
          have HO := hide o5
          have OT4 := hide ot4
          clear g5 hat5 hv5 o5 rk ot4
          refine hK.out _ _ ?_
          clear hK K
          try simp only [Act.put, List.setIfInBounds_toArray, List.set_cons_zero, List.set_cons_succ]
          refine wpAnyE_take (i := 16) (v := ?_) (by (simp only [List.getElem?_toArray, List.getElem?_cons_succ, List.getElem?_cons_zero]; rfl)) (by kernel_rfl) (by kernel_rfl) (by kernel_rfl) (by decide) (by exact fun _ _ _ h => h) (.inl (by kernel_rfl)) (Or.inl ⟨by rfl, ?_⟩) ?_
          rotate_left
          · (intro w' _; go_simp <;> with_reducible rfl)
          try simp only [Act.put, List.setIfInBounds_toArray, List.set_cons_zero, List.set_cons_succ]
          refine wpAnyE_ready (rs := [17]) (by kernel_rfl) (by simp) ?_
          refine AllReadyE.last (by (simp only [List.getElem?_toArray, List.getElem?_cons_succ, List.getElem?_cons_zero]; rfl)) (by kernel_rfl) (fun K hK => ?_) AllReadyE.nil
          go_simp
          refine hK.out _ _ ?_
          clear hK K
          try simp only [Act.put, List.setIfInBounds_toArray, List.set_cons_zero, List.set_cons_succ]
          refine wpAnyE_done (by kernel_rfl) ?_ _
          go_wp2
          go_ret
          have oS := OT4.out.swap (es' := t[0] ++ [⟨r1, r2, r3⟩]) hu HG.out (fun b e => .inl e) (by rw [List.length_append, evs_append]; exact HO.out) (fun b hb => by
            rcases HAT.out with e | e
            · exact .inl (e.symm.trans hb)
            · rw [e] at hb; simp only [Option.some.injEq] at hb; exact .inr (Nat.le_of_eq hb))
          have rw4 := OT.out _ _ _ M4
          have G5 := grown_new (p := ⟨gv, 0, none⟩) hgv.1 (.slice D5 (t[0].length + 1) d5) ((G3.trans M4.gr).andThen HG.out (fun j hj => .inl (rw4.lt j hj).1))
          have hb5 := grown_below rw4 HG.out (by have := M4.gr.size; omega) (Nat.le_refl _)
          have S5 := (M4.src.below hb5 hgl).below (B := w.heap.size) ((Below.refl _ _).setCell (p := ⟨gv, 0, none⟩) hgv.1 (.slice D5 (t[0].length + 1) d5)) hgl
          exact ⟨t.set 0 (t[0] ++ [⟨r1, r2, r3⟩]), some ⟨gv, 0, none⟩, d, (by rw [List.length_set]; rfl), by rw [List.length_set]; omega, set_len hall20 (by rw [List.length_append]; simp; omega), fun w2 hg => (oS.kept hg (fun b e => by simp at e; omega)).rd_ (by rw [List.length_set]), k1 + 1 + 1 + 1 + 1, by omega, S5, G5⟩
        exact AllReadyE.nil
      refine AllReadyE.cons (by (simp only [List.getElem?_toArray, List.getElem?_cons_succ, List.getElem?_cons_zero]; rfl)) (fun K hK => ?_) ?_
      · skip
        go_simp
        replace M := Mid.al M 0 5 (-1)
        refine hK.out _ _ (MC.out _ _ _ M) (fun hNew => ?_)
        replace hHeld := hNew
        clear hK K hNew
        try simp only [Act.put, List.setIfInBounds_toArray, List.set_cons_zero, List.set_cons_succ]
        refine wpAnyE_ready (rs := [5]) (by kernel_rfl) (by simp) ?_
        refine AllReadyE.cons (by (simp only [List.getElem?_toArray, List.getElem?_cons_succ, List.getElem?_cons_zero]; rfl)) (fun K hK => ?_) AllReadyE.nil
        go_simp
        replace M := Mid.al M 0 1 2
        refine hK.out _ _ (MC.out _ _ _ M) (fun hNew => ?_)
        replace hHeld := hNew
        clear hK K hNew
        try simp only [Act.put, List.setIfInBounds_toArray, List.set_cons_zero, List.set_cons_succ]
        refine wpAnyE_ready (rs := [6]) (by kernel_rfl) (by simp) ?_
        refine AllReadyE.cons (by (simp only [List.getElem?_toArray, List.getElem?_cons_succ, List.getElem?_cons_zero]; rfl)) (fun K hK => ?_) AllReadyE.nil
        go_simp
        go_at_call 21
        refine (pick_mid (w0 := w3) (A := A) (c := c) (l := l) _ [0, 1, 2] ⟨_, _, M, by omega, by simp⟩ (by simp) (by simp)).mono ?_
        rintro e wa ⟨r1, rfl, N⟩
        replace M := N _ _ M
        clear N
        refine hK.out _ _ (MC.out _ _ _ M) (fun hNew => ?_)
        replace hHeld := hNew
        clear hK K hNew
        try simp only [Act.put, List.setIfInBounds_toArray, List.set_cons_zero, List.set_cons_succ]
        refine wpAnyE_ready (rs := [9]) (by kernel_rfl) (by simp) ?_
        refine AllReadyE.cons (by (simp only [List.getElem?_toArray, List.getElem?_cons_succ, List.getElem?_cons_zero]; rfl)) (fun K hK => ?_) AllReadyE.nil
        go_simp
        go_at_call 21
        refine (pick_mid (w0 := w3) (A := A) (c := c) (l := l) _ [0, -1] ⟨_, _, M, by omega, by simp⟩ (by simp) (by simp)).mono ?_
        rintro e wa ⟨r2, rfl, N⟩
        replace M := N _ _ M
        clear N
        refine hK.out _ _ (MC.out _ _ _ M) (fun hNew => ?_)
        replace hHeld := hNew
        clear hK K hNew
        try simp only [Act.put, List.setIfInBounds_toArray, List.set_cons_zero, List.set_cons_succ]
        refine wpAnyE_ready (rs := [12]) (by kernel_rfl) (by simp) ?_
        refine AllReadyE.cons (by (simp only [List.getElem?_toArray, List.getElem?_cons_succ, List.getElem?_cons_zero]; rfl)) (fun K hK => ?_) AllReadyE.nil
        go_simp
        go_at_call 21
        refine (pick_mid (w0 := w3) (A := A) (c := c) (l := l) _ [0, 5, -1] ⟨_, _, M, by omega, by simp⟩ (by simp) (by simp)).mono ?_
        rintro e wa ⟨r3, rfl, N⟩
        replace M := N _ _ M
        clear N
        refine hK.out _ _ (MC.out _ _ _ M) (fun hNew => ?_)
        replace hHeld := hNew
        clear hK K hNew
        try simp only [Act.put, List.setIfInBounds_toArray, List.set_cons_zero, List.set_cons_succ]
        refine wpAnyE_take (i := 13) (v := ?_) (by (simp only [List.getElem?_toArray, List.getElem?_cons_succ, List.getElem?_cons_zero]; rfl)) (by kernel_rfl) (by kernel_rfl) (by kernel_rfl) (by decide) (by exact fun _ _ _ h => h) (.inr hHeld) (Or.inl ⟨by rfl, ?_⟩) ?_
        rotate_left
        · (intro w' _; go_simp <;> with_reducible rfl)
        try simp only [Act.put, List.setIfInBounds_toArray, List.set_cons_zero, List.set_cons_succ]
        refine wpAnyE_ready (rs := [14]) (by kernel_rfl) (by simp) ?_
        refine AllReadyE.cons (by (simp only [List.getElem?_toArray, List.getElem?_cons_succ, List.getElem?_cons_zero]; rfl)) (fun K hK => ?_) AllReadyE.nil
        go_simp
        have ME := M.any (.cells #[.int .i64 r1, .int .i64 r2, .int .i64 r3] 84)
        refine hK.out _ _ (MC.out _ _ _ ME) (fun hNew => ?_)
        clear hK K hNew hHeld
        try simp only [Act.put, List.setIfInBounds_toArray, List.set_cons_zero, List.set_cons_succ]
        refine wpAnyE_ready (rs := [15]) (by kernel_rfl) (by simp) ?_
        refine AllReadyE.last (by (simp only [List.getElem?_toArray, List.getElem?_cons_succ, List.getElem?_cons_zero]; rfl)) (by kernel_rfl) (fun K hK => ?_) AllReadyE.nil
        refine step_append_re _ (by rfl) (.tmp 13) (.tmp 24) 104 (by rfl) w.heap.size 84 i0 (.agg #[.int .i64 0, .int .i64 0, .int .i64 0]) 24 Tryz.underlying104 hi hz0 hz1 hz2 rfl (.slice Au t[0].length cu) t[0].length (evs t[0]) (by rfl) ((OT.out _ _ _ M).alloc _) (some ⟨wa.heap.size, 0, none⟩) [⟨r1, r2, r3⟩] 1 _ (by rfl) (rdE_new wa ⟨r1, r2, r3⟩ _) (by unfold maxLen; simp only [List.length_singleton]; omega) (by simp only [List.length_singleton]; omega) (by have := M.gr.size; simp; omega) ?_
        intro v5 w5 o5 g5 hat5
        have M4 := ME
        have ot4 := oT3.kept M4.gr (fun b e => by (simp at e; omega))
        have rk := ot4.row.kept g5 (own_sep fun b hb e => by (simp only [Value.ownBlock, Option.some.injEq] at hb; subst hb; exact hu3 _ e rfl))
        have hf5 := rk.frozenAt 0
        have hc5 : w5.cell? ⟨gv, 0, none⟩ = some (.slice Au t[0].length cu) := (by rw [rk.cellAt 0 (by omega)]; exact hu)
        obtain ⟨D5, d5, hv5⟩ := own_shape o5
        rw [hv5] at o5 hat5
        rw [hv5]
        have HG := hide g5
        have HAT := hide hat5
        have HO := hide o5
        have OT4 := hide ot4
        clear g5 hat5 hv5 o5 rk ot4
        refine hK.out _ _ ?_
        clear hK K
        try simp only [Act.put, List.setIfInBounds_toArray, List.set_cons_zero, List.set_cons_succ]
        refine wpAnyE_take (i := 16) (v := ?_) (by (simp only [List.getElem?_toArray, List.getElem?_cons_succ, List.getElem?_cons_zero]; rfl)) (by kernel_rfl) (by kernel_rfl) (by kernel_rfl) (by decide) (by exact fun _ _ _ h => h) (.inl (by kernel_rfl)) (Or.inl ⟨by rfl, ?_⟩) ?_
        rotate_left
        · (intro w' _; go_simp <;> with_reducible rfl)
        try simp only [Act.put, List.setIfInBounds_toArray, List.set_cons_zero, List.set_cons_succ]
        refine wpAnyE_ready (rs := [17]) (by kernel_rfl) (by simp) ?_
        refine AllReadyE.last (by (simp only [List.getElem?_toArray, List.getElem?_cons_succ, List.getElem?_cons_zero]; rfl)) (by kernel_rfl) (fun K hK => ?_) AllReadyE.nil
        go_simp
        refine hK.out _ _ ?_
        clear hK K
        try simp only [Act.put, List.setIfInBounds_toArray, List.set_cons_zero, List.set_cons_succ]
        refine wpAnyE_done (by kernel_rfl) ?_ _
        go_wp2
        go_ret
        have oS := OT4.out.swap (es' := t[0] ++ [⟨r1, r2, r3⟩]) hu HG.out (fun b e => .inl e) (by rw [List.length_append, evs_append]; exact HO.out) (fun b hb => by
          rcases HAT.out with e | e
          · exact .inl (e.symm.trans hb)
          · rw [e] at hb; simp only [Option.some.injEq] at hb; exact .inr (Nat.le_of_eq hb))
        have rw4 := OT.out _ _ _ M4
        have G5 := grown_new (p := ⟨gv, 0, none⟩) hgv.1 (.slice D5 (t[0].length + 1) d5) ((G3.trans M4.gr).andThen HG.out (fun j hj => .inl (rw4.lt j hj).1))
        have hb5 := grown_below rw4 HG.out (by have := M4.gr.size; omega) (Nat.le_refl _)
        have S5 := (M4.src.below hb5 hgl).below (B := w.heap.size) ((Below.refl _ _).setCell (p := ⟨gv, 0, none⟩) hgv.1 (.slice D5 (t[0].length + 1) d5)) hgl
        exact ⟨t.set 0 (t[0] ++ [⟨r1, r2, r3⟩]), some ⟨gv, 0, none⟩, d, (by rw [List.length_set]; rfl), by rw [List.length_set]; omega, set_len hall20 (by rw [List.length_append]; simp; omega), fun w2 hg => (oS.kept hg (fun b e => by simp at e; omega)).rd_ (by rw [List.length_set]), k1 + 1 + 1 + 1 + 1, by omega, S5, G5⟩
      exact AllReadyE.nil
    refine AllReadyE.cons (by (simp only [List.getElem?_toArray, List.getElem?_cons_succ, List.getElem?_cons_zero]; rfl)) (fun K hK => ?_) ?_
    · skip
      go_simp
      replace M := Mid.al M 0 5 (-1)
      refine hK.out _ _ (MC.out _ _ _ M) (fun hNew => ?_)
      replace hHeld := hNew
      clear hK K hNew
      try simp only [Act.put, List.setIfInBounds_toArray, List.set_cons_zero, List.set_cons_succ]
      refine wpAnyE_ready (rs := [5, 8]) (by kernel_rfl) (by simp) ?_
      refine AllReadyE.cons (by (simp only [List.getElem?_toArray, List.getElem?_cons_succ, List.getElem?_cons_zero]; rfl)) (fun K hK => ?_) ?_
      · skip
        go_simp
        replace M := Mid.al M 0 1 2
        refine hK.out _ _ (MC.out _ _ _ M) (fun hNew => ?_)
        replace hHeld := hNew
        clear hK K hNew
        try simp only [Act.put, List.setIfInBounds_toArray, List.set_cons_zero, List.set_cons_succ]
        refine wpAnyE_ready (rs := [6, 8]) (by kernel_rfl) (by simp) ?_
        refine AllReadyE.cons (by (simp only [List.getElem?_toArray, List.getElem?_cons_succ, List.getElem?_cons_zero]; rfl)) (fun K hK => ?_) ?_
        · skip
          go_simp
          go_at_call 21
          refine (pick_mid (w0 := w3) (A := A) (c := c) (l := l) _ [0, 1, 2] ⟨_, _, M, by omega, by simp⟩ (by simp) (by simp)).mono ?_
          rintro e wa ⟨r1, rfl, N⟩
          replace M := N _ _ M
          clear N
          refine hK.out _ _ (MC.out _ _ _ M) (fun hNew => ?_)
          replace hHeld := hNew
          clear hK K hNew
          try simp only [Act.put, List.setIfInBounds_toArray, List.set_cons_zero, List.set_cons_succ]
          refine wpAnyE_ready (rs := [8]) (by kernel_rfl) (by simp) ?_
          refine AllReadyE.cons (by (simp only [List.getElem?_toArray, List.getElem?_cons_succ, List.getElem?_cons_zero]; rfl)) (fun K hK => ?_) AllReadyE.nil
          go_simp
          replace M := Mid.al2 M 0 (-1)
          refine hK.out _ _ (MC.out _ _ _ M) (fun hNew => ?_)
          replace hHeld := hNew
          clear hK K hNew
          try simp only [Act.put, List.setIfInBounds_toArray, List.set_cons_zero, List.set_cons_succ]
          refine wpAnyE_ready (rs := [9]) (by kernel_rfl) (by simp) ?_
          refine AllReadyE.cons (by (simp only [List.getElem?_toArray, List.getElem?_cons_succ, List.getElem?_cons_zero]; rfl)) (fun K hK => ?_) AllReadyE.nil
          go_simp
          go_at_call 21
          refine (pick_mid (w0 := w3) (A := A) (c := c) (l := l) _ [0, -1] ⟨_, _, M, by omega, by simp⟩ (by simp) (by simp)).mono ?_
          rintro e wa ⟨r2, rfl, N⟩
          replace M := N _ _ M
          clear N
          refine hK.out _ _ (MC.out _ _ _ M) (fun hNew => ?_)
          replace hHeld := hNew
          clear hK K hNew
          try simp only [Act.put, List.setIfInBounds_toArray, List.set_cons_zero, List.set_cons_succ]
          refine wpAnyE_ready (rs := [12]) (by kernel_rfl) (by simp) ?_
          refine AllReadyE.cons (by (simp only [List.getElem?_toArray, List.getElem?_cons_succ, List.getElem?_cons_zero]; rfl)) (fun K hK => ?_) AllReadyE.nil
          go_simp
          go_at_call 21
          refine (pick_mid (w0 := w3) (A := A) (c := c) (l := l) _ [0, 5, -1] ⟨_, _, M, by omega, by simp⟩ (by simp) (by simp)).mono ?_
          rintro e wa ⟨r3, rfl, N⟩
          replace M := N _ _ M
          clear N
          refine hK.out _ _ (MC.out _ _ _ M) (fun hNew => ?_)
          replace hHeld := hNew
          clear hK K hNew
          try simp only [Act.put, List.setIfInBounds_toArray, List.set_cons_zero, List.set_cons_succ]
          refine wpAnyE_take (i := 13) (v := ?_) (by (simp only [List.getElem?_toArray, List.getElem?_cons_succ, List.getElem?_cons_zero]; rfl)) (by kernel_rfl) (by kernel_rfl) (by kernel_rfl) (by decide) (by exact fun _ _ _ h => h) (.inr hHeld) (Or.inl ⟨by rfl, ?_⟩) ?_
          rotate_left
          · (intro w' _; go_simp <;> with_reducible rfl)
          try simp only [Act.put, List.setIfInBounds_toArray, List.set_cons_zero, List.set_cons_succ]
          refine wpAnyE_ready (rs := [14]) (by kernel_rfl) (by simp) ?_
          refine AllReadyE.cons (by (simp only [List.getElem?_toArray, List.getElem?_cons_succ, List.getElem?_cons_zero]; rfl)) (fun K hK => ?_) AllReadyE.nil
          go_simp
          have ME := M.any (.cells #[.int .i64 r1, .int .i64 r2, .int .i64 r3] 84)
          refine hK.out _ _ (MC.out _ _ _ ME) (fun hNew => ?_)
          clear hK K hNew hHeld
          try simp only [Act.put, List.setIfInBounds_toArray, List.set_cons_zero, List.set_cons_succ]
          refine wpAnyE_ready (rs := [15]) (by kernel_rfl) (by simp) ?_
          refine AllReadyE.last (by (simp only [List.getElem?_toArray, List.getElem?_cons_succ, List.getElem?_cons_zero]; rfl)) (by kernel_rfl) (fun K hK => ?_) AllReadyE.nil
          refine step_append_re _ (by rfl) (.tmp 13) (.tmp 24) 104 (by rfl) w.heap.size 84 i0 (.agg #[.int .i64 0, .int .i64 0, .int .i64 0]) 24 Tryz.underlying104 hi hz0 hz1 hz2 rfl (.slice Au t[0].length cu) t[0].length (evs t[0]) (by rfl) ((OT.out _ _ _ M).alloc _) (some ⟨wa.heap.size, 0, none⟩) [⟨r1, r2, r3⟩] 1 _ (by rfl) (rdE_new wa ⟨r1, r2, r3⟩ _) (by unfold maxLen; simp only [List.length_singleton]; omega) (by simp only [List.length_singleton]; omega) (by have := M.gr.size; simp; omega) ?_
          intro v5 w5 o5 g5 hat5
          have M4 := ME
          have ot4 := oT3.kept M4.gr (fun b e => by (simp at e; omega))
          have rk := ot4.row.kept g5 (own_sep fun b hb e => by (simp only [Value.ownBlock, Option.some.injEq] at hb; subst hb; exact hu3 _ e rfl))
          have hf5 := rk.frozenAt 0
          have hc5 : w5.cell? ⟨gv, 0, none⟩ = some (.slice Au t[0].length cu) := (by rw [rk.cellAt 0 (by omega)]; exact hu)
          obtain ⟨D5, d5, hv5⟩ := own_shape o5
          rw [hv5] at o5 hat5
          rw [hv5]
          have HG := hide g5
          have HAT := hide hat5
          have HO := hide o5
          have OT4 := hide ot4
          clear g5 hat5 hv5 o5 rk ot4
          refine hK.out _ _ ?_
          clear hK K
          try simp only [Act.put, List.setIfInBounds_toArray, List.set_cons_zero, List.set_cons_succ]
          refine wpAnyE_take (i := 16) (v := ?_) (by (simp only [List.getElem?_toArray, List.getElem?_cons_succ, List.getElem?_cons_zero]; rfl)) (by kernel_rfl) (by kernel_rfl) (by kernel_rfl) (by decide) (by exact fun _ _ _ h => h) (.inl (by kernel_rfl)) (Or.inl ⟨by rfl, ?_⟩) ?_
          rotate_left
          · (intro w' _; go_simp <;> with_reducible rfl)
          try simp only [Act.put, List.setIfInBounds_toArray, List.set_cons_zero, List.set_cons_succ]
          refine wpAnyE_ready (rs := [17]) (by kernel_rfl) (by simp) ?_
          refine AllReadyE.last (by (simp only [List.getElem?_toArray, List.getElem?_cons_succ, List.getElem?_cons_zero]; rfl)) (by kernel_rfl) (fun K hK => ?_) AllReadyE.nil
          go_simp
          refine hK.out _ _ ?_
          clear hK K
          try simp only [Act.put, List.setIfInBounds_toArray, List.set_cons_zero, List.set_cons_succ]
          refine wpAnyE_done (by kernel_rfl) ?_ _
          go_wp2
          go_ret
          have oS := OT4.out.swap (es' := t[0] ++ [⟨r1, r2, r3⟩]) hu HG.out (fun b e => .inl e) (by rw [List.length_append, evs_append]; exact HO.out) (fun b hb => by
            rcases HAT.out with e | e
            · exact .inl (e.symm.trans hb)
            · rw [e] at hb; simp only [Option.some.injEq] at hb; exact .inr (Nat.le_of_eq hb))
          have rw4 := OT.out _ _ _ M4
          have G5 := grown_new (p := ⟨gv, 0, none⟩) hgv.1 (.slice D5 (t[0].length + 1) d5) ((G3.trans M4.gr).andThen HG.out (fun j hj => .inl (rw4.lt j hj).1))
          have hb5 := grown_below rw4 HG.out (by have := M4.gr.size; omega) (Nat.le_refl _)
          have S5 := (M4.src.below hb5 hgl).below (B := w.heap.size) ((Below.refl _ _).setCell (p := ⟨gv, 0, none⟩) hgv.1 (.slice D5 (t[0].length + 1) d5)) hgl
          exact ⟨t.set 0 (t[0] ++ [⟨r1, r2, r3⟩]), some ⟨gv, 0, none⟩, d, (by rw [List.length_set]; rfl), by rw [List.length_set]; omega, set_len hall20 (by rw [List.length_append]; simp; omega), fun w2 hg => (oS.kept hg (fun b e => by simp at e; omega)).rd_ (by rw [List.length_set]), k1 + 1 + 1 + 1 + 1, by omega, S5, G5⟩
        refine AllReadyE.cons (by (simp only [List.getElem?_toArray, List.getElem?_cons_succ, List.getElem?_cons_zero]; rfl)) (fun K hK => ?_) ?_
        · skip
          go_simp
          replace M := Mid.al2 M 0 (-1)
          refine hK.out _ _ (MC.out _ _ _ M) (fun hNew => ?_)
          replace hHeld := hNew
          clear hK K hNew
          try simp only [Act.put, List.setIfInBounds_toArray, List.set_cons_zero, List.set_cons_succ]
          refine wpAnyE_ready (rs := [6]) (by kernel_rfl) (by simp) ?_
          refine AllReadyE.cons (by (simp only [List.getElem?_toArray, List.getElem?_cons_succ, List.getElem?_cons_zero]; rfl)) (fun K hK => ?_) AllReadyE.nil
          go_simp
          go_at_call 21
          refine (pick_mid (w0 := w3) (A := A) (c := c) (l := l) _ [0, 1, 2] ⟨_, _, M, by omega, by simp⟩ (by simp) (by simp)).mono ?_
          rintro e wa ⟨r1, rfl, N⟩
          replace M := N _ _ M
          clear N
          refine hK.out _ _ (MC.out _ _ _ M) (fun hNew => ?_)
          replace hHeld := hNew
          clear hK K hNew
          try simp only [Act.put, List.setIfInBounds_toArray, List.set_cons_zero, List.set_cons_succ]
          refine wpAnyE_ready (rs := [9]) (by kernel_rfl) (by simp) ?_
          refine AllReadyE.cons (by (simp only [List.getElem?_toArray, List.getElem?_cons_succ, List.getElem?_cons_zero]; rfl)) (fun K hK => ?_) AllReadyE.nil
          go_simp
          go_at_call 21
          refine (pick_mid (w0 := w3) (A := A) (c := c) (l := l) _ [0, -1] ⟨_, _, M, by omega, by simp⟩ (by simp) (by simp)).mono ?_
          rintro e wa ⟨r2, rfl, N⟩
          replace M := N _ _ M
          clear N
          refine hK.out _ _ (MC.out _ _ _ M) (fun hNew => ?_)
          replace hHeld := hNew
          clear hK K hNew
          try simp only [Act.put, List.setIfInBounds_toArray, List.set_cons_zero, List.set_cons_succ]
          refine wpAnyE_ready (rs := [12]) (by kernel_rfl) (by simp) ?_
          refine AllReadyE.cons (by (simp only [List.getElem?_toArray, List.getElem?_cons_succ, List.getElem?_cons_zero]; rfl)) (fun K hK => ?_) AllReadyE.nil
          go_simp
          go_at_call 21
          refine (pick_mid (w0 := w3) (A := A) (c := c) (l := l) _ [0, 5, -1] ⟨_, _, M, by omega, by simp⟩ (by simp) (by simp)).mono ?_
          rintro e wa ⟨r3, rfl, N⟩
          replace M := N _ _ M
          clear N
          refine hK.out _ _ (MC.out _ _ _ M) (fun hNew => ?_)
          replace hHeld := hNew
          clear hK K hNew
          try simp only [Act.put, List.setIfInBounds_toArray, List.set_cons_zero, List.set_cons_succ]
          refine wpAnyE_take (i := 13) (v := ?_) (by (simp only [List.getElem?_toArray, List.getElem?_cons_succ, List.getElem?_cons_zero]; rfl)) (by kernel_rfl) (by kernel_rfl) (by kernel_rfl) (by decide) (by exact fun _ _ _ h => h) (.inr hHeld) (Or.inl ⟨by rfl, ?_⟩) ?_
          rotate_left
          · (intro w' _; go_simp <;> with_reducible rfl)
          try simp only [Act.put, List.setIfInBounds_toArray, List.set_cons_zero, List.set_cons_succ]
          refine wpAnyE_ready (rs := [14]) (by kernel_rfl) (by simp) ?_
          refine AllReadyE.cons (by (simp only [List.getElem?_toArray, List.getElem?_cons_succ, List.getElem?_cons_zero]; rfl)) (fun K hK => ?_) AllReadyE.nil
          go_simp
          have ME := M.any (.cells #[.int .i64 r1, .int .i64 r2, .int .i64 r3] 84)
          refine hK.out _ _ (MC.out _ _ _ ME) (fun hNew => ?_)
          clear hK K hNew hHeld
          try simp only [Act.put, List.setIfInBounds_toArray, List.set_cons_zero, List.set_cons_succ]
          refine wpAnyE_ready (rs := [15]) (by kernel_rfl) (by simp) ?_
          refine AllReadyE.last (by (simp only [List.getElem?_toArray, List.getElem?_cons_succ, List.getElem?_cons_zero]; rfl)) (by kernel_rfl) (fun K hK => ?_) AllReadyE.nil
          refine step_append_re _ (by rfl) (.tmp 13) (.tmp 24) 104 (by rfl) w.heap.size 84 i0 (.agg #[.int .i64 0, .int .i64 0, .int .i64 0]) 24 Tryz.underlying104 hi hz0 hz1 hz2 rfl (.slice Au t[0].length cu) t[0].length (evs t[0]) (by rfl) ((OT.out _ _ _ M).alloc _) (some ⟨wa.heap.size, 0, none⟩) [⟨r1, r2, r3⟩] 1 _ (by rfl) (rdE_new wa ⟨r1, r2, r3⟩ _) (by unfold maxLen; simp only [List.length_singleton]; omega) (by simp only [List.length_singleton]; omega) (by have := M.gr.size; simp; omega) ?_
          intro v5 w5 o5 g5 hat5
          have M4 := ME
          have ot4 := oT3.kept M4.gr (fun b e => by (simp at e; omega))
          have rk := ot4.row.kept g5 (own_sep fun b hb e => by (simp only [Value.ownBlock, Option.some.injEq] at hb; subst hb; exact hu3 _ e rfl))
          have hf5 := rk.frozenAt 0
          have hc5 : w5.cell? ⟨gv, 0, none⟩ = some (.slice Au t[0].length cu) := (by rw [rk.cellAt 0 (by omega)]; exact hu)
          obtain ⟨D5, d5, hv5⟩ := own_shape o5
          rw [hv5] at o5 hat5
          rw [hv5]
          have HG := hide g5
          have HAT := hide hat5
          have HO := hide o5
          have OT4 := hide ot4
          clear g5 hat5 hv5 o5 rk ot4
          refine hK.out _ _ ?_
          clear hK K
          try simp only [Act.put, List.setIfInBounds_toArray, List.set_cons_zero, List.set_cons_succ]
          refine wpAnyE_take (i := 16) (v := ?_) (by (simp only [List.getElem?_toArray, List.getElem?_cons_succ, List.getElem?_cons_zero]; rfl)) (by kernel_rfl) (by kernel_rfl) (by kernel_rfl) (by decide) (by exact fun _ _ _ h => h) (.inl (by kernel_rfl)) (Or.inl ⟨by rfl, ?_⟩) ?_
          rotate_left
          · (intro w' _; go_simp <;> with_reducible rfl)
          try simp only [Act.put, List.setIfInBounds_toArray, List.set_cons_zero, List.set_cons_succ]
          refine wpAnyE_ready (rs := [17]) (by kernel_rfl) (by simp) ?_
          refine AllReadyE.last (by (simp only [List.getElem?_toArray, List.getElem?_cons_succ, List.getElem?_cons_zero]; rfl)) (by kernel_rfl) (fun K hK => ?_) AllReadyE.nil
          go_simp
          refine hK.out _ _ ?_
          clear hK K
          try simp only [Act.put, List.setIfInBounds_toArray, List.set_cons_zero, List.set_cons_succ]
          refine wpAnyE_done (by kernel_rfl) ?_ _
          go_wp2
          go_ret
          have oS := OT4.out.swap (es' := t[0] ++ [⟨r1, r2, r3⟩]) hu HG.out (fun b e => .inl e) (by rw [List.length_append, evs_append]; exact HO.out) (fun b hb => by
            rcases HAT.out with e | e
            · exact .inl (e.symm.trans hb)
            · rw [e] at hb; simp only [Option.some.injEq] at hb; exact .inr (Nat.le_of_eq hb))
          have rw4 := OT.out _ _ _ M4
          have G5 := grown_new (p := ⟨gv, 0, none⟩) hgv.1 (.slice D5 (t[0].length + 1) d5) ((G3.trans M4.gr).andThen HG.out (fun j hj => .inl (rw4.lt j hj).1))
          have hb5 := grown_below rw4 HG.out (by have := M4.gr.size; omega) (Nat.le_refl _)
          have S5 := (M4.src.below hb5 hgl).below (B := w.heap.size) ((Below.refl _ _).setCell (p := ⟨gv, 0, none⟩) hgv.1 (.slice D5 (t[0].length + 1) d5)) hgl
          exact ⟨t.set 0 (t[0] ++ [⟨r1, r2, r3⟩]), some ⟨gv, 0, none⟩, d, (by rw [List.length_set]; rfl), by rw [List.length_set]; omega, set_len hall20 (by rw [List.length_append]; simp; omega), fun w2 hg => (oS.kept hg (fun b e => by simp at e; omega)).rd_ (by rw [List.length_set]), k1 + 1 + 1 + 1 + 1, by omega, S5, G5⟩
        exact AllReadyE.nil
      refine AllReadyE.cons (by (simp only [List.getElem?_toArray, List.getElem?_cons_succ, List.getElem?_cons_zero]; rfl)) (fun K hK => ?_) ?_
      · skip
        go_simp
        replace M := Mid.al2 M 0 (-1)
        refine hK.out _ _ (MC.out _ _ _ M) (fun hNew => ?_)
        replace hHeld := hNew
        clear hK K hNew
        try simp only [Act.put, List.setIfInBounds_toArray, List.set_cons_zero, List.set_cons_succ]
        refine wpAnyE_ready (rs := [5]) (by kernel_rfl) (by simp) ?_
        refine AllReadyE.cons (by (simp only [List.getElem?_toArray, List.getElem?_cons_succ, List.getElem?_cons_zero]; rfl)) (fun K hK => ?_) AllReadyE.nil
        go_simp
        replace M := Mid.al M 0 1 2
        refine hK.out _ _ (MC.out _ _ _ M) (fun hNew => ?_)
        replace hHeld := hNew
        clear hK K hNew
        try simp only [Act.put, List.setIfInBounds_toArray, List.set_cons_zero, List.set_cons_succ]
        refine wpAnyE_ready (rs := [6]) (by kernel_rfl) (by simp) ?_
        refine AllReadyE.cons (by (simp only [List.getElem?_toArray, List.getElem?_cons_succ, List.getElem?_cons_zero]; rfl)) (fun K hK => ?_) AllReadyE.nil
        go_simp
        go_at_call 21
        refine (pick_mid (w0 := w3) (A := A) (c := c) (l := l) _ [0, 1, 2] ⟨_, _, M, by omega, by simp⟩ (by simp) (by simp)).mono ?_
        rintro e wa ⟨r1, rfl, N⟩
        replace M := N _ _ M
        clear N
        refine hK.out _ _ (MC.out _ _ _ M) (fun hNew => ?_)
        replace hHeld := hNew
        clear hK K hNew
        try simp only [Act.put, List.setIfInBounds_toArray, List.set_cons_zero, List.set_cons_succ]
        refine wpAnyE_ready (rs := [9]) (by kernel_rfl) (by simp) ?_
        refine AllReadyE.cons (by (simp only [List.getElem?_toArray, List.getElem?_cons_succ, List.getElem?_cons_zero]; rfl)) (fun K hK => ?_) AllReadyE.nil
        go_simp
        go_at_call 21
        refine (pick_mid (w0 := w3) (A := A) (c := c) (l := l) _ [0, -1] ⟨_, _, M, by omega, by simp⟩ (by simp) (by simp)).mono ?_
        rintro e wa ⟨r2, rfl, N⟩
        replace M := N _ _ M
        clear N
        refine hK.out _ _ (MC.out _ _ _ M) (fun hNew => ?_)
        replace hHeld := hNew
        clear hK K hNew
        try simp only [Act.put, List.setIfInBounds_toArray, List.set_cons_zero, List.set_cons_succ]
        refine wpAnyE_ready (rs := [12]) (by kernel_rfl) (by simp) ?_
        refine AllReadyE.cons (by (simp only [List.getElem?_toArray, List.getElem?_cons_succ, List.getElem?_cons_zero]; rfl)) (fun K hK => ?_) AllReadyE.nil
        go_simp
        go_at_call 21
        refine (pick_mid (w0 := w3) (A := A) (c := c) (l := l) _ [0, 5, -1] ⟨_, _, M, by omega, by simp⟩ (by simp) (by simp)).mono ?_
        rintro e wa ⟨r3, rfl, N⟩
        replace M := N _ _ M
        clear N
        refine hK.out _ _ (MC.out _ _ _ M) (fun hNew => ?_)
        replace hHeld := hNew
        clear hK K hNew
        try simp only [Act.put, List.setIfInBounds_toArray, List.set_cons_zero, List.set_cons_succ]
        refine wpAnyE_take (i := 13) (v := ?_) (by (simp only [List.getElem?_toArray, List.getElem?_cons_succ, List.getElem?_cons_zero]; rfl)) (by kernel_rfl) (by kernel_rfl) (by kernel_rfl) (by decide) (by exact fun _ _ _ h => h) (.inr hHeld) (Or.inl ⟨by rfl, ?_⟩) ?_
        rotate_left
        · (intro w' _; go_simp <;> with_reducible rfl)
        try simp only [Act.put, List.setIfInBounds_toArray, List.set_cons_zero, List.set_cons_succ]
        refine wpAnyE_ready (rs := [14]) (by kernel_rfl) (by simp) ?_
        refine AllReadyE.cons (by (simp only [List.getElem?_toArray, List.getElem?_cons_succ, List.getElem?_cons_zero]; rfl)) (fun K hK => ?_) AllReadyE.nil
        go_simp
        have ME := M.any (.cells #[.int .i64 r1, .int .i64 r2, .int .i64 r3] 84)
        refine hK.out _ _ (MC.out _ _ _ ME) (fun hNew => ?_)
        clear hK K hNew hHeld
        try simp only [Act.put, List.setIfInBounds_toArray, List.set_cons_zero, List.set_cons_succ]
        refine wpAnyE_ready (rs := [15]) (by kernel_rfl) (by simp) ?_
        refine AllReadyE.last (by (simp only [List.getElem?_toArray, List.getElem?_cons_succ, List.getElem?_cons_zero]; rfl)) (by kernel_rfl) (fun K hK => ?_) AllReadyE.nil
        refine step_append_re _ (by rfl) (.tmp 13) (.tmp 24) 104 (by rfl) w.heap.size 84 i0 (.agg #[.int .i64 0, .int .i64 0, .int .i64 0]) 24 Tryz.underlying104 hi hz0 hz1 hz2 rfl (.slice Au t[0].length cu) t[0].length (evs t[0]) (by rfl) ((OT.out _ _ _ M).alloc _) (some ⟨wa.heap.size, 0, none⟩) [⟨r1, r2, r3⟩] 1 _ (by rfl) (rdE_new wa ⟨r1, r2, r3⟩ _) (by unfold maxLen; simp only [List.length_singleton]; omega) (by simp only [List.length_singleton]; omega) (by have := M.gr.size; simp; omega) ?_
        intro v5 w5 o5 g5 hat5
        have M4 := ME
        have ot4 := oT3.kept M4.gr (fun b e => by (simp at e; omega))
        have rk := ot4.row.kept g5 (own_sep fun b hb e => by (simp only [Value.ownBlock, Option.some.injEq] at hb; subst hb; exact hu3 _ e rfl))
        have hf5 := rk.frozenAt 0
        have hc5 : w5.cell? ⟨gv, 0, none⟩ = some (.slice Au t[0].length cu) := (by rw [rk.cellAt 0 (by omega)]; exact hu)
        obtain ⟨D5, d5, hv5⟩ := own_shape o5
        rw [hv5] at o5 hat5
        rw [hv5]
        have HG := hide g5
        have HAT := hide hat5
        have HO := hide o5
        have OT4 := hide ot4
        clear g5 hat5 hv5 o5 rk ot4
        refine hK.out _ _ ?_
        clear hK K
        try simp only [Act.put, List.setIfInBounds_toArray, List.set_cons_zero, List.set_cons_succ]
        refine wpAnyE_take (i := 16) (v := ?_) (by (simp only [List.getElem?_toArray, List.getElem?_cons_succ, List.getElem?_cons_zero]; rfl)) (by kernel_rfl) (by kernel_rfl) (by kernel_rfl) (by decide) (by exact fun _ _ _ h => h) (.inl (by kernel_rfl)) (Or.inl ⟨by rfl, ?_⟩) ?_
        rotate_left
        · (intro w' _; go_simp <;> with_reducible rfl)
        try simp only [Act.put, List.setIfInBounds_toArray, List.set_cons_zero, List.set_cons_succ]
        refine wpAnyE_ready (rs := [17]) (by kernel_rfl) (by simp) ?_
        refine AllReadyE.last (by (simp only [List.getElem?_toArray, List.getElem?_cons_succ, List.getElem?_cons_zero]; rfl)) (by kernel_rfl) (fun K hK => ?_) AllReadyE.nil
        go_simp
        refine hK.out _ _ ?_
        clear hK K
        try simp only [Act.put, List.setIfInBounds_toArray, List.set_cons_zero, List.set_cons_succ]
        refine wpAnyE_done (by kernel_rfl) ?_ _
        go_wp2
        go_ret
        have oS := OT4.out.swap (es' := t[0] ++ [⟨r1, r2, r3⟩]) hu HG.out (fun b e => .inl e) (by rw [List.length_append, evs_append]; exact HO.out) (fun b hb => by
          rcases HAT.out with e | e
          · exact .inl (e.symm.trans hb)
          · rw [e] at hb; simp only [Option.some.injEq] at hb; exact .inr (Nat.le_of_eq hb))
        have rw4 := OT.out _ _ _ M4
        have G5 := grown_new (p := ⟨gv, 0, none⟩) hgv.1 (.slice D5 (t[0].length + 1) d5) ((G3.trans M4.gr).andThen HG.out (fun j hj => .inl (rw4.lt j hj).1))
        have hb5 := grown_below rw4 HG.out (by have := M4.gr.size; omega) (Nat.le_refl _)
        have S5 := (M4.src.below hb5 hgl).below (B := w.heap.size) ((Below.refl _ _).setCell (p := ⟨gv, 0, none⟩) hgv.1 (.slice D5 (t[0].length + 1) d5)) hgl
        exact ⟨t.set 0 (t[0] ++ [⟨r1, r2, r3⟩]), some ⟨gv, 0, none⟩, d, (by rw [List.length_set]; rfl), by rw [List.length_set]; omega, set_len hall20 (by rw [List.length_append]; simp; omega), fun w2 hg => (oS.kept hg (fun b e => by simp at e; omega)).rd_ (by rw [List.length_set]), k1 + 1 + 1 + 1 + 1, by omega, S5, G5⟩
      exact AllReadyE.nil
    exact AllReadyE.nil
  · by_cases e1 : s = 1
    · subst e1
      clear e0
      go_wp2_with fail
      refine (l1Pick_any g (k1 + 1) _ [8, 9] A c l _ _ (S3.alloc _) (by omega) (by simp) (by simp) (Bk.new _ _ _) (by have := S3.lt; omega)).mono ?_
      rintro e w4 ⟨r, rfl, hm, S4, g4⟩
      have oT4 := (oT3.alloc (.cells #[.int .i64 8, .int .i64 9] 2)).kept g4 (fun b e => by simp at e; omega)
      have G4 := G3.trans (grown_alloc g4)
      have hm' : r = 8 ∨ r = 9 := by simpa using hm
      obtain ⟨n, rfl⟩ := Int.eq_ofNat_of_zero_le (show 0 ≤ r by omega)
      have hn : n ≤ 9 := by omega
      have z4 := G4.size
      have hf4 := oT4.row.frozenAt 0
      have hc4 : w4.cell? ⟨gv, 0, none⟩ = some u := by
        rw [oT4.row.cellAt 0 (by omega)]
        exact hu
      clear hm hm' g4 hc hf S3 oT3 G3
      go_wp2_with (at_make; refine wpList_make_full _ rfl _ _ 104 rfl w4.heap.size 84 i0 (.agg #[.int .i64 0, .int .i64 0, .int .i64 0]) 3 Tryz.underlying104 hi hz0 hz1 .i64 .i64 _ _ n rfl rfl rfl rfl (by rw [hz2]; omega) (by unfold maxLen; omega) (Nat.le_refl _) ?_; intro w5 hown5 g5; have hf5 : w5.frozen? ⟨gv, 0, none⟩ = false := (oT4.kept g5 (fun b e => by cases e)).row.frozenAt 0; have hc5 : w5.cell? ⟨gv, 0, none⟩ = some u := by (rw [(oT4.kept g5 (fun b e => by cases e)).row.cellAt 0 (by omega)]; exact hu))
      rw [made_event, ← evs_zero] at hown5
      have hl5 : (List.replicate n zeroE).length = n := List.length_replicate
      have oT5 := oT4.swap hu g5 (fun b e => by cases e) (u' := .slice (some ⟨w4.heap.size, 0, none⟩) n n) (es' := List.replicate n zeroE) (by rw [hl5]; exact own_mono hown5 z4) (fun b hb => by simp [Value.ownBlock] at hb; omega)
      have hb5 : Below w4.heap.size w4 w5 := (Below.refl _ _).grown g5 (Nat.le_refl _) (by simp)
      have S5 := (S4.below hb5 S4.lt).below (B := g + 1) ((Below.refl _ _).setCell (p := ⟨gv, 0, none⟩) (by simp only; omega) (.slice (some ⟨w4.heap.size, 0, none⟩) n n)) (Nat.lt_succ_self _)
      have G5 := grown_new (p := ⟨gv, 0, none⟩) (by simp only; omega) (.slice (some ⟨w4.heap.size, 0, none⟩) n n) (G4.trans (grown_of_below (some g) hb5))
      clear g5 hown5 hb5
      go_wp2
      go_ret
      exact ⟨t.set 0 (List.replicate n zeroE), some ⟨gv, 0, none⟩, d, (by rw [List.length_set]; rfl), by rw [List.length_set]; omega, set_len hall20 (by rw [hl5]; omega), fun w2 hg => (oT5.kept hg (fun b e => by simp at e; omega)).rd_ (by rw [List.length_set]), k1 + 2, by omega, S5, G5⟩
    · by_cases e2 : s = 2
      · subst e2
        clear e0 e1
        go_wp2_with fail
        refine (l1Pick_any g (k1 + 1) _ [0, 4, 5] A c l _ _ (S3.alloc _) (by omega) (by simp) (by simp) (Bk.new _ _ _) (by have := S3.lt; omega)).mono ?_
        rintro e w4 ⟨r, rfl, hm, S4, g4⟩
        have G4 := G3.trans (grown_alloc g4)
        have hm' : r = 0 ∨ r = 4 ∨ r = 5 := by simpa using hm
        obtain ⟨n, rfl⟩ := Int.eq_ofNat_of_zero_le (show 0 ≤ r by omega)
        have hn : n ≤ 5 := by omega
        clear hm hm' g4
        go_wp2_with (at_make; refine wpList_make_full _ rfl _ _ 28 rfl w4.heap.size 104 j0 (.slice none 0 0) 1 Tryz.underlying28 hj hy0 hy1 .i64 .i64 _ _ n rfl rfl rfl rfl (by rw [hy2]; omega) (by unfold maxLen; omega) (Nat.le_refl _) ?_; intro w5 hown5 g5)
        rw [made_nil] at hown5
        have hb5 : Below w4.heap.size w4 w5 := (Below.refl _ _).grown g5 (Nat.le_refl _) (by simp)
        go_ret
        refine ⟨List.replicate n [], some ⟨w4.heap.size, 0, none⟩, n, by simp, by simpa using hn, by intro x hx; rw [List.eq_of_mem_replicate hx]; simp, fun w2 hg => rdT_nilsO (hown5.kept hg (own_sep fun b hb e => by simp [Value.ownBlock] at hb e; have := S4.lt; omega)), k1 + 2, by omega, S4.below hb5 S4.lt, G4.trans (grown_of_below (some g) hb5)⟩
      · have b0 : (s == 0) = false := beq_eq_false_iff_ne.2 e0
        have b1 : (s == 1) = false := beq_eq_false_iff_ne.2 e1
        have b2 : (s == 2) = false := beq_eq_false_iff_ne.2 e2
        clear e0 e1 e2
        go_wp2
        go_ret
        exact ⟨t, _, _, rfl, by omega, hall20, fun w2 hg => (oT3.kept hg (fun b e => by simp at e; omega)).rd, k1 + 1, by omega, S3, G3⟩
end Go.Proofs.YtnnfkmjhaljplaaGreat
namespace Go.Proofs.YtnnfkmjhaljplaaGreat
open Go.RowKit
set_option maxHeartbeats 400000 in
theorem DrawSimulate_any (l : List Int) (A : Option Addr) (c : Nat) (w : World) (hl : l.length ≤ 1048576) (hR : Rd .u8 w w.heap.size A l) (b8 : B8 l) :
    Calls Tryz.prog 7 #[.slice A l.length c] w fun e w' => ∃ (t : List (List Ev)) (D : Option Addr) (d : Nat) (x : Int) (ps : List Int) (Dp : Option Addr) (dp : Nat), e = .returned (.tuple #[.slice D t.length d, .int .i64 x, .slice Dp ps.length dp]) ∧ t.length ≤ 5 ∧ ps.length ≤ 101 ∧ I64s ps ∧ RdT w' w'.heap.size D t ∧ Rd .i64 w' w'.heap.size Dp ps ∧ Below w.heap.size w w' := by
  go_enter Tryz.func7, Tryz.ntmps7
  go_wp2_with fail
  refine (l1Source_any l A c w hR b8 hl).mono ?_
  rintro e w1 ⟨rfl, S1, B1⟩
  go_wp2_with fail
  refine (l7Bent_any _ _ A c l w1 S1 (by omega)).mono ?_
  rintro e w2 ⟨t, D, d, rfl, ht, hall, hT, k2, hk2, S2, g2⟩
  have B2 := grown_from B1 g2 B1.size (Nat.le_refl _)
  clear hall
  go_wp2_with fail
  refine (l1Pick_any _ k2 _ [1, 2, 4, 1, 2, 0, 5] A c l _ _ (S2.alloc _) (by omega) (by simp) (by simp) (Bk.new _ _ _) (by have := S2.lt; omega)).mono ?_
  rintro e w3 ⟨x, rfl, _, S3, g3⟩
  have g23 := grown_alloc g3
  have B3 := grown_from B2 g23 B2.size (Nat.le_refl _)
  go_wp2_with fail
  refine (l6Picks_any _ _ A c l _ S3 (by omega)).mono ?_
  rintro e w4 ⟨ps, Dp, dp, rfl, hps, hpI, oP, k4, hk4, S4, g4⟩
  have rT := hT w4 (g23.trans g4)
  have rP := Rd.of_own (k := .i64) oP
  have B4 := grown_from B3 g4 B3.size (Nat.le_refl _)
  clear g4 g3 g23 oP hT
  go_wp2
  refine bodyPost_ret (v := .tuple #[.slice D t.length d, .int .i64 x, .slice Dp ps.length dp]) (by simp [results, Tryz.results7, go_sem]) rfl ?_
  exact ⟨t, D, d, x, ps, Dp, dp, rfl, ht, hps, hpI, rT, rP, B4⟩
end Go.Proofs.YtnnfkmjhaljplaaGreat
