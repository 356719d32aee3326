/- Contracts of the model's draws of events. Contracts of the model's draws of traces. Contracts of the model's spoilt bytes, and of the draw of bytes to read steps of. What the model's bent traces are. Contracts of the draws of chapter 2: steps and traces with a fault, steps and traces that are the same or not, an event. -/
import Derived.Test.YtmnpiakcppcmgaaGreatDoorEvS
import Derived.Test.YtmnpiakcppcmgaaGreatDoorGDraw
import Derived.Test.YtmnpiakcppcmgaaGreatDoorGUnp
import Derived.Test.YtmnpiakcppcmgaaGreatDoorGBase
import Derived.Test.YtmnpiakcppcmgaaGreatDoorGTrS
import Derived.Test.YtmnpiakcppcmgaaGreatDoorPackS
import Derived.Laws.BitsAllLaws
import Derived.Test.YtmnpiakcppcmgaaGreatDoorGApp
namespace Go.Proofs.YtmnpiakcppcmgaaGreatDoor
open Go.RowKit

/-- The source in block g went on by m readings at most; nothing else below is turned. -/
def Went (w : World) (g : Nat) (A : Option Addr) (c : Nat) (l : List Int) (k m : Nat) (w' : World) : Prop := ∃ k', k' ≤ k + m ∧ Src w' g A c l k' ∧ w.grownBy w' (some g)

set_option maxHeartbeats 400000 in
theorem l2Event_any (g k : Nat) (A : Option Addr) (c : Nat) (l : List Int) (w : World) (hS : Src w g A c l k) (hk : k ≤ 900) :
    Calls Tryz.prog 77 #[.pointer (some ⟨g, 0, none⟩)] w fun e w' => ∃ x : Ev, e = .returned (evV x.k x.a x.v) ∧ evF x = 0 ∧ Went w g A c l k 3 w' := by
  obtain ⟨W, hW⟩ : ∃ W, W = w.alloc (Obj.cells #[Value.int .i64 0, .int .i64 0, .int .i64 0] 50) := ⟨_, rfl⟩
  have HW := hide hW
  have kr : Bk W w.heap.size #[.int .i64 0, .int .i64 0, .int .i64 0] 50 := by rw [hW]; exact Bk.new _ _ _
  have S0 : Src W g A c l k := by rw [hW]; exact hS.alloc _
  have G0 : w.grownBy W (some g) := by rw [hW]; exact World.grownBy_alloc _ _ _
  have hgl := hS.lt
  clear hW
  go_enter Tryz.func77, Tryz.ntmps77
  go_wp2_with fail
  rw [← HW.out]
  refine (l1Next_any g k 2 A c l W S0 (by omega) (by omega) (by omega)).mono ?_
  rintro e w1 ⟨r, rfl, h0, h1, S1, g1⟩
  have kr := kr.grown g1 (by simp; omega)
  have G1 := G0.trans g1
  clear g1
  go_wp2_with fail
  refine (l1Pick_any g (k + 1) _ [0, 1, 2, 1, 2, 1000, 999999] A c l _ _ (S1.alloc _) (by omega) (by simp) (by simp) (Bk.new _ _ _) (by have := S1.lt; omega)).mono ?_
  rintro e w2 ⟨a, rfl, ha, S2, g2⟩
  have kr := (kr.alloc _).grown g2 (by simp; omega)
  have G2 := G1.trans (grown_alloc g2)
  clear g2
  go_wp2_with fail
  refine (l1Pick_any g (k + 2) _ [0, 1, 2, 1, 2, 999999, 127, 128] A c l _ _ (S2.alloc _) (by omega) (by simp) (by simp) (Bk.new _ _ _) (by have := S2.lt; omega)).mono ?_
  rintro e w3 ⟨v, rfl, hv, S3, g3⟩
  have kr := (kr.alloc _).grown g3 (by simp; omega)
  have G3 := G2.trans (grown_alloc g3)
  clear g3
  have q0 : w3.cell? ⟨w.heap.size, 0, none⟩ = some (.int .i64 0) := (kr.cell 0).trans rfl
  have q1 : w3.cell? ⟨w.heap.size, 1, none⟩ = some (.int .i64 0) := (kr.cell 1).trans rfl
  have q2 : w3.cell? ⟨w.heap.size, 2, none⟩ = some (.int .i64 0) := (kr.cell 2).trans rfl
  have f0 := kr.frozen 0
  have f1 := kr.frozen 1
  have f2 := kr.frozen 2
  go_wp2
  refine bodyPost_ret (v := evV r a v) (by simp [results, Tryz.results77, go_sem, q0, q1, q2]) rfl ?_
  refine ⟨⟨r, a, v⟩, rfl, evF_ok (by simp only; omega) ?_, k + 3, by omega, ?_, ?_⟩
  · simp at ha hv
    simp only
    omega
  · exact S3.below (B := g + 1) ((((Below.refl _ _).setCell (by simp only; omega) _).setCell (by simp only; omega) _).setCell (by simp only; omega) _) (Nat.lt_succ_self _)
  · exact grown_new (Nat.le_refl _) _ (grown_new (Nat.le_refl _) _ (grown_new (Nat.le_refl _) _ G3))

set_option maxRecDepth 100000 in
set_option maxHeartbeats 800000 in
theorem l2Steps_any (g k n : Nat) (A : Option Addr) (c : Nat) (l : List Int) (w : World) (hS : Src w g A c l k) (hk : k ≤ 600) (hn : n ≤ 20) :
    Calls Tryz.prog 65 #[.pointer (some ⟨g, 0, none⟩), .int .i64 n] w fun e w' => ∃ es D d, e = .returned (.slice D es.length d) ∧ es.length ≤ n ∧ (∀ x ∈ es, evF x = 0) ∧ w'.ownsRow w.heap.size 50 3 (.slice D es.length d) es.length (evs es) ∧ Went w g A c l k 61 w' := by
  obtain ⟨i0, hi, hz0, hz1, hz2⟩ := info_parts info_event
  have hgl := hS.lt
  go_enter Tryz.func65, Tryz.ntmps65
  go_wp2_with fail
  refine (l1Next_any g k _ A c l _ (hS.alloc _) (by omega) (by omega) (by omega)).mono ?_
  rintro e w1 ⟨r, rfl, h0, h1, S1, g1⟩
  have hr : r ≤ n := by omega
  obtain ⟨N, rfl⟩ := Int.eq_ofNat_of_zero_le h0
  have hN : N ≤ n := by omega
  have o1 := (World.ownsRow_lit w #[] 0 (e := 50) (size := 3) (base := w.heap.size) (Nat.le_refl _) (by simp) rfl).kept g1 (.inr (by simp [Value.ownBlock]; omega))
  have G1 := grown_alloc g1
  clear g1 h1 hr
  go_wp2
  go_loopw [5, 6] (fun v q wr => ∃ (es : List Ev) (m k' : Nat), m + es.length = N ∧ q = .int .i64 m ∧ (∀ x ∈ es, evF x = 0) ∧ wr.ownsRow w.heap.size 50 3 v es.length (evs es) ∧ Src wr g A c l k' ∧ k' + 3 * m ≤ k + 1 + 3 * N ∧ w.grownBy wr (some g)) (fun _ q _ => (intOf q).toNat)
  case atStart => exact ⟨[], N, k + 1, rfl, rfl, by simp, o1, S1, by omega, G1⟩
  case round =>
    obtain ⟨es, m, k', hm, rfl, hall, ho, hSr, hkk, hgr⟩ := hrel
    have HM := hide hm
    have hx1 : es.length ≤ 20 := by omega
    have hm1 : m ≤ 20 := by omega
    clear hm
    have hsz := hgr.size
    by_cases hlt : 0 < m
    · go_wp2_with fail
      refine (l2Event_any g k' A c l wr hSr (by omega)).mono ?_
      rintro e w1 ⟨x, rfl, hx, k2, hk2, hS1, hg1⟩
      have ho1 := ho.kept hg1 (.inr (fun e => own_apart ho g (.inl hgl) e.symm))
      have hgr1 := hgr.trans hg1
      have hsz1 := hgr1.size
      clear hg1
      go_wp2_with (at_builtin; refine wpList_append_own_at _ rfl _ _ 45 rfl w.heap.size 50 i0 (.agg #[.int .i64 0, .int .i64 0, .int .i64 0]) 3 24 Tryz.underlying45 hi hz0 hz1 hz2 rfl (by decide) _ _ _ rfl (ho1.alloc _) ⟨w1.heap.size, 0, none⟩ 1 1 [.int .i64 x.k, .int .i64 x.a, .int .i64 x.v] rfl rfl (cell_three_new _ _ _ _ _) (one_cells3 _ _ _ _) (by unfold maxLen; omega) (by omega) (by simp; omega) ?_; intro v' w2 hown' hgrow _ hat)
      have hbl : Below w.heap.size w1 w2 := ((Below.refl _ _).alloc hsz1 _).trans (grown_below (ho1.alloc (.cells #[.int .i64 x.k, .int .i64 x.a, .int .i64 x.v] 50)) hgrow (by simp; omega) (Nat.le_refl _))
      have hgr2 : w.grownBy w2 (some g) := hgr1.andThen (grown_alloc hgrow) (fun j hj => .inl (ho1.lt j hj).1)
      clear hgrow hat
      go_roundw
      case rel => exact ⟨es ++ [x], m - 1, k2, by have := HM.out; simp; omega, by go_num, by intro y hy; rcases List.mem_append.1 hy with h | h; exact hall y h; simp at h; rw [h]; exact hx, by rw [List.length_append, evs_append]; exact hown', hS1.below hbl hgl, by omega, hgr2⟩
      case measure => simp [intOf]; omega
    · obtain ⟨D, d, hv⟩ := own_shape ho
      have HV := hide hv
      clear hv
      go_wp2
      go_ret
      have hn : es.length = N := by have := HM.out; omega
      have ho2 := ho
      rw [HV.out] at ho2
      exact ⟨es, D, d, congrArg Ending.returned HV.out, by omega, hall, ho2, k', by omega, hSr, hgr⟩
end Go.Proofs.YtmnpiakcppcmgaaGreatDoor
namespace Go.Proofs.YtmnpiakcppcmgaaGreatDoor
open Go.RowKit

theorem one_cellS (A : Option Addr) (n c : Nat) : ∀ u ∈ [Value.slice A n c], u.oneCell' = true := by intro u hu; simp at hu; subst hu; rfl
/-- A new row is apart from what was there. -/
theorem OwnT.fresh {w w' : World} {base : Nat} {v : Value} {t : List (List Ev)} {us : List Value} (h : OwnT w base v t us) {u : Value} {n : Nat} {xs : List Value} (hu : w'.ownsRow w.heap.size 50 3 u n xs) :
    ∀ b, u.ownBlock = some b → v.ownBlock ≠ some b ∧ ∀ (i : Nat) (u' : Value), us[i]? = some u' → u'.ownBlock ≠ some b := by
  intro b hb
  have h1 := (hu.lt b hb).1
  refine ⟨fun e => by have := h.row.lt b e; omega, fun i u' hi e => ?_⟩
  obtain ⟨_, hq, _⟩ := h.at_ hi
  have := hq.lt b e
  omega

set_option maxRecDepth 100000 in
set_option maxHeartbeats 800000 in
theorem l2TraceR_any (g k n : Nat) (A : Option Addr) (c : Nat) (l : List Int) (w : World) (hS : Src w g A c l k) (hk : k ≤ 100) (hn : n ≤ 20) :
    Calls Tryz.prog 45 #[.pointer (some ⟨g, 0, none⟩), .int .i64 n] w fun e w' => ∃ t us D d, e = .returned (.slice D t.length d) ∧ 1 ≤ t.length ∧ t.length ≤ 4 ∧ (∀ x ∈ t, x.length ≤ n ∧ ∀ y ∈ x, evF y = 0) ∧ OwnT w' w.heap.size (.slice D t.length d) t us ∧ Went w g A c l k 250 w' := by
  obtain ⟨i0, hi, hz0, hz1, hz2⟩ := info_parts info_events
  have hgl := hS.lt
  go_enter Tryz.func45, Tryz.ntmps45
  go_wp2_with fail
  refine (l1Next_any g k 4 A c l _ (hS.alloc _) (by omega) (by omega) (by omega)).mono ?_
  rintro e w1 ⟨r, rfl, h0, h1, S1, g1⟩
  have hr : r ≤ 3 := by omega
  obtain ⟨N, rfl⟩ := Int.eq_ofNat_of_zero_le h0
  have hN : N ≤ 3 := by omega
  have o1 := (World.ownsRow_lit w #[] 0 (e := 45) (size := 1) (base := w.heap.size) (Nat.le_refl _) (by simp) rfl).kept g1 (.inr (by simp [Value.ownBlock]; omega))
  have oT : OwnT w1 w.heap.size (.slice (some ⟨w.heap.size, 0, none⟩) 0 0) [] [] := ⟨o1, fun i hi => by simp at hi, fun i j u u' _ hu => by simp at hu⟩
  have G1 := grown_alloc g1
  clear g1 h1 hr o1
  go_wp2
  go_loopw [5, 6] (fun v q wr => ∃ (t : List (List Ev)) (us : List Value) (m k' : Nat), m + t.length = N + 1 ∧ q = .int .i64 m ∧ (∀ x ∈ t, x.length ≤ n ∧ ∀ y ∈ x, evF y = 0) ∧ OwnT wr w.heap.size v t us ∧ Src wr g A c l k' ∧ k' + 61 * m ≤ k + 1 + 61 * (N + 1) ∧ w.grownBy wr (some g)) (fun _ q _ => (intOf q).toNat)
  case atStart => exact ⟨[], [], N + 1, k + 1, rfl, by go_num, by simp, oT, S1, by omega, G1⟩
  case round =>
    obtain ⟨t, us, m, k', hm, rfl, hall, ho, hSr, hkk, hgr⟩ := hrel
    have HM := hide hm
    have hx1 : t.length ≤ 4 := by omega
    have hm1 : m ≤ 4 := by omega
    clear hm
    have hsz := hgr.size
    by_cases hlt : 0 < m
    · go_wp2_with fail
      refine (l2Steps_any g k' n A c l wr hSr (by omega) hn).mono ?_
      rintro e w1 ⟨es, D, d, rfl, hes, hev, hown, k2, hk2, hS1, hg1⟩
      have ho1 := ho.kept hg1 (fun b e => by simp at e; omega)
      have hfr := ho.fresh hown
      have hown1 := own_mono hown hsz
      have hgr1 := hgr.trans hg1
      have hsz1 := hgr1.size
      clear hg1
      go_wp2_with (at_builtin; refine wpList_append_own_at _ rfl _ _ 24 rfl w.heap.size 45 i0 (.slice none 0 0) 1 24 Tryz.underlying24 hi hz0 hz1 hz2 rfl (by decide) _ _ _ rfl (ho1.row.alloc _) ⟨w1.heap.size, 0, none⟩ 1 1 [.slice D es.length d] rfl rfl (cell_one_new _ _ _) (one_cellS _ _ _) (by unfold maxLen; omega) (by omega) (by simp; omega) ?_; intro v' w2 hown' hgrow _ hat)
      have hP := (ho1.alloc (.cells #[.slice D es.length d] 45)).push (es := es) (hown1.alloc _) hfr hown' hgrow hat
      have hbl : Below w.heap.size w1 w2 := ((Below.refl _ _).alloc hsz1 _).trans (grown_below (ho1.row.alloc (.cells #[.slice D es.length d] 45)) hgrow (by simp; omega) (Nat.le_refl _))
      have hgr2 : w.grownBy w2 (some g) := hgr1.andThen (grown_alloc hgrow) (fun j hj => .inl (ho1.row.lt j hj).1)
      clear hgrow hat
      go_roundw
      case rel => exact ⟨t ++ [es], us ++ [.slice D es.length d], m - 1, k2, by have := HM.out; simp; omega, by go_num, by intro y hy; rcases List.mem_append.1 hy with h | h; exact hall y h; simp at h; rw [h]; exact ⟨hes, hev⟩, hP, hS1.below hbl hgl, by omega, hgr2⟩
      case measure => simp [intOf]; omega
    · obtain ⟨D, d, hv⟩ := own_shape ho.row
      have HV := hide hv
      clear hv
      go_wp2
      go_ret
      have hn : t.length = N + 1 := by have := HM.out; omega
      have ho2 := ho
      rw [HV.out] at ho2
      exact ⟨t, us, D, d, congrArg Ending.returned HV.out, by omega, by omega, hall, ho2, k', by omega, hSr, hgr⟩
theorem l2Trace_any (g k n : Nat) (A : Option Addr) (c : Nat) (l : List Int) (w : World) (hS : Src w g A c l k) (hk : k ≤ 100) (hn : n ≤ 20) :
    Calls Tryz.prog 45 #[.pointer (some ⟨g, 0, none⟩), .int .i64 n] w fun e w' => ∃ t us D d, e = .returned (.slice D t.length d) ∧ 1 ≤ t.length ∧ t.length ≤ 4 ∧ (∀ x ∈ t, x.length ≤ n) ∧ OwnT w' w.heap.size (.slice D t.length d) t us ∧ Went w g A c l k 250 w' := by
  refine (l2TraceR_any g k n A c l w hS hk hn).mono ?_
  rintro e w1 ⟨t, us, D, d, h1, h2, h3, h4, h5⟩
  exact ⟨t, us, D, d, h1, h2, h3, fun x hx => (h4 x hx).1, h5⟩
end Go.Proofs.YtmnpiakcppcmgaaGreatDoor
namespace Go.Proofs.YtmnpiakcppcmgaaGreatDoor
open Go.RowKit

/-- Bytes to read; below B nothing is turned. -/
def BytPost (B m : Nat) (w : World) (e : Ending) (w' : World) : Prop := ∃ (ys : List Int) (D : Option Addr) (d : Nat), e = .returned (.slice D ys.length d) ∧ ys.length ≤ m ∧ ys.length ≤ d ∧ B8 ys ∧ Rd .u8 w' w'.heap.size D ys ∧ Below B w w'
theorem B8.set_ {xs : List Int} (h : B8 xs) (q : Nat) {r : Int} (h0 : 0 ≤ r) (h1 : r < 256) : B8 (xs.set q r) := fun x hx => by
  rcases List.mem_or_eq_of_mem_set hx with a | a
  · exact h x a
  · rw [a]; exact ⟨h0, h1⟩

/-- Bytes in a row of the call's own. -/
def OwnPost (base B m : Nat) (w : World) (e : Ending) (w' : World) : Prop := ∃ (ys : List Int) (D : Option Addr) (d : Nat), e = .returned (.slice D ys.length d) ∧ ys.length ≤ m ∧ B8 ys ∧ w'.ownsRow base 5 1 (.slice D ys.length d) ys.length (ys.map (Value.int .u8)) ∧ Below B w w'
theorem own_head {w : World} {base : Nat} {e : TypeId} {n q c : Nat} {A : Option Addr} {xs : List Value} (h : w.ownsRow base e 1 (.slice A n c) n xs) (hq : q ≤ n) : w.ownsRow base e 1 (.slice A q c) q (xs.take q) := by
  have h1 := h.1
  refine ⟨by rw [List.length_take]; omega, ?_⟩
  rcases h.2 with ⟨h0, hv⟩ | ⟨g, cap, cur, hv, hb, hg, hle, hm, hs, ht⟩
  · have hq0 : q = 0 := by omega
    subst hv
    subst hq0
    exact .inl ⟨h0, rfl⟩
  · refine .inr ⟨g, cap, cur, ?_, hb, hg, by omega, hm, hs, ?_⟩
    · simp only [Value.slice.injEq, true_and] at hv ⊢
      exact hv
    · rw [← ht, List.take_take]
      congr 1
      omega

set_option maxRecDepth 100000 in
set_option maxHeartbeats 1600000 in
theorem l2SpoilO_any (g k base B : Nat) (A : Option Addr) (c : Nat) (l : List Int) (w : World) (hS : Src w g A c l k) (hk : k ≤ 900) (xs : List Int) (D : Option Addr) (d N : Nat) (hN : N ≤ 990) (hx : xs.length ≤ N) (x8 : B8 xs)
    (hrow : w.ownsRow base 5 1 (.slice D xs.length d) xs.length (xs.map (Value.int .u8))) (hgb : g < base) (hb : base ≤ w.heap.size) (hB : B ≤ g) :
    Calls Tryz.prog 25 #[.pointer (some ⟨g, 0, none⟩), .slice D xs.length d] w (OwnPost base B (N + 2) w) := by
  obtain ⟨i0, hi, hz0, hz1, hz2⟩ := info_parts info_u8
  have hcp := own_capE hrow
  have hgl := hS.lt
  by_cases h0 : xs.length = 0
  · have e0 : ((xs.length : Int) == 0) = true := beq_iff_eq.2 (by omega)
    clear h0
    go_enter Tryz.func25, Tryz.ntmps25
    go_wp2
    go_ret
    exact ⟨xs, D, d, rfl, by omega, x8, hrow, Below.refl _ _⟩
  · have e0 : ((xs.length : Int) == 0) = false := beq_eq_false_iff_ne.2 (by omega)
    go_enter Tryz.func25, Tryz.ntmps25
    go_wp2_with fail
    refine (l1Next_any g k 5 A c l _ hS (by omega) (by omega) (by omega)).mono ?_
    rintro e w1 ⟨s, rfl, s0, s1, S1, g1⟩
    have o1 := hrow.kept g1 (own_sep fun b hb e => by have := hrow.lt b hb; simp at e; omega)
    have B1 : Below B w w1 := (Below.refl _ _).grown g1 (by omega) (fun k hk => by simp at hk; omega)
    have z1 := g1.size
    clear s1 g1
    by_cases a0 : s = 0
    · subst a0
      go_wp2_with fail
      refine (l1Next_any g (k + 1) _ A c l _ S1 (by omega) (by omega) (by omega)).mono ?_
      rintro e w2 ⟨r, rfl, r0, r1, S2, g2⟩
      have hr : r < xs.length := by omega
      obtain ⟨q, rfl⟩ := Int.eq_ofNat_of_zero_le r0
      have hq : q < xs.length := by omega
      have o2 := o1.kept g2 (own_sep fun b hb e => by have := o1.lt b hb; simp at e; omega)
      have B2 := B1.grown g2 (by omega) (fun k hk => by simp at hk; omega)
      have z2 := g2.size
      clear r1 hr g2
      go_wp2_with fail
      refine (l1Pick_any g (k + 2) _ [0, 1, 2, 127, 128, 255] A c l _ _ (S2.alloc _) (by omega) (by simp) (by simp) (Bk.new _ _ _) (by have := S2.lt; omega)).mono ?_
      rintro e w3 ⟨v, rfl, hv, S3, g3⟩
      have o3 := (o2.alloc (.cells #[.int .i64 0, .int .i64 1, .int .i64 2, .int .i64 127, .int .i64 128, .int .i64 255] 2)).kept g3 (own_sep fun b hb e => by have := o2.lt b hb; simp at e; omega)
      have B3 := (B2.alloc (by omega) (.cells #[.int .i64 0, .int .i64 1, .int .i64 2, .int .i64 127, .int .i64 128, .int .i64 255] 2)).grown g3 (by simp; omega) (fun k hk => by simp at hk; omega)
      have hv' : 0 ≤ v ∧ v < 256 := by simp at hv; omega
      obtain ⟨hv0, hv1⟩ := hv'
      obtain ⟨gb, rfl⟩ : ∃ g, D = some ⟨g, 0, none⟩ := by
        rcases o3.2 with ⟨h', h''⟩ | ⟨g, cap, cur, h', _⟩
        · omega
        · simp only [Value.slice.injEq, true_and] at h'
          exact ⟨g, h'.1⟩
      have hf := o3.frozenAt q
      obtain ⟨x, hc⟩ : ∃ v, w3.cell? ⟨gb, q, none⟩ = some v := by
        rw [o3.cellAt q (by omega)]
        exact ⟨_, List.getElem?_eq_getElem (by rw [o3.1]; omega)⟩
      have hst := o3.stored q (.int .u8 v)
      have hgb2 := (o3.lt gb rfl).1
      have HS := hide hst.1
      have B4 : Below B w (w3.setCell ⟨gb, q, none⟩ (.int .u8 v)) := B3.setCell (by simp only; omega) _
      have HB := hide B4
      clear hst hv o1 o2 o3 B1 B2 B3 B4 S1 S2 S3 g3
      go_wp2
      go_ret
      have hrow' := HS.out
      rw [show (xs.map (Value.int IntKind.u8)).set q (.int .u8 v) = (xs.set q v).map (Value.int .u8) by rw [List.map_set]] at hrow'
      exact ⟨xs.set q v, some ⟨gb, 0, none⟩, d, (by rw [List.length_set]; rfl), by rw [List.length_set]; omega, x8.set_ q hv0 hv1, by rw [List.length_set]; exact hrow', HB.out⟩
    · by_cases a1 : s = 1
      · subst a1
        clear a0
        go_wp2_with fail
        refine (l1Next_any g (k + 1) _ A c l _ S1 (by omega) (by omega) (by omega)).mono ?_
        rintro e w2 ⟨r, rfl, r0, r1, S2, g2⟩
        have hr : r < xs.length := by omega
        obtain ⟨q, rfl⟩ := Int.eq_ofNat_of_zero_le r0
        have hq : q < xs.length := by omega
        have hqd : q ≤ d := by omega
        have o2 := o1.kept g2 (own_sep fun b hb e => by have := o1.lt b hb; simp at e; omega)
        have B2 := B1.grown g2 (by omega) (fun k hk => by simp at hk; omega)
        have r2 := own_head o2 (Nat.le_of_lt hq)
        rw [← List.map_take] at r2
        have hlt : (xs.take q).length = q := by rw [List.length_take]; omega
        have HL := hide hlt
        clear r1 hr g2 hlt
        go_wp2
        go_ret
        exact ⟨xs.take q, D, d, (by rw [HL.out]; rfl), by rw [HL.out]; omega, x8.take q, by rw [HL.out]; exact r2, B2⟩
      · by_cases a2 : s = 2
        · subst a2
          clear a0 a1
          go_wp2_with fail
          refine (l1Pick_any g (k + 1) _ [1, 2] A c l _ _ (S1.alloc _) (by omega) (by simp) (by simp) (Bk.new _ _ _) (by have := S1.lt; omega)).mono ?_
          rintro e w2 ⟨r, rfl, hm, S2, g2⟩
          have hm' : r = 1 ∨ r = 2 := by simpa using hm
          obtain ⟨n, rfl⟩ := Int.eq_ofNat_of_zero_le (show 0 ≤ r by omega)
          have hn : n ≤ 2 := by omega
          have o2 := (o1.alloc (.cells #[.int .i64 1, .int .i64 2] 2)).kept g2 (own_sep fun b hb e => by have := o1.lt b hb; simp at e; omega)
          have B2 := (B1.alloc (by omega) (.cells #[.int .i64 1, .int .i64 2] 2)).grown g2 (by simp; omega) (fun k hk => by simp at hk; omega)
          have z2 : w1.heap.size ≤ w2.heap.size := by have := g2.size; simp at this; omega
          clear hm hm' g2
          go_wp2_with fail
          refine (l1Some_any g (k + 2) n A c l w2 S2 (by omega)).mono ?_
          rintro e w3 ⟨zs, D3, d3, rfl, hzl, z8, o3, S3, g3⟩
          have o2' := o2.kept g3 (own_sep fun b hb e => by have := o2.lt b hb; simp at e; omega)
          have B3 := B2.grown g3 (by omega) (fun k hk => by simp at hk; omega)
          have z3 := g3.size
          have r3 := Rd.of_own o3
          have hzz : zs.length ≤ 2 := by omega
          clear g3 o2 hzl
          go_wp2_with (at_builtin; refine wpList_append_rd _ rfl (.tmp 33) (.tmp 38) 22 rfl base 5 i0 (.int .u8 0) 1 Tryz.underlying22 hi hz0 hz1 hz2 rfl .u8 _ _ _ rfl o2' D3 zs d3 _ rfl r3 (by unfold maxLen; omega) (by omega) (by omega) ?_; intro v4 w4 o4 g4 hat4)
          have B4 := B3.trans (grown_below o2' g4 (by omega) (by omega : B ≤ base))
          have e4 : xs.length + zs.length = (xs ++ zs).length := List.length_append.symm
          rw [← List.map_append, e4] at o4
          obtain ⟨D5, d5, hv⟩ := own_shape o4
          have HV := hide hv
          clear hv g4 hat4
          go_wp2
          go_ret
          have o5 := o4
          rw [HV.out] at o5
          have hcp5 := own_capE o5
          exact ⟨xs ++ zs, D5, d5, congrArg Ending.returned HV.out, by rw [← e4]; omega, x8.append z8, o5, B4⟩
        · have b0 : (s == 0) = false := beq_eq_false_iff_ne.2 a0
          have b1 : (s == 1) = false := beq_eq_false_iff_ne.2 a1
          have b2 : (s == 2) = false := beq_eq_false_iff_ne.2 a2
          clear a0 a1 a2
          go_wp2
          go_ret
          exact ⟨xs, D, d, rfl, by omega, x8, o1, B1⟩
theorem l2SpoilN_any (g k base B : Nat) (A : Option Addr) (c : Nat) (l : List Int) (w : World) (hS : Src w g A c l k) (hk : k ≤ 900) (xs : List Int) (D : Option Addr) (d N : Nat) (hN : N ≤ 990) (hx : xs.length ≤ N) (x8 : B8 xs)
    (hrow : w.ownsRow base 5 1 (.slice D xs.length d) xs.length (xs.map (Value.int .u8))) (hgb : g < base) (hb : base ≤ w.heap.size) (hB : B ≤ g) :
    Calls Tryz.prog 25 #[.pointer (some ⟨g, 0, none⟩), .slice D xs.length d] w (BytPost B (N + 2) w) := by
  refine (l2SpoilO_any g k base B A c l w hS hk xs D d N hN hx x8 hrow hgb hb hB).mono ?_
  rintro e w1 ⟨ys, D, d, h1, h2, h3, h4, h5⟩
  exact ⟨ys, D, d, h1, h2, (own_capE h4).1, h3, Rd.of_own h4, h5⟩
theorem l2Spoil_any (g k base B : Nat) (A : Option Addr) (c : Nat) (l : List Int) (w : World) (hS : Src w g A c l k) (hk : k ≤ 900) (xs : List Int) (D : Option Addr) (d : Nat) (hx : xs.length ≤ 150) (x8 : B8 xs)
    (hrow : w.ownsRow base 5 1 (.slice D xs.length d) xs.length (xs.map (Value.int .u8))) (hgb : g < base) (hb : base ≤ w.heap.size) (hB : B ≤ g) :
    Calls Tryz.prog 25 #[.pointer (some ⟨g, 0, none⟩), .slice D xs.length d] w (BytPost B 152 w) :=
  l2SpoilN_any g k base B A c l w hS hk xs D d 150 (by omega) hx x8 hrow hgb hb hB
end Go.Proofs.YtmnpiakcppcmgaaGreatDoor
namespace Go.Proofs.YtmnpiakcppcmgaaGreatDoor
open Go.RowKit

theorem made_nil (n : Nat) : (madeCells (Value.slice none 0 0).cells (n * 1)).toList = List.replicate n (Value.slice none 0 0) := by
  apply List.ext_getElem
  · simp [madeCells]
  · intro i h1 h2
    simp [madeCells, Value.cells, Nat.mod_one]
theorem rdT_nils {w : World} {base n : Nat} {A : Option Addr} {c : Nat} (h : w.ownsRow base 45 1 (.slice A n c) n (List.replicate n (Value.slice none 0 0))) : RdT w w.heap.size A (List.replicate n []) := by
  intro h0
  rw [List.length_replicate] at h0
  rcases h.2 with ⟨_, h''⟩ | ⟨g, cap, cur, h', _⟩
  · omega
  · simp only [Value.slice.injEq] at h'
    obtain ⟨rfl, _, rfl⟩ := h'
    refine ⟨g, 0, rfl, (h.lt g rfl).2, fun i hi => ?_⟩
    have hi' : i < n := by simpa using hi
    refine ⟨none, 0, ?_, by simp, by simp, by simpa using RdE.nil_⟩
    rw [Nat.zero_add, h.cellAt i (by omega), List.getElem?_replicate]
    simp [hi']
theorem OwnT.rd_ {w : World} {base n c : Nat} {A : Option Addr} {t : List (List Ev)} {us : List Value} (h : OwnT w base (.slice A n c) t us) (hn : n = t.length) : RdT w w.heap.size A t := by
  subst hn
  exact h.rd
/-- What the walk is left with: a trace to read, and the source gone on. -/
def BentPost (w : World) (g : Nat) (A : Option Addr) (c : Nat) (l : List Int) (k : Nat) (e : Ending) (w' : World) : Prop :=
  ∃ (t : List (List Ev)) (D : Option Addr) (d : Nat), e = .returned (.slice D t.length d) ∧ t.length ≤ 5 ∧ (∀ x ∈ t, x.length ≤ 20) ∧ (∀ w2 : World, w'.grownBy w2 (some g) → RdT w2 w2.heap.size D t) ∧ Went w g A c l k 260 w'
theorem set_len {t : List (List Ev)} {i n : Nat} {es : List Ev} (h : ∀ x ∈ t, x.length ≤ n) (he : es.length ≤ n) : ∀ x ∈ t.set i es, x.length ≤ n := fun x hx => by
  rcases List.mem_or_eq_of_mem_set hx with a | a
  · exact h x a
  · rw [a]; exact he

/-- The contract of the bent traces, as what draws on it asks. -/
def BentOk : Prop := ∀ (g k : Nat) (A : Option Addr) (c : Nat) (l : List Int) (w : World), Src w g A c l k → k ≤ 100 →
    Calls Tryz.prog 18 #[.pointer (some ⟨g, 0, none⟩)] w (BentPost w g A c l k)
end Go.Proofs.YtmnpiakcppcmgaaGreatDoor
namespace Go.Proofs.YtmnpiakcppcmgaaGreatDoor
open Go.RowKit

/-- Events to read, in new memory or none. -/
def EvsPost (w : World) (e : Ending) (w' : World) : Prop := ∃ (es : List Ev) (D : Option Addr) (d : Nat), e = .returned (.slice D es.length d) ∧ es.length ≤ 20 ∧ RdE w' w'.heap.size D es ∧ Below w.heap.size w w'
def TrPost (w : World) (e : Ending) (w' : World) : Prop := ∃ (t : List (List Ev)) (D : Option Addr) (d : Nat), e = .returned (.slice D t.length d) ∧ t.length ≤ 5 ∧ (∀ x ∈ t, x.length ≤ 20) ∧ RdT w' w'.heap.size D t ∧ Below w.heap.size w w'

def EvPost (w : World) (e : Ending) (w' : World) : Prop := ∃ k a v : Int, e = .returned (evV k a v) ∧ Below w.heap.size w w'

end Go.Proofs.YtmnpiakcppcmgaaGreatDoor
