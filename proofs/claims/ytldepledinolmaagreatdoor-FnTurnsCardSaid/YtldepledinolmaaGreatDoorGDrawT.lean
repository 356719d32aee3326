/- Contracts of the model's draws of events. Contracts of the model's spoilt bytes, and of the draw of bytes to read steps of. -/
import Derived.Test.YtldepledinolmaaGreatDoorGEv
import Derived.Test.YtldepledinolmaaGreatDoorGDraw
import Derived.Test.YtldepledinolmaaGreatDoorGUnp
import Derived.Test.YtldepledinolmaaGreatDoorGBase
import Derived.Test.YtldepledinolmaaGreatDoorPackS
import Derived.Laws.BitsAllLaws
namespace Go.Proofs.YtldepledinolmaaGreatDoor
open Go.RowKit

/-- The source in block g went on by m readings at most; nothing else below is turned. -/
def Went (w : World) (g : Nat) (A : Option Addr) (c : Nat) (l : List Int) (k m : Nat) (w' : World) : Prop := ∃ k', k' ≤ k + m ∧ Src w' g A c l k' ∧ w.grownBy w' (some g)

set_option maxHeartbeats 400000 in
theorem l2Event_any (g k : Nat) (A : Option Addr) (c : Nat) (l : List Int) (w : World) (hS : Src w g A c l k) (hk : k ≤ 900) :
    Calls Tryz.prog 102 #[.pointer (some ⟨g, 0, none⟩)] w fun e w' => ∃ x : Ev, e = .returned (evV x.k x.a x.v) ∧ evF x = 0 ∧ Went w g A c l k 3 w' := by
  obtain ⟨W, hW⟩ : ∃ W, W = w.alloc (Obj.cells #[Value.int .i64 0, .int .i64 0, .int .i64 0] 83) := ⟨_, rfl⟩
  have HW := hide hW
  have kr : Bk W w.heap.size #[.int .i64 0, .int .i64 0, .int .i64 0] 83 := by rw [hW]; exact Bk.new _ _ _
  have S0 : Src W g A c l k := by rw [hW]; exact hS.alloc _
  have G0 : w.grownBy W (some g) := by rw [hW]; exact World.grownBy_alloc _ _ _
  have hgl := hS.lt
  clear hW
  go_enter Tryz.func102, Tryz.ntmps102
  go_wp2_with fail
  rw [← HW.out]
  refine (l1Next_any g k 2 A c l W S0 (by omega) (by omega) (by omega)).mono ?_
  rintro e w1 ⟨r, rfl, h0, h1, S1, g1⟩
  have kr := kr.grown g1 (by simp; omega)
  have G1 := G0.trans g1
  clear g1
  go_wp2_with fail
  refine (l1Pick_any g (k + 1) _ [0, 1, 2, 1, 2, 1000, 999999] A c l _ _ (S1.alloc _) (by omega) (by simp) (by simp) (Bk.new _ _ _) (by have := S1.lt; omega)).mono ?_
  rintro e w2 ⟨a, rfl, ha, S2, g2⟩
  have kr := (kr.alloc _).grown g2 (by simp; omega)
  have G2 := G1.trans (grown_alloc g2)
  clear g2
  go_wp2_with fail
  refine (l1Pick_any g (k + 2) _ [0, 1, 2, 1, 2, 999999, 127, 128] A c l _ _ (S2.alloc _) (by omega) (by simp) (by simp) (Bk.new _ _ _) (by have := S2.lt; omega)).mono ?_
  rintro e w3 ⟨v, rfl, hv, S3, g3⟩
  have kr := (kr.alloc _).grown g3 (by simp; omega)
  have G3 := G2.trans (grown_alloc g3)
  clear g3
  have q0 : w3.cell? ⟨w.heap.size, 0, none⟩ = some (.int .i64 0) := (kr.cell 0).trans rfl
  have q1 : w3.cell? ⟨w.heap.size, 1, none⟩ = some (.int .i64 0) := (kr.cell 1).trans rfl
  have q2 : w3.cell? ⟨w.heap.size, 2, none⟩ = some (.int .i64 0) := (kr.cell 2).trans rfl
  have f0 := kr.frozen 0
  have f1 := kr.frozen 1
  have f2 := kr.frozen 2
  go_wp2
  refine bodyPost_ret (v := evV r a v) (by simp [results, Tryz.results102, go_sem, q0, q1, q2]) rfl ?_
  refine ⟨⟨r, a, v⟩, rfl, evF_ok (by simp only; omega) ?_, k + 3, by omega, ?_, ?_⟩
  · simp at ha hv
    simp only
    omega
  · exact S3.below (B := g + 1) ((((Below.refl _ _).setCell (by simp only; omega) _).setCell (by simp only; omega) _).setCell (by simp only; omega) _) (Nat.lt_succ_self _)
  · exact grown_new (Nat.le_refl _) _ (grown_new (Nat.le_refl _) _ (grown_new (Nat.le_refl _) _ G3))

set_option maxRecDepth 100000 in
set_option maxHeartbeats 800000 in
theorem l2Steps_any (g k n : Nat) (A : Option Addr) (c : Nat) (l : List Int) (w : World) (hS : Src w g A c l k) (hk : k ≤ 600) (hn : n ≤ 20) :
    Calls Tryz.prog 93 #[.pointer (some ⟨g, 0, none⟩), .int .i64 n] w fun e w' => ∃ es D d, e = .returned (.slice D es.length d) ∧ es.length ≤ n ∧ (∀ x ∈ es, evF x = 0) ∧ w'.ownsRow w.heap.size 83 3 (.slice D es.length d) es.length (evs es) ∧ Went w g A c l k 61 w' := by
  obtain ⟨i0, hi, hz0, hz1, hz2⟩ := info_parts info_event
  have hgl := hS.lt
  go_enter Tryz.func93, Tryz.ntmps93
  go_wp2_with fail
  refine (l1Next_any g k _ A c l _ (hS.alloc _) (by omega) (by omega) (by omega)).mono ?_
  rintro e w1 ⟨r, rfl, h0, h1, S1, g1⟩
  have hr : r ≤ n := by omega
  obtain ⟨N, rfl⟩ := Int.eq_ofNat_of_zero_le h0
  have hN : N ≤ n := by omega
  have o1 := (World.ownsRow_lit w #[] 0 (e := 83) (size := 3) (base := w.heap.size) (Nat.le_refl _) (by simp) rfl).kept g1 (.inr (by simp [Value.ownBlock]; omega))
  have G1 := grown_alloc g1
  clear g1 h1 hr
  go_wp2
  go_loopw [5, 6] (fun v q wr => ∃ (es : List Ev) (m k' : Nat), m + es.length = N ∧ q = .int .i64 m ∧ (∀ x ∈ es, evF x = 0) ∧ wr.ownsRow w.heap.size 83 3 v es.length (evs es) ∧ Src wr g A c l k' ∧ k' + 3 * m ≤ k + 1 + 3 * N ∧ w.grownBy wr (some g)) (fun _ q _ => (intOf q).toNat)
  case atStart => exact ⟨[], N, k + 1, rfl, rfl, by simp, o1, S1, by omega, G1⟩
  case round =>
    obtain ⟨es, m, k', hm, rfl, hall, ho, hSr, hkk, hgr⟩ := hrel
    have HM := hide hm
    have hx1 : es.length ≤ 20 := by omega
    have hm1 : m ≤ 20 := by omega
    clear hm
    have hsz := hgr.size
    by_cases hlt : 0 < m
    · go_wp2_with fail
      refine (l2Event_any g k' A c l wr hSr (by omega)).mono ?_
      rintro e w1 ⟨x, rfl, hx, k2, hk2, hS1, hg1⟩
      have ho1 := ho.kept hg1 (.inr (fun e => own_apart ho g (.inl hgl) e.symm))
      have hgr1 := hgr.trans hg1
      have hsz1 := hgr1.size
      clear hg1
      go_wp2_with (at_builtin; refine wpList_append_own_at _ rfl _ _ 78 rfl w.heap.size 83 i0 (.agg #[.int .i64 0, .int .i64 0, .int .i64 0]) 3 24 Tryz.underlying78 hi hz0 hz1 hz2 rfl (by decide) _ _ _ rfl (ho1.alloc _) ⟨w1.heap.size, 0, none⟩ 1 1 [.int .i64 x.k, .int .i64 x.a, .int .i64 x.v] rfl rfl (cell_three_new _ _ _ _ _) (one_cells3 _ _ _ _) (by unfold maxLen; omega) (by omega) (by simp; omega) ?_; intro v' w2 hown' hgrow _ hat)
      have hbl : Below w.heap.size w1 w2 := ((Below.refl _ _).alloc hsz1 _).trans (grown_below (ho1.alloc (.cells #[.int .i64 x.k, .int .i64 x.a, .int .i64 x.v] 83)) hgrow (by simp; omega) (Nat.le_refl _))
      have hgr2 : w.grownBy w2 (some g) := hgr1.andThen (grown_alloc hgrow) (fun j hj => .inl (ho1.lt j hj).1)
      clear hgrow hat
      go_roundw
      case rel => exact ⟨es ++ [x], m - 1, k2, by have := HM.out; simp; omega, by go_num, by intro y hy; rcases List.mem_append.1 hy with h | h; exact hall y h; simp at h; rw [h]; exact hx, by rw [List.length_append, evs_append]; exact hown', hS1.below hbl hgl, by omega, hgr2⟩
      case measure => simp [intOf]; omega
    · obtain ⟨D, d, hv⟩ := own_shape ho
      have HV := hide hv
      clear hv
      go_wp2
      go_ret
      have hn : es.length = N := by have := HM.out; omega
      have ho2 := ho
      rw [HV.out] at ho2
      exact ⟨es, D, d, congrArg Ending.returned HV.out, by omega, hall, ho2, k', by omega, hSr, hgr⟩
end Go.Proofs.YtldepledinolmaaGreatDoor
namespace Go.Proofs.YtldepledinolmaaGreatDoor
open Go.RowKit

/-- Bytes to read; below B nothing is turned. -/
def BytPost (B m : Nat) (w : World) (e : Ending) (w' : World) : Prop := ∃ (ys : List Int) (D : Option Addr) (d : Nat), e = .returned (.slice D ys.length d) ∧ ys.length ≤ m ∧ ys.length ≤ d ∧ B8 ys ∧ Rd .u8 w' w'.heap.size D ys ∧ Below B w w'
theorem B8.set_ {xs : List Int} (h : B8 xs) (q : Nat) {r : Int} (h0 : 0 ≤ r) (h1 : r < 256) : B8 (xs.set q r) := fun x hx => by
  rcases List.mem_or_eq_of_mem_set hx with a | a
  · exact h x a
  · rw [a]; exact ⟨h0, h1⟩

/-- Bytes in a row of the call's own. -/
def OwnPost (base B m : Nat) (w : World) (e : Ending) (w' : World) : Prop := ∃ (ys : List Int) (D : Option Addr) (d : Nat), e = .returned (.slice D ys.length d) ∧ ys.length ≤ m ∧ B8 ys ∧ w'.ownsRow base 5 1 (.slice D ys.length d) ys.length (ys.map (Value.int .u8)) ∧ Below B w w'
theorem own_head {w : World} {base : Nat} {e : TypeId} {n q c : Nat} {A : Option Addr} {xs : List Value} (h : w.ownsRow base e 1 (.slice A n c) n xs) (hq : q ≤ n) : w.ownsRow base e 1 (.slice A q c) q (xs.take q) := by
  have h1 := h.1
  refine ⟨by rw [List.length_take]; omega, ?_⟩
  rcases h.2 with ⟨h0, hv⟩ | ⟨g, cap, cur, hv, hb, hg, hle, hm, hs, ht⟩
  · have hq0 : q = 0 := by omega
    subst hv
    subst hq0
    exact .inl ⟨h0, rfl⟩
  · refine .inr ⟨g, cap, cur, ?_, hb, hg, by omega, hm, hs, ?_⟩
    · simp only [Value.slice.injEq, true_and] at hv ⊢
      exact hv
    · rw [← ht, List.take_take]
      congr 1
      omega

end Go.Proofs.YtldepledinolmaaGreatDoor
