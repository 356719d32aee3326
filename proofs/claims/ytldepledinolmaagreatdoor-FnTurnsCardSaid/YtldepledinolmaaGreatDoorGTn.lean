/- The draws of the law of turned bits. The draw of IsCaught. The walk of the law of turned bits. -/
import Derived.Test.YtldepledinolmaaGreatDoorGCau
import Derived.Test.YtldepledinolmaaGreatDoorGWh
import Derived.Test.YtldepledinolmaaGreatDoorGLog
import Derived.Deep.RegionHeld3
import Derived.Deep.DeepCutAuto
namespace Go.Proofs.YtldepledinolmaaGreatDoor
open Go.RowKit

theorem cell_src {w w' : World} {g b i : Nat} {s : Value} {k k' : Int} {T : TypeId} (hs : Bk w g #[s, .int .i64 k] T) (hs' : Bk w' g #[s, .int .i64 k'] T) (hg : w.grownBy w' (some g)) (v : Value) (hv : w.cell? ⟨b, i, none⟩ = some v) (hn : b = g → i ≠ 1) : w'.cell? ⟨b, i, none⟩ = some v := by
  by_cases e : b = g
  · subst e
    rw [hs.cell i] at hv
    rw [hs'.cell i]
    match i, hn rfl with
    | 0, _ => exact hv
    | 1, h => exact absurd rfl h
    | (j + 2), _ => simp at hv
  · exact hg.cell hv (by simp; omega)
theorem RdE.src {w w' : World} {g B : Nat} {A : Option Addr} {es : List Ev} {n c : Nat} {Z : Option Addr} {k k' : Int} {T : TypeId} (h : RdE w B A es) (hs : Bk w g #[.slice Z n c, .int .i64 k] T) (hs' : Bk w' g #[.slice Z n c, .int .i64 k'] T) (hg : w.grownBy w' (some g)) : RdE w' B A es := by
  intro h0
  obtain ⟨b, off, e, hb, hc⟩ := h h0
  have h3 : 3 ≤ (evs es).length := by rw [evs_length] at h0 ⊢; omega
  refine ⟨b, off, e, hb, fun i hi => cell_src hs hs' hg _ (hc i hi) ?_⟩
  intro hbg _
  subst hbg
  have c0 := hc 0 (by omega)
  have c1 := hc 1 (by omega)
  have c2 := hc 2 (by omega)
  rw [hs.cell] at c0 c1 c2
  have he : 0 < es.length := by rw [evs_length] at h0; omega
  obtain ⟨z0, z1, z2⟩ := evs_get es 0 he
  rw [Nat.zero_mul, List.getElem?_eq_getElem (by omega)] at z0
  match off, c0, c1, c2 with
  | 0, c0, _, _ => simp [Option.some.inj z0] at c0
  | (o + 1), _, c1, _ => simp at c1
theorem RdT.src {w w' : World} {g B : Nat} {A : Option Addr} {t : List (List Ev)} {n c : Nat} {Z : Option Addr} {k k' : Int} {T : TypeId} (h : RdT w B A t) (hs : Bk w g #[.slice Z n c, .int .i64 k] T) (hs' : Bk w' g #[.slice Z n c, .int .i64 k'] T) (hg : w.grownBy w' (some g)) : RdT w' B A t := by
  intro h0
  obtain ⟨b, off, e, hb, hc⟩ := h h0
  refine ⟨b, off, e, hb, fun i hi => ?_⟩
  obtain ⟨a, c', h1, h2, h3, h4⟩ := hc i hi
  refine ⟨a, c', cell_src hs hs' hg _ h1 ?_, h2, h3, h4.src hs hs' hg⟩
  intro hbg hi1
  subst hbg
  rw [hs.cell, hi1] at h1
  simp at h1
theorem l1Later_any (l : List Int) (A : Option Addr) (c : Nat) (w : World) (h : Rd .u8 w w.heap.size A l) (b8 : B8 l) (hl : l.length ≤ 1048576) :
    Calls Tryz.prog 22 #[.slice A l.length c, .int .i64 3] w fun e w' => e = .returned (.pointer (some ⟨w.heap.size, 0, none⟩)) ∧ Src w' w.heap.size A c l 26 ∧ Below w.heap.size w w' := by
  go_enter Tryz.func22, Tryz.ntmps22
  go_wp2
  go_ret
  exact ⟨rfl, ⟨Bk.new _ _ _, h.alloc (Nat.le_refl _) _, b8, hl⟩, by go_grown⟩
/-- A draw for TurnBit. -/
def TnPost (w : World) (e : Ending) (w' : World) : Prop := ∃ (xs : List Int) (p q : Int) (D : Option Addr) (d : Nat), e = .returned (.tuple #[.slice D xs.length d, .int .i64 p, .int .i64 q]) ∧ xs.length ≤ 4001 ∧ xs.length ≤ d ∧ B8 xs ∧ Rd .u8 w' w'.heap.size D xs ∧ Below w.heap.size w w'
set_option maxRecDepth 100000 in
set_option maxHeartbeats 1600000 in
theorem DrawTb_any (l : List Int) (A : Option Addr) (c : Nat) (w : World) (hl : l.length ≤ 1048576) (hR : Rd .u8 w w.heap.size A l) (b8 : B8 l) :
    Calls Tryz.prog 9 #[.slice A l.length c] w (TnPost w) := by
  obtain ⟨i0, hi, hz0, hz1, hz2⟩ := info_parts info_u8
  go_enter Tryz.func9, Tryz.ntmps9
  go_wp2_with fail
  refine (l1Source_any l A c w hR b8 hl).mono ?_
  rintro e w1 ⟨rfl, S1, B1⟩
  go_wp2_with fail
  refine (l1Pick_any _ _ _ [0, 1, 9, 40] A c l _ _ (S1.alloc _) (by omega) (by simp) (by simp) (Bk.new _ _ _) (by have := S1.lt; omega)).mono ?_
  rintro e w2 ⟨r, rfl, hm, S2, g2⟩
  have B2 := grown_from B1 (grown_alloc g2) B1.size (Nat.le_refl _)
  have hr : 0 ≤ r ∧ r ≤ 40 := by simp at hm; omega
  obtain ⟨h0, h1⟩ := hr
  obtain ⟨n, rfl⟩ := Int.eq_ofNat_of_zero_le h0
  clear hm
  go_wp2_with fail
  refine (l1Some_any _ _ n A c l w2 S2 (by omega)).mono ?_
  rintro e w3 ⟨xs, D, d, rfl, hx, h8, ho, S3, g3⟩
  have B3 := grown_from B2 g3 B2.size (Nat.le_refl _)
  have hx4 : xs.length ≤ 4001 := by omega
  clear hx
  have s2lt := S2.lt
  go_wp2_with fail
  refine (l1Chance_any _ _ _ A c l w3 S3 (by omega) (by omega) (by omega)).mono ?_
  rintro e w4 ⟨bo, rfl, S4, g4⟩
  have B4 := grown_from B3 g4 B3.size (Nat.le_refl _)
  have ho4 := ho.kept g4 (.inr (fun e => own_apart ho _ (.inl s2lt) e.symm))
  have s4lt := S4.lt
  clear ho S3 g4 S2
  cases bo
  · go_wp2_with fail
    refine (l1Next_any _ _ _ A c l w4 S4 (by omega) (by omega) (by omega)).mono ?_
    rintro e w5 ⟨r2, rfl, hr0, hr2, S5, g5⟩
    have B5 := grown_from B4 g5 B4.size (Nat.le_refl _)
    have ho5 := ho4.kept g5 (.inr (fun e => own_apart ho4 _ (.inl s2lt) e.symm))
    have hr3 : r2 ≤ 5000 := by omega
    clear hr2
    go_wp2_with fail
    refine (l1Pick_any _ _ _ [0, 1, 7, 8, -1, 3] A c l _ _ (S5.alloc _) (by omega) (by simp) (by simp) (Bk.new _ _ _) (by have := S5.lt; omega)).mono ?_
    rintro e w6 ⟨r3, rfl, hm, S6, g6⟩
    have B6 := grown_from B5 (grown_alloc g6) B5.size (Nat.le_refl _)
    have ho6 := ho5.kept (grown_alloc g6) (.inr (fun e => own_apart ho5 _ (.inl s2lt) e.symm))
    clear hm
    go_wp2
    refine bodyPost_ret (v := .tuple #[.slice D xs.length d, .int .i64 (r2 - 1), .int .i64 r3]) (by simp [results, Tryz.results9, go_sem]) rfl ?_
    exact ⟨xs, r2 - 1, r3, D, d, rfl, hx4, (own_capE ho6).1, h8, Rd.of_own (k := .u8) ho6, B6⟩
  · go_wp2_with fail
    refine (l1Pick_any _ _ _ [4000, 4001] A c l _ _ (S4.alloc _) (by omega) (by simp) (by simp) (Bk.new _ _ _) (by have := S4.lt; omega)).mono ?_
    rintro e wp ⟨r, rfl, hm, Sp, gp⟩
    have Bp := grown_from B4 (grown_alloc gp) B4.size (Nat.le_refl _)
    have hr : 0 ≤ r ∧ r ≤ 4001 := by simp at hm; omega
    obtain ⟨h0, h1⟩ := hr
    obtain ⟨m, rfl⟩ := Int.eq_ofNat_of_zero_le h0
    have splt := Sp.lt
    clear hm
    go_wp2_with (at_make; refine wpList_make_full _ rfl _ _ 22 rfl wp.heap.size 5 i0 (.int .u8 0) 1 Tryz.underlying22 hi hz0 hz1 .i64 .i64 _ _ m rfl rfl rfl rfl (by rw [hz2]; omega) (by unfold maxLen; omega) (Nat.le_refl _) ?_; intro w4' hown hg)
    have Bm : Below w.heap.size w w4' := Bp.grown hg Bp.size (by simp)
    have Sm := Sp.below ((Below.refl _ _).grown hg (Nat.le_refl _) (by simp)) splt
    rw [made_u8] at hown
    have e2 : List.replicate m (Value.int .u8 0) = (List.replicate m (0 : Int)).map (Value.int .u8) := by simp
    have e1 : (List.replicate m (0 : Int)).length = m := by simp
    have h8' : B8 (List.replicate m (0 : Int)) := fun x hx => by rw [List.eq_of_mem_replicate hx]; omega
    rw [e2] at hown
    obtain ⟨ys, hys⟩ : ∃ ys, ys = List.replicate m (0 : Int) := ⟨_, rfl⟩
    rw [← hys] at hown e1 h8'
    have hown' : w4'.ownsRow wp.heap.size 5 1 (.slice (some ⟨wp.heap.size, 0, none⟩) ys.length m) ys.length (ys.map (Value.int .u8)) := by rw [e1]; exact hown
    clear hown e2 hys ho4
    go_wp2_with fail
    refine (l1Next_any _ _ _ A c l w4' Sm (by omega) (by omega) (by omega)).mono ?_
    rintro e w5 ⟨r2, rfl, hr0, hr2, S5, g5⟩
    have B5 := grown_from Bm g5 Bm.size (Nat.le_refl _)
    have ho5 := hown'.kept g5 (.inr (fun e => own_apart hown' _ (.inl splt) e.symm))
    have hr3 : r2 ≤ 5000 := by omega
    clear hr2
    go_wp2_with fail
    refine (l1Pick_any _ _ _ [0, 1, 7, 8, -1, 3] A c l _ _ (S5.alloc _) (by omega) (by simp) (by simp) (Bk.new _ _ _) (by have := S5.lt; omega)).mono ?_
    rintro e w6 ⟨r3, rfl, hm, S6, g6⟩
    have B6 := grown_from B5 (grown_alloc g6) B5.size (Nat.le_refl _)
    have ho6 := ho5.kept (grown_alloc g6) (.inr (fun e => own_apart ho5 _ (.inl splt) e.symm))
    clear hm
    go_wp2
    refine bodyPost_ret (v := .tuple #[.slice (some ⟨wp.heap.size, 0, none⟩) ys.length m, .int .i64 (r2 - 1), .int .i64 r3]) (by simp [results, Tryz.results9, go_sem, e1]) rfl ?_
    exact ⟨ys, r2 - 1, r3, _, m, rfl, by omega, by omega, h8', Rd.of_own (k := .u8) ho6, B6⟩
end Go.Proofs.YtldepledinolmaaGreatDoor
namespace Go.Proofs.YtldepledinolmaaGreatDoor
open Go.RowKit

/-- A draw for IsCaught. -/
def TcPost (w : World) (e : Ending) (w' : World) : Prop := ∃ (t : List (List Ev)) (b p q : Int) (D : Option Addr) (d : Nat), e = .returned (.tuple #[.slice D t.length d, .int .i64 b, .int .i64 p, .int .i64 q]) ∧ t.length ≤ 5 ∧ RdT w' w'.heap.size D t ∧ Below w.heap.size w w'
theorem field_intsD (a : Int) (D : Option Addr) (n d : Nat) (W : World) : (Instr.field 30 (.agg #[.int .i64 a, .slice D n d]) 1).run Tryz.prog W = .ok (.slice D n d) W := by kernel_rfl
set_option maxRecDepth 100000 in
set_option maxHeartbeats 1600000 in
theorem DrawCau_any (l : List Int) (A : Option Addr) (c : Nat) (w : World) (hl : l.length ≤ 1048576) (hR : Rd .u8 w w.heap.size A l) (b8 : B8 l) :
    Calls Tryz.prog 6 #[.slice A l.length c] w (TcPost w) := by
  go_enter Tryz.func6, Tryz.ntmps6
  go_wp2_with fail
  refine (l1Later_any l A c w hR b8 hl).mono ?_
  rintro e w1 ⟨rfl, S1, B1⟩
  go_wp2_with fail
  refine (DrawEncodeTrace_any bentK l A c w1 hl (hR.below B1).lt b8).mono ?_
  rintro e w2 ⟨t, b, D, d, rfl, hb0, hb9, ht5, ht20, r2, b2⟩
  have S2 := S1.below b2 S1.lt
  have B2 := B1.trans (b2.mono B1.size)
  have SP := hide (specSpo_any t b D d w2 (by unfold maxLen; omega) r2)
  unfold SpoPost at SP
  obtain ⟨S, hS⟩ : ∃ S, S = spL t b := ⟨_, rfl⟩
  have hs6 : S.length ≤ 1000000 := by
    rw [hS]
    by_cases h0 : fcC t b = 0
    · obtain ⟨e0, e1, e2⟩ := fcC_zero h0
      have hb1 : 1 ≤ b.toNat := by omega
      have hfew := filL_few hb1 e0
      have hb8 := filL_B8 hb1 e0
      rw [spL_ok h0]
      obtain ⟨cs, last, hst, h2⟩ := filL_start hb1 e0
      have := spS_len _ _ _ hb8 ⟨cs, last, 0, hst⟩ h2
      omega
    · rw [spL_no h0]; simp
  obtain ⟨C, hC⟩ : ∃ C, C = fcC t b := ⟨_, rfl⟩
  rw [← hS, ← hC] at SP
  have hfd := field_intsD C
  clear hS hC hb0 hb9 ht20
  go_wp2_with fail
  refine SP.out.mono ?_
  rintro e w3 ⟨E, ec, rfl, os, b3⟩
  have S3 := S2.below b3 S2.lt
  have B3 := B2.trans (b3.mono B2.size)
  have r3 := (r2.below b3).lt
  have s2lt := S2.lt
  clear SP b3 b2
  go_wp2_with fail
  refine (l1Next_any _ _ _ A c l w3 S3 (by omega) (by omega) (by omega)).mono ?_
  rintro e w4 ⟨p0, rfl, hp0, hp1, S4, g4⟩
  have B4 := grown_from B3 g4 B3.size (Nat.le_refl _)
  have r4 := (r3.src S3.blk S4.blk g4).more g4.size
  have os4 := os.kept g4 (.inr (fun e => own_apart os _ (.inl s2lt) e.symm))
  clear os g4 hp1
  by_cases hk : 0 < S.length
  · go_wp2_with fail
    refine (l1Chance_any _ _ _ A c l w4 S4 (by omega) (by omega) (by omega)).mono ?_
    rintro e w5 ⟨bo, rfl, S5, g5⟩
    have B5 := grown_from B4 g5 B4.size (Nat.le_refl _)
    have r5 := (r4.src S4.blk S5.blk g5).more g5.size
    have os5 := os4.kept g5 (.inr (fun e => own_apart os4 _ (.inl s2lt) e.symm))
    clear os4 g5 r4 S4
    cases bo
    · go_wp2_with fail
      refine (l1Next_any _ _ _ A c l w5 S5 (by omega) (by omega) (by omega)).mono ?_
      rintro e w6 ⟨r, rfl, h0, h1, S6, g6⟩
      have B6 := grown_from B5 g6 B5.size (Nat.le_refl _)
      have r6 := (r5.src S5.blk S6.blk g6).more g6.size
      have os6 := os5.kept g6 (.inr (fun e => own_apart os5 _ (.inl s2lt) e.symm))
      have hr : r < S.length := by omega
      obtain ⟨j, rfl⟩ := Int.eq_ofNat_of_zero_le h0
      have hj : j < S.length := by omega
      obtain ⟨bb, off, hE, hbb, hc⟩ := (Rd.of_own (k := .i64) os6).get hj
      subst hE
      obtain ⟨y, hy⟩ : ∃ y, y = S[j] := ⟨_, rfl⟩
      rw [← hy] at hc
      clear hy h1 hr os5 os6 g6 r5 S5
      go_wp2_with fail
      refine (l1Pick_any _ _ _ [0, 1, 2, 3, 4, 5, 6, 7, 0, 7, 8, -1] A c l _ _ (S6.alloc _) (by omega) (by simp) (by simp) (Bk.new _ _ _) (by have := S6.lt; omega)).mono ?_
      rintro e wz ⟨q, rfl, hm, Sz, gz⟩
      have gz' := grown_alloc gz
      have Bz := grown_from B6 gz' B6.size (Nat.le_refl _)
      have rz := ((r6.src S6.blk Sz.blk gz').more gz'.size)
      clear hm
      go_wp2
      refine bodyPost_ret (v := .tuple #[.slice D t.length d, .int .i64 b, .int .i64 y, .int .i64 q]) (by simp [results, Tryz.results6, go_sem]) rfl ?_
      exact ⟨t, b, y, q, D, d, rfl, ht5, rz, Bz⟩
    · clear os5
      go_wp2_with fail
      refine (l1Pick_any _ _ _ [0, 1, 2, 3, 4, 5, 6, 7, 0, 7, 8, -1] A c l _ _ (S5.alloc _) (by omega) (by simp) (by simp) (Bk.new _ _ _) (by have := S5.lt; omega)).mono ?_
      rintro e wz ⟨q, rfl, hm, Sz, gz⟩
      have gz' := grown_alloc gz
      have Bz := grown_from B5 gz' B5.size (Nat.le_refl _)
      have rz := ((r5.src S5.blk Sz.blk gz').more gz'.size)
      clear hm
      go_wp2
      refine bodyPost_ret (v := .tuple #[.slice D t.length d, .int .i64 b, .int .i64 p0, .int .i64 q]) (by simp [results, Tryz.results6, go_sem]) rfl ?_
      exact ⟨t, b, p0, q, D, d, rfl, ht5, rz, Bz⟩
  · clear os4
    go_wp2_with fail
    refine (l1Pick_any _ _ _ [0, 1, 2, 3, 4, 5, 6, 7, 0, 7, 8, -1] A c l _ _ (S4.alloc _) (by omega) (by simp) (by simp) (Bk.new _ _ _) (by have := S4.lt; omega)).mono ?_
    rintro e wz ⟨q, rfl, hm, Sz, gz⟩
    have gz' := grown_alloc gz
    have Bz := grown_from B4 gz' B4.size (Nat.le_refl _)
    have rz := ((r4.src S4.blk Sz.blk gz').more gz'.size)
    clear hm
    go_wp2
    refine bodyPost_ret (v := .tuple #[.slice D t.length d, .int .i64 b, .int .i64 p0, .int .i64 q]) (by simp [results, Tryz.results6, go_sem]) rfl ?_
    exact ⟨t, b, p0, q, D, d, rfl, ht5, rz, Bz⟩
end Go.Proofs.YtldepledinolmaaGreatDoor
namespace Go.Proofs.YtldepledinolmaaGreatDoor
open Go.RowKit

theorem keep4c {W w w' : World} {a0 a1 a2 a3 : Addr} {v0 v1 v2 v3 : Value} (hb : Below w.heap.size w w') (h : w.cell? a0 = some v0 ∧ w.cell? a1 = some v1 ∧ w.cell? a2 = some v2 ∧ w.cell? a3 = some v3 ∧ Below W.heap.size W w) :
    w'.cell? a0 = some v0 ∧ w'.cell? a1 = some v1 ∧ w'.cell? a2 = some v2 ∧ w'.cell? a3 = some v3 ∧ Below W.heap.size W w' :=
  ⟨cell_kept hb h.1, cell_kept hb h.2.1, cell_kept hb h.2.2.1, cell_kept hb h.2.2.2.1, h.2.2.2.2.trans (hb.mono h.2.2.2.2.size)⟩
theorem field_intsC (a : Int) (D : Option Addr) (n d : Nat) (W : World) : (Instr.field 30 (.agg #[.int .i64 a, .slice D n d]) 0).run Tryz.prog W = .ok (.int .i64 a) W := by kernel_rfl
theorem decide_eq_decide_mem (p : Int) (l : List Int) (y : Int) : decide (p ∈ l ++ [y]) = (decide (p ∈ l) || y == p) := by
  by_cases h : p ∈ l
  · simp [h]
  · by_cases e : y = p
    · subst e; simp
    · have e' : ¬ p = y := fun x => e x.symm
      simp [h, e, e']

set_option maxRecDepth 100000 in
set_option maxHeartbeats 6400000 in
theorem FnTurns_walk (l : List Int) (A : Option Addr) (c : Nat) (aN aS aE : Addr) (w : World) (hl : l.length ≤ maxLen) (h : Rd .u8 w w.heap.size A l) (b8 : B8 l) (hT : Tab w) (hS : Sent aN aS aE w) :
    Calls Tryz.prog 3 #[.slice A l.length c] w fun e w' => e = .returned (.bool true) ∧ Below w.heap.size w w' := by
  have HT := hide hT
  have HS := hide hS
  clear hT hS
  by_cases hL : l.length ≤ 1048576
  · clear hl
    go_enter Tryz.func3, Tryz.ntmps3
    go_wp2_with fail
    refine (lwBig_no l A c w hL).mono ?_
    rintro e w0 ⟨rfl, rfl⟩
    go_wp2_with fail
    refine (DrawCau_any l A c w hL h b8).mono ?_
    rintro e w1 ⟨t, b, p, q, D1, d1, rfl, ht5, r1, B⟩
    have R := h.below B
    have zB := B.size
    clear h
    have lt : t.length ≤ maxLen := by unfold maxLen; omega
    have hslen := spL_few t b
    obtain ⟨S, hSS⟩ : ∃ x, x = spL t b := ⟨_, rfl⟩
    obtain ⟨C, hC⟩ : ∃ x, x = fcC t b := ⟨_, rfl⟩
    obtain ⟨cb, hcb⟩ : ∃ x, x = cauB t b p q := ⟨_, rfl⟩
    have IC := hide (fun W hW hT hS => implCau_any t b p q D1 d1 aN aS aE W lt hW hT hS)
    have SC := hide (fun W hW => specCau_any t b p q D1 d1 W lt hW)
    have IP := hide (fun W hW hT hN => implSpo_any t b D1 d1 aN W lt hW hT hN)
    have SP := hide (fun W hW => specSpo_any t b D1 d1 W lt hW)
    have IE := hide (fun W hW hT => implEnc_any t b D1 d1 W lt hW hT)
    unfold SpoPost at IP SP
    rw [← hSS, ← hC] at IP SP
    rw [← hcb] at IC SC
    rw [← hSS] at hslen
    have HSS := hide hSS
    have HCB := hide (show cb = (decide (p ∈ S) && decide (0 ≤ q ∧ q ≤ 7)) from by rw [hcb, hSS]; rfl)
    clear hSS hC hcb
    go_wp2_with fail
    refine (IC.out _ r1 (HT.out.below B) (HS.out.below B)).mono ?_
    rintro e w2 ⟨rfl, b2⟩
    have z_1 := Below.size b2
    replace r1 := (r1.below b2).lt
    replace R := R.below (b2.mono (by omega))
    replace B := B.trans (b2.mono B.size)
    clear b2
    go_wp2_with fail
    refine (IP.out _ r1 (HT.out.below B) (HS.out.below B).vN).mono ?_
    rintro e w3 ⟨Ae, ce, rfl, o3, b3⟩
    have z_2 := Below.size b3
    replace r1 := (r1.below b3).lt
    replace R := R.below (b3.mono (by omega))
    replace B := B.trans (b3.mono B.size)
    clear b3
    have rs := Rd.of_own (k := .i64) o3
    clear o3 IC IP
    have e_ := (Below.refl w3.heap.size w3).alloc (Nat.le_refl _) (Obj.cells #[Value.int .i64 C, .slice Ae S.length ce] 30)
    have zz_2 : (w3.alloc (Obj.cells #[Value.int .i64 C, .slice Ae S.length ce] 30)).heap.size = w3.heap.size + 1 := by simp
    have z_3 := Below.size e_
    replace r1 := (r1.below e_).lt
    replace R := R.below (e_.mono (by omega))
    replace B := B.trans (e_.mono B.size)
    replace rs := (rs.below e_).lt
    clear e_
    have k8 := Bk.new w3 #[Value.int .i64 C, .slice Ae S.length ce] 30
    go_wp2_with fail
    refine (DrawTb_any l A c _ hL (R.more (by omega)) b8).mono ?_
    rintro e w4 ⟨xs, pl, kb, Dx, dx, rfl, xl, xd, x8, rx, b4⟩
    have z_4 := Below.size b4
    replace r1 := (r1.below b4).lt
    replace R := R.below (b4.mono (by omega))
    replace B := B.trans (b4.mono B.size)
    replace rs := (rs.below b4).lt
    replace k8 := k8.kept b4
    clear b4
    have TI := hide (fun W hW => implTb_any xs pl kb Dx dx W (by omega) hW)
    have TS := hide (fun W hW => specTb_any xs pl kb Dx dx W (by omega) hW)
    unfold TbPost at TI TS
    have tb8 : B8 (tbB xs pl kb) := by
      unfold tbB
      split
      · rename_i h0; exact tbL_B8 x8 (tb_zero h0).2
      · intro x hx; simp at hx
    have tbl := tbB_few xs pl kb
    obtain ⟨tc, htc⟩ : ∃ x, x = tbC xs pl kb := ⟨_, rfl⟩
    obtain ⟨tb, htb⟩ : ∃ x, x = tbB xs pl kb := ⟨_, rfl⟩
    rw [← htc, ← htb] at TI TS
    rw [← htb] at tb8 tbl
    have HTC := hide htc
    have HTB := hide htb
    clear htc htb
    go_wp2_with fail
    refine (TI.out _ rx).mono ?_
    rintro e w5 ⟨At, ct, rfl, o5, b5⟩
    have z_5 := Below.size b5
    replace r1 := (r1.below b5).lt
    replace R := R.below (b5.mono (by omega))
    replace B := B.trans (b5.mono B.size)
    replace rs := (rs.below b5).lt
    replace k8 := k8.kept b5
    replace rx := (rx.below b5).lt
    clear b5
    have rt := Rd.of_own (k := .u8) o5
    clear o5 TI
    have e_ := (Below.refl w5.heap.size w5).alloc (Nat.le_refl _) (Obj.cells #[Value.int .i64 tc, .slice At tb.length ct] 35)
    have zz_5 : (w5.alloc (Obj.cells #[Value.int .i64 tc, .slice At tb.length ct] 35)).heap.size = w5.heap.size + 1 := by simp
    have z_6 := Below.size e_
    replace r1 := (r1.below e_).lt
    replace R := R.below (e_.mono (by omega))
    replace B := B.trans (e_.mono B.size)
    replace rs := (rs.below e_).lt
    replace k8 := k8.kept e_
    replace rx := (rx.below e_).lt
    replace rt := (rt.below e_).lt
    clear e_
    have k12 := Bk.new w5 #[Value.int .i64 tc, .slice At tb.length ct] 35
    go_wp2_with fail
    generalize w5.alloc (Obj.cells #[Value.int .i64 tc, .slice At tb.length ct] 35) = V at *
    have c0 : V.drew.cell? ⟨w3.heap.size, 0, none⟩ = some (.int .i64 C) := (k8.cell 0).trans rfl
    have c1 : V.drew.cell? ⟨w3.heap.size, 1, none⟩ = some (.slice Ae S.length ce) := (k8.cell 1).trans rfl
    have c2 : V.drew.cell? ⟨w5.heap.size, 0, none⟩ = some (.int .i64 tc) := (k12.cell 0).trans rfl
    have c3 : V.drew.cell? ⟨w5.heap.size, 1, none⟩ = some (.slice At tb.length ct) := (k12.cell 1).trans rfl
    have bD : Below V.heap.size V V.drew := (Below.refl _ _).drew
    have hfi0 := fun D n d W => field_intsC C D n d W
    have hfi1 := fun D n d W => field_intsD C D n d W
    have hcc : (cb != cb) = false := by simp
    have hCC : (C != C) = false := by simp
    refine wp_region_F 32 (fun w' => w'.cell? ⟨w3.heap.size, 0, none⟩ = some (.int .i64 C) ∧ w'.cell? ⟨w3.heap.size, 1, none⟩ = some (.slice Ae S.length ce) ∧ w'.cell? ⟨w5.heap.size, 0, none⟩ = some (.int .i64 tc) ∧ w'.cell? ⟨w5.heap.size, 1, none⟩ = some (.slice At tb.length ct) ∧ Below V.heap.size V w') (fun w' => True) (by kernel_rfl) ⟨⟨c0, c1, c2, c3, bD⟩, trivial⟩ (fun hHeld => ?_)
    try simp only [Act.put, List.setIfInBounds_toArray, List.set_cons_zero, List.set_cons_succ]
    refine wpAnyF_take (i := 0) (v := ?_) (by (simp only [List.getElem?_toArray, List.getElem?_cons_zero]; rfl)) (by kernel_rfl) (by kernel_rfl) (by kernel_rfl) (by decide) (by exact fun _ _ _ h => h) ⟨hHeld.1, .inr hHeld.2⟩ (Or.inl ⟨by rfl, ?_⟩) ?_
    rotate_left
    · (intro w' _; go_simp <;> with_reducible rfl)
    try simp only [Act.put, List.setIfInBounds_toArray, List.set_cons_zero, List.set_cons_succ]
    refine wpAnyF_take (i := 1) (v := ?_) (by (simp only [List.getElem?_toArray, List.getElem?_cons_succ, List.getElem?_cons_zero]; rfl)) (by kernel_rfl) (by kernel_rfl) (by kernel_rfl) (by decide) (by exact fun _ _ _ h => h) ⟨hHeld.1, .inr hHeld.2⟩ (Or.inl ⟨by rfl, ?_⟩) ?_
    rotate_left
    · (intro w' _; go_simp <;> with_reducible rfl)
    try simp only [Act.put, List.setIfInBounds_toArray, List.set_cons_zero, List.set_cons_succ]
    refine wpAnyF_take (i := 2) (v := ?_) (by (simp only [List.getElem?_toArray, List.getElem?_cons_succ, List.getElem?_cons_zero]; rfl)) (by kernel_rfl) (by kernel_rfl) (by kernel_rfl) (by decide) (by exact fun _ _ _ h => h) ⟨hHeld.1, .inr hHeld.2⟩ (Or.inl ⟨by rfl, ?_⟩) ?_
    rotate_left
    · (intro w' _; go_simp <;> with_reducible rfl)
    try simp only [Act.put, List.setIfInBounds_toArray, List.set_cons_zero, List.set_cons_succ]
    refine wpAnyF_take (i := 3) (v := ?_) (by (simp only [List.getElem?_toArray, List.getElem?_cons_succ, List.getElem?_cons_zero]; rfl)) (by kernel_rfl) (by kernel_rfl) (by kernel_rfl) (by decide) (by exact fun _ _ _ h => h) ⟨hHeld.1, .inr hHeld.2⟩ (Or.inl ⟨by rfl, ?_⟩) ?_
    rotate_left
    · (intro w' _; go_simp <;> with_reducible rfl)
    try simp only [Act.put, List.setIfInBounds_toArray, List.set_cons_zero, List.set_cons_succ]
    refine wpAnyF_take (i := 4) (v := ?_) (by (simp only [List.getElem?_toArray, List.getElem?_cons_succ, List.getElem?_cons_zero]; rfl)) (by kernel_rfl) (by kernel_rfl) (by kernel_rfl) (by decide) (by exact fun _ _ _ h => h) ⟨hHeld.1, .inr hHeld.2⟩ (Or.inl ⟨by rfl, ?_⟩) ?_
    rotate_left
    · (intro w' _; go_simp <;> with_reducible rfl)
    try simp only [Act.put, List.setIfInBounds_toArray, List.set_cons_zero, List.set_cons_succ]
    refine wpAnyF_ready (rs := [5]) (by kernel_rfl) (by simp) ?_
    refine AllReadyF.cons (by (simp only [List.getElem?_toArray, List.getElem?_cons_succ, List.getElem?_cons_zero]; rfl)) (fun K hK => ?_) AllReadyF.nil
    go_simp
    go_at_call 11
    refine (SC.out _ (r1.below hHeld.1.2.2.2.2).lt).mono ?_
    rintro e wa ⟨rfl, ba⟩
    refine hK.out _ _ ⟨keep4c ba hHeld.1, trivial⟩ (fun hNew => ?_)
    clear hK K hHeld
    have hHeld := hNew
    clear hNew
    try simp only [Act.put, List.setIfInBounds_toArray, List.set_cons_zero, List.set_cons_succ]
    refine wpAnyF_take (i := 6) (v := ?_) (by (simp only [List.getElem?_toArray, List.getElem?_cons_succ, List.getElem?_cons_zero]; rfl)) (by kernel_rfl) (by kernel_rfl) (by kernel_rfl) (by decide) (by exact fun _ _ _ h => h) ⟨hHeld.1, .inr hHeld.2⟩ (Or.inl ⟨by rfl, ?_⟩) ?_
    rotate_left
    · (intro w' _; go_simp <;> with_reducible rfl)
    try simp only [Act.put, List.setIfInBounds_toArray, List.set_cons_zero, List.set_cons_succ]
    refine wpAnyF_take (i := 7) (v := ?_) (by (simp only [List.getElem?_toArray, List.getElem?_cons_succ, List.getElem?_cons_zero]; rfl)) (by kernel_rfl) (by kernel_rfl) (by kernel_rfl) (by decide) (by exact fun _ _ _ h => h) ⟨hHeld.1, .inr hHeld.2⟩ (Or.inl ⟨by rfl, ?_⟩) ?_
    rotate_left
    · (intro w' _; go_simp <;> with_reducible rfl)
    try simp only [Act.put, List.setIfInBounds_toArray, List.set_cons_zero, List.set_cons_succ]
    refine wpAnyF_take (i := 8) (v := ?_) (by (simp only [List.getElem?_toArray, List.getElem?_cons_succ, List.getElem?_cons_zero]; rfl)) (by kernel_rfl) (by kernel_rfl) (by kernel_rfl) (by decide) (by exact fun _ _ _ h => h) ⟨hHeld.1, .inr hHeld.2⟩ (Or.inl ⟨by rfl, ?_⟩) ?_
    rotate_left
    · (intro w' _; go_simp <;> with_reducible rfl)
    try simp only [Act.put, List.setIfInBounds_toArray, List.set_cons_zero, List.set_cons_succ]
    refine wpAnyF_keep (i := 9) (v := ?_) (by (simp only [List.getElem?_toArray, List.getElem?_cons_succ, List.getElem?_cons_zero]; rfl)) (by kernel_rfl) (by kernel_rfl) (by kernel_rfl) (by decide) (by exact fun _ _ _ h => h) ⟨hHeld.1, .inr hHeld.2⟩ (Or.inl ⟨by rfl, ?_⟩) ?_
    rotate_left
    · (intro w' hSw; (try dsimp only at hSw); obtain ⟨hSa0, hSa1, hSa2, hSa3, hSa4⟩ := hSw; go_simp <;> with_reducible rfl)
    try simp only [Act.put, List.setIfInBounds_toArray, List.set_cons_zero, List.set_cons_succ]
    refine wpAnyF_take (i := 10) (v := ?_) (by (simp only [List.getElem?_toArray, List.getElem?_cons_succ, List.getElem?_cons_zero]; rfl)) (by kernel_rfl) (by kernel_rfl) (by kernel_rfl) (by decide) (by exact fun _ _ _ h => h) ⟨hHeld.1, .inr hHeld.2⟩ (Or.inl ⟨by rfl, ?_⟩) ?_
    rotate_left
    · (intro w' _; go_simp <;> with_reducible rfl)
    try simp only [Act.put, List.setIfInBounds_toArray, List.set_cons_zero, List.set_cons_succ]
    refine wpAnyF_take (i := 11) (v := ?_) (by (simp only [List.getElem?_toArray, List.getElem?_cons_succ, List.getElem?_cons_zero]; rfl)) (by kernel_rfl) (by kernel_rfl) (by kernel_rfl) (by decide) (by exact fun _ _ _ h => h) ⟨hHeld.1, .inr hHeld.2⟩ (Or.inl ⟨by rfl, ?_⟩) ?_
    rotate_left
    · (intro w' _; go_simp <;> with_reducible rfl)
    try simp only [Act.put, List.setIfInBounds_toArray, List.set_cons_zero, List.set_cons_succ]
    refine wpAnyF_ready (rs := [12]) (by kernel_rfl) (by simp) ?_
    refine AllReadyF.cons (by (simp only [List.getElem?_toArray, List.getElem?_cons_succ, List.getElem?_cons_zero]; rfl)) (fun K hK => ?_) AllReadyF.nil
    go_simp
    go_at_call 12
    refine (SP.out _ (r1.below hHeld.1.2.2.2.2).lt).mono ?_
    rintro e wb ⟨Ab, cb2, rfl, ob, bb⟩
    refine hK.out _ _ ⟨keep4c bb hHeld.1, trivial⟩ (fun hNew => ?_)
    clear hK K hHeld
    have hHeld := hNew
    clear hNew
    try simp only [Act.put, List.setIfInBounds_toArray, List.set_cons_zero, List.set_cons_succ]
    refine wpAnyF_take (i := 13) (v := ?_) (by (simp only [List.getElem?_toArray, List.getElem?_cons_succ, List.getElem?_cons_zero]; rfl)) (by kernel_rfl) (by kernel_rfl) (by kernel_rfl) (by decide) (by exact fun _ _ _ h => h) ⟨hHeld.1, .inr hHeld.2⟩ (Or.inl ⟨by rfl, ?_⟩) ?_
    rotate_left
    · (intro w' _; go_simp <;> with_reducible rfl)
    try simp only [Act.put, List.setIfInBounds_toArray, List.set_cons_zero, List.set_cons_succ]
    refine wpAnyF_take (i := 14) (v := ?_) (by (simp only [List.getElem?_toArray, List.getElem?_cons_succ, List.getElem?_cons_zero]; rfl)) (by kernel_rfl) (by kernel_rfl) (by kernel_rfl) (by decide) (by exact fun _ _ _ h => h) ⟨hHeld.1, .inr hHeld.2⟩ (Or.inl ⟨by rfl, ?_⟩) ?_
    rotate_left
    · (intro w' _; go_simp <;> with_reducible rfl)
    try simp only [Act.put, List.setIfInBounds_toArray, List.set_cons_zero, List.set_cons_succ]
    refine wpAnyF_take (i := 15) (v := ?_) (by (simp only [List.getElem?_toArray, List.getElem?_cons_succ, List.getElem?_cons_zero]; rfl)) (by kernel_rfl) (by kernel_rfl) (by kernel_rfl) (by decide) (by exact fun _ _ _ h => h) ⟨hHeld.1, .inr hHeld.2⟩ (Or.inl ⟨by rfl, ?_⟩) ?_
    rotate_left
    · (intro w' _; go_simp <;> with_reducible rfl)
    try simp only [Act.put, List.setIfInBounds_toArray, List.set_cons_zero, List.set_cons_succ]
    refine wpAnyF_take (i := 16) (v := ?_) (by (simp only [List.getElem?_toArray, List.getElem?_cons_succ, List.getElem?_cons_zero]; rfl)) (by kernel_rfl) (by kernel_rfl) (by kernel_rfl) (by decide) (by exact fun _ _ _ h => h) ⟨hHeld.1, .inr hHeld.2⟩ (Or.inl ⟨by rfl, ?_⟩) ?_
    rotate_left
    · (intro w' _; go_simp <;> with_reducible rfl)
    try simp only [Act.put, List.setIfInBounds_toArray, List.set_cons_zero, List.set_cons_succ]
    refine wpAnyF_take (i := 17) (v := ?_) (by (simp only [List.getElem?_toArray, List.getElem?_cons_succ, List.getElem?_cons_zero]; rfl)) (by kernel_rfl) (by kernel_rfl) (by kernel_rfl) (by decide) (by exact fun _ _ _ h => h) ⟨hHeld.1, .inr hHeld.2⟩ (Or.inl ⟨by rfl, ?_⟩) ?_
    rotate_left
    · (intro w' _; go_simp <;> with_reducible rfl)
    try simp only [Act.put, List.setIfInBounds_toArray, List.set_cons_zero, List.set_cons_succ]
    refine wpAnyF_keep (i := 18) (v := ?_) (by (simp only [List.getElem?_toArray, List.getElem?_cons_succ, List.getElem?_cons_zero]; rfl)) (by kernel_rfl) (by kernel_rfl) (by kernel_rfl) (by decide) (by exact fun _ _ _ h => h) ⟨hHeld.1, .inr hHeld.2⟩ (Or.inl ⟨by rfl, ?_⟩) ?_
    rotate_left
    · (intro w' hSw; (try dsimp only at hSw); obtain ⟨hSa0, hSa1, hSa2, hSa3, hSa4⟩ := hSw; go_simp <;> with_reducible rfl)
    try simp only [Act.put, List.setIfInBounds_toArray, List.set_cons_zero, List.set_cons_succ]
    refine wpAnyF_take (i := 19) (v := ?_) (by (simp only [List.getElem?_toArray, List.getElem?_cons_succ, List.getElem?_cons_zero]; rfl)) (by kernel_rfl) (by kernel_rfl) (by kernel_rfl) (by decide) (by exact fun _ _ _ h => h) ⟨hHeld.1, .inr hHeld.2⟩ (Or.inl ⟨by rfl, ?_⟩) ?_
    rotate_left
    · (intro w' _; go_simp <;> with_reducible rfl)
    try simp only [Act.put, List.setIfInBounds_toArray, List.set_cons_zero, List.set_cons_succ]
    refine wpAnyF_take (i := 20) (v := ?_) (by (simp only [List.getElem?_toArray, List.getElem?_cons_succ, List.getElem?_cons_zero]; rfl)) (by kernel_rfl) (by kernel_rfl) (by kernel_rfl) (by decide) (by exact fun _ _ _ h => h) ⟨hHeld.1, .inr hHeld.2⟩ (Or.inl ⟨by rfl, ?_⟩) ?_
    rotate_left
    · (intro w' _; go_simp <;> with_reducible rfl)
    try simp only [Act.put, List.setIfInBounds_toArray, List.set_cons_zero, List.set_cons_succ]
    refine wpAnyF_ready (rs := [21]) (by kernel_rfl) (by simp) ?_
    refine AllReadyF.cons (by (simp only [List.getElem?_toArray, List.getElem?_cons_succ, List.getElem?_cons_zero]; rfl)) (fun K hK => ?_) AllReadyF.nil
    go_simp
    go_at_call 12
    refine (SP.out _ (r1.below hHeld.1.2.2.2.2).lt).mono ?_
    rintro e wc ⟨Ac, cc, rfl, oc, bc⟩
    have rc := Rd.of_own (k := .i64) oc
    refine hK.out _ _ ⟨keep4c bc hHeld.1, trivial⟩ (fun hNew => ?_)
    clear hK K hHeld
    have hHeld := hNew
    clear hNew
    try simp only [Act.put, List.setIfInBounds_toArray, List.set_cons_zero, List.set_cons_succ]
    refine wpAnyF_take (i := 22) (v := ?_) (by (simp only [List.getElem?_toArray, List.getElem?_cons_succ, List.getElem?_cons_zero]; rfl)) (by kernel_rfl) (by kernel_rfl) (by kernel_rfl) (by decide) (by exact fun _ _ _ h => h) ⟨hHeld.1, .inr hHeld.2⟩ (Or.inl ⟨by rfl, ?_⟩) ?_
    rotate_left
    · (intro w' _; go_simp <;> with_reducible rfl)
    try simp only [Act.put, List.setIfInBounds_toArray, List.set_cons_zero, List.set_cons_succ]
    refine wpAnyF_ready (rs := [23]) (by kernel_rfl) (by simp) ?_
    refine AllReadyF.cons (by (simp only [List.getElem?_toArray, List.getElem?_cons_succ, List.getElem?_cons_zero]; rfl)) (fun K hK => ?_) AllReadyF.nil
    go_simp
    go_at_call 13
    refine (lwNums_same S Ae Ac ce cc _ (by unfold maxLen; omega) (rs.below hHeld.1.2.2.2.2).lt rc).mono ?_
    rintro e wd ⟨rfl, bd⟩
    refine hK.out _ _ ⟨keep4c bd hHeld.1, trivial⟩ (fun hNew => ?_)
    clear hK K hHeld
    have hHeld := hNew
    clear hNew
    try simp only [Act.put, List.setIfInBounds_toArray, List.set_cons_zero, List.set_cons_succ]
    refine wpAnyF_take (i := 24) (v := ?_) (by (simp only [List.getElem?_toArray, List.getElem?_cons_succ, List.getElem?_cons_zero]; rfl)) (by kernel_rfl) (by kernel_rfl) (by kernel_rfl) (by decide) (by exact fun _ _ _ h => h) ⟨hHeld.1, .inr hHeld.2⟩ (Or.inl ⟨by rfl, ?_⟩) ?_
    rotate_left
    · (intro w' _; go_simp <;> with_reducible rfl)
    try simp only [Act.put, List.setIfInBounds_toArray, List.set_cons_zero, List.set_cons_succ]
    refine wpAnyF_take (i := 25) (v := ?_) (by (simp only [List.getElem?_toArray, List.getElem?_cons_succ, List.getElem?_cons_zero]; rfl)) (by kernel_rfl) (by kernel_rfl) (by kernel_rfl) (by decide) (by exact fun _ _ _ h => h) ⟨hHeld.1, .inr hHeld.2⟩ (Or.inl ⟨by rfl, ?_⟩) ?_
    rotate_left
    · (intro w' _; go_simp <;> with_reducible rfl)
    try simp only [Act.put, List.setIfInBounds_toArray, List.set_cons_zero, List.set_cons_succ]
    refine wpAnyF_take (i := 26) (v := ?_) (by (simp only [List.getElem?_toArray, List.getElem?_cons_succ, List.getElem?_cons_zero]; rfl)) (by kernel_rfl) (by kernel_rfl) (by kernel_rfl) (by decide) (by exact fun _ _ _ h => h) ⟨hHeld.1, .inr hHeld.2⟩ (Or.inl ⟨by rfl, ?_⟩) ?_
    rotate_left
    · (intro w' _; go_simp <;> with_reducible rfl)
    try simp only [Act.put, List.setIfInBounds_toArray, List.set_cons_zero, List.set_cons_succ]
    refine wpAnyF_keep (i := 27) (v := ?_) (by (simp only [List.getElem?_toArray, List.getElem?_cons_succ, List.getElem?_cons_zero]; rfl)) (by kernel_rfl) (by kernel_rfl) (by kernel_rfl) (by decide) (by exact fun _ _ _ h => h) ⟨hHeld.1, .inr hHeld.2⟩ (Or.inl ⟨by rfl, ?_⟩) ?_
    rotate_left
    · (intro w' hSw; (try dsimp only at hSw); obtain ⟨hSa0, hSa1, hSa2, hSa3, hSa4⟩ := hSw; go_simp <;> with_reducible rfl)
    try simp only [Act.put, List.setIfInBounds_toArray, List.set_cons_zero, List.set_cons_succ]
    refine wpAnyF_take (i := 28) (v := ?_) (by (simp only [List.getElem?_toArray, List.getElem?_cons_succ, List.getElem?_cons_zero]; rfl)) (by kernel_rfl) (by kernel_rfl) (by kernel_rfl) (by decide) (by exact fun _ _ _ h => h) ⟨hHeld.1, .inr hHeld.2⟩ (Or.inl ⟨by rfl, ?_⟩) ?_
    rotate_left
    · (intro w' _; go_simp <;> with_reducible rfl)
    try simp only [Act.put, List.setIfInBounds_toArray, List.set_cons_zero, List.set_cons_succ]
    refine wpAnyF_take (i := 29) (v := ?_) (by (simp only [List.getElem?_toArray, List.getElem?_cons_succ, List.getElem?_cons_zero]; rfl)) (by kernel_rfl) (by kernel_rfl) (by kernel_rfl) (by decide) (by exact fun _ _ _ h => h) ⟨hHeld.1, .inr hHeld.2⟩ (Or.inl ⟨by rfl, ?_⟩) ?_
    rotate_left
    · (intro w' _; go_simp <;> with_reducible rfl)
    try simp only [Act.put, List.setIfInBounds_toArray, List.set_cons_zero, List.set_cons_succ]
    refine wpAnyF_take (i := 30) (v := ?_) (by (simp only [List.getElem?_toArray, List.getElem?_cons_succ, List.getElem?_cons_zero]; rfl)) (by kernel_rfl) (by kernel_rfl) (by kernel_rfl) (by decide) (by exact fun _ _ _ h => h) ⟨hHeld.1, .inr hHeld.2⟩ (Or.inl ⟨by rfl, ?_⟩) ?_
    rotate_left
    · (intro w' _; go_simp <;> with_reducible rfl)
    try simp only [Act.put, List.setIfInBounds_toArray, List.set_cons_zero, List.set_cons_succ]
    refine wpAnyF_ready (rs := [31]) (by kernel_rfl) (by simp) ?_
    refine AllReadyF.cons (by (simp only [List.getElem?_toArray, List.getElem?_cons_succ, List.getElem?_cons_zero]; rfl)) (fun K hK => ?_) AllReadyF.nil
    go_simp
    go_at_call 15
    refine (TS.out _ (rx.below hHeld.1.2.2.2.2).lt).mono ?_
    rintro e we ⟨Ag, cg, rfl, og, be⟩
    have rg := Rd.of_own (k := .u8) og
    refine hK.out _ _ ⟨keep4c be hHeld.1, trivial⟩ (fun hNew => ?_)
    clear hK K hHeld
    have hHeld := hNew
    clear hNew
    try simp only [Act.put, List.setIfInBounds_toArray, List.set_cons_zero, List.set_cons_succ]
    refine wpAnyF_ready (rs := [32]) (by kernel_rfl) (by simp) ?_
    refine AllReadyF.last (by (simp only [List.getElem?_toArray, List.getElem?_cons_succ, List.getElem?_cons_zero]; rfl)) (by kernel_rfl) (fun K hK => ?_) AllReadyF.nil
    go_simp
    go_at_call 14
    refine (lwBytes_same tc tb At Ag ct cg _ (rt.below hHeld.1.2.2.2.2).lt rg tb8).mono ?_
    rintro e wf ⟨rfl, bf⟩
    refine hK.out _ _ (keep4c bf hHeld.1) ?_
    clear hK K
    try simp only [Act.put, List.setIfInBounds_toArray, List.set_cons_zero, List.set_cons_succ]
    refine wpAnyF_take (i := 33) (v := ?_) (by (simp only [List.getElem?_toArray, List.getElem?_cons_succ, List.getElem?_cons_zero]; rfl)) (by kernel_rfl) (by kernel_rfl) (by kernel_rfl) (by decide) (by exact fun _ _ _ h => h) ⟨(keep4c bf hHeld.1), .inl (by kernel_rfl)⟩ (Or.inl ⟨by rfl, ?_⟩) ?_
    rotate_left
    · (intro w' _; go_simp <;> with_reducible rfl)
    try simp only [Act.put, List.setIfInBounds_toArray, List.set_cons_zero, List.set_cons_succ]
    refine wpAnyF_take (i := 34) (v := ?_) (by (simp only [List.getElem?_toArray, List.getElem?_cons_succ, List.getElem?_cons_zero]; rfl)) (by kernel_rfl) (by kernel_rfl) (by kernel_rfl) (by decide) (by exact fun _ _ _ h => h) ⟨(keep4c bf hHeld.1), .inl (by kernel_rfl)⟩ (Or.inl ⟨by rfl, ?_⟩) ?_
    rotate_left
    · (intro w' _; go_simp <;> with_reducible rfl)
    try simp only [Act.put, List.setIfInBounds_toArray, List.set_cons_zero, List.set_cons_succ]
    refine wpAnyF_done (by kernel_rfl) ?_ _
    have b9 := (keep4c bf hHeld.1).2.2.2.2
    clear c0 c1 c2 c3 bD hHeld SC SP TS rc oc og rg ob ba bb bc bd be bf hfi0 hfi1 hcc hCC
    have z_7 := Below.size b9
    replace r1 := (r1.below b9).lt
    replace R := R.below (b9.mono (by omega))
    replace B := B.trans (b9.mono B.size)
    replace rs := (rs.below b9).lt
    replace k8 := k8.kept b9
    replace rx := (rx.below b9).lt
    replace rt := (rt.below b9).lt
    replace k12 := k12.kept b9
    clear b9
    go_upto_region 10 with fail
    go_cut [96] (fun s wx => s = .bool false ∧ Below wf.heap.size wf wx)
    case first => as_aux_lemma =>
      have q0 := (k12.cell 0).trans (rfl : _ = some (Value.int .i64 tc))
      have q1 := (k12.cell 1).trans (rfl : _ = some (Value.slice At tb.length ct))
      by_cases h0 : tc = 0
      · obtain ⟨x4, hk⟩ := tb_zero (HTC.out ▸ h0)
        have e1 : tb = tbL xs pl kb := HTB.out.trans (tbB_ok x4 hk)
        have e2 : tb.length = xs.length := by rw [e1, tbL_len]
        have hk2 : tbOk tb.length pl kb := by rw [e2]; exact hk
        have e3 : tbL tb pl kb = xs := by rw [e1]; exact tbL_back x8 hk
        have hs2 : sameB tb xs = false := by unfold sameB; exact beq_eq_false_iff_ne.2 (by rw [e1]; exact tbL_ne x8 hk)
        have hs1 : sameB xs xs = true := by unfold sameB; simp
        have TB := hide (fun W hW => implTb_any tb pl kb At ct W (by omega) hW)
        unfold TbPost at TB
        rw [tbB_ok (by omega) hk2, tb_ok (by omega) hk2, e3] at TB
        have hf := fun D n d W => field_bytes 0 D n d W
        subst h0
        clear e1 e2 e3 hk hk2 HTC HTB x4
        go_wp2_with fail
        refine (TB.out _ rt).mono ?_
        rintro e wg ⟨Dg, dg, rfl, og, bg⟩
        have q0 := cell_kept bg q0
        have q1 := cell_kept bg q1
        have rg := Rd.of_own (k := .u8) og
        have LA := hide (lwSame_any xs xs Dg Dx dg dx wg rg (rx.below bg).lt x8 x8)
        have LB := hide (lwSame_any tb xs At Dx ct dx wg (rt.below bg).lt (rx.below bg).lt tb8 x8)
        rw [hs1] at LA
        rw [hs2] at LB
        clear hs1 hs2 TB og rg
        go_wp2_with fail
        refine LA.out.mono ?_
        rintro e wh ⟨rfl, rfl⟩
        go_wp2_with fail
        refine LB.out.mono ?_
        rintro e wh ⟨rfl, rfl⟩
        go_wp2_with fail
        go_meet
        exact ⟨rfl, bg⟩
      · have u0 : (tc == 0) = false := beq_eq_false_iff_ne.2 h0
        clear h0
        go_wp2_with fail
        go_meet
        exact ⟨rfl, Below.refl _ _⟩
    case rest =>
      obtain ⟨rfl, b10⟩ := hcut
      clear HTC HTB tb8 tbl x8 xd
      clear k12 rt rx
      clear R
      have z_8 := Below.size b10
      replace r1 := (r1.below b10).lt
      replace B := B.trans (b10.mono B.size)
      replace rs := (rs.below b10).lt
      replace k8 := k8.kept b10
      clear b10
      have q1 := (k8.cell 1).trans (rfl : _ = some (Value.slice Ae S.length ce))
      clear k8
      go_wp2
      go_loop [13, 14] (fun sp i => ∃ k : Nat, k ≤ S.length ∧ i = .int .i64 k ∧ sp = .bool (decide (p ∈ S.take k))) (fun _ i => S.length - (intOf i).toNat)
      case atStart => exact ⟨0, Nat.zero_le _, rfl, by rw [List.take_zero]; simp⟩
      case round =>
        obtain ⟨k, hk, rfl, hsp⟩ := hrel
        obtain ⟨sb, hsb⟩ : ∃ x, x = decide (p ∈ S.take k) := ⟨_, rfl⟩
        rw [← hsb] at hsp
        subst hsp
        by_cases hlt : k < S.length
        · obtain ⟨bb, off, hE, hbb, hc⟩ := rs.get hlt
          subst hE
          have HSTEP := hide (show decide (p ∈ S.take (k + 1)) = (sb || S[k] == p) by
            rw [hsb, List.take_succ_eq_append_getElem hlt, decide_eq_decide_mem p (S.take k) S[k]])
          obtain ⟨y, hy⟩ : ∃ y, y = S[k] := ⟨_, rfl⟩
          rw [← hy] at hc HSTEP
          clear hy hsb
          cases sb
          · by_cases he : y = p
            · have g0 : (y == p) = true := beq_iff_eq.2 he
              have HS2 := hide (HSTEP.out.trans (by rw [g0]; rfl : _ = true))
              clear he HSTEP HCB
              go_wp2
              go_round
              case rel => exact ⟨k + 1, by omega, by go_num, by rw [HS2.out]⟩
              case measure => simp [intOf]; omega
            · have g0 : (y == p) = false := beq_eq_false_iff_ne.2 he
              have HS2 := hide (HSTEP.out.trans (by rw [g0]; rfl : _ = false))
              clear he HSTEP HCB
              go_wp2
              go_round
              case rel => exact ⟨k + 1, by omega, by go_num, by rw [HS2.out]⟩
              case measure => simp [intOf]; omega
          · have HS2 := hide (HSTEP.out.trans (Bool.true_or _))
            clear HSTEP HCB
            go_wp2
            go_round
            case rel => exact ⟨k + 1, by omega, by go_num, by rw [HS2.out]⟩
            case measure => simp [intOf]; omega
        · obtain rfl : k = S.length := by omega
          rw [List.take_length] at hsb
          have hcb := HCB.out
          rw [← hsb] at hcb
          cases sb
          · rw [Bool.false_and] at hcb
            subst hcb
            clear hsb HCB
            go_wp2
            go_ret
            exact ⟨rfl, B⟩
          · have HP := hide (of_decide_eq_true hsb.symm)
            rw [Bool.true_and] at hcb
            by_cases hq0 : 0 ≤ q
            · by_cases hq7 : q ≤ 7
              · rw [decide_eq_true (And.intro hq0 hq7)] at hcb
                subst hcb
                have hp : p ∈ spL t b := by rw [← HSS.out]; exact HP.out
                have h0 := spL_zero hp
                obtain ⟨e0, e1, e2⟩ := fcC_zero h0
                obtain ⟨hk2, hbad⟩ := spot_bad (q := q) h0 hp ⟨hq0, hq7⟩
                have hb1 : 1 ≤ b.toNat := by omega
                have hfew := filL_few hb1 e0
                have hb8 := filL_B8 hb1 e0
                rw [fcB_ok h0, h0] at IE
                obtain ⟨F, hF⟩ : ∃ F, F = filL b.toNat t := ⟨_, rfl⟩
                rw [← hF] at IE hfew hb8 hk2 hbad
                have hb8T := tbL_B8 hb8 hk2
                have hlen := tbL_len F p q
                have TU := hide (fun D d V hR => implTb_any F p q D d V (by omega) hR)
                unfold TbPost at TU
                rw [tbB_ok (by omega) hk2, tb_ok (by omega) hk2] at TU
                obtain ⟨T, hT2⟩ : ∃ T, T = tbL F p q := ⟨_, rfl⟩
                rw [← hT2] at TU hbad hlen hb8T
                have DT := hide (fun D d V hd hR hT hS => implDec_any T D d aN aS aE V (by omega) hd hR hb8T hT hS)
                unfold DtPost at DT
                obtain ⟨C2, hC2⟩ : ∃ C2, C2 = (dc T).1 := ⟨_, rfl⟩
                obtain ⟨T2, hT3⟩ : ∃ T2, T2 = (dc T).2 := ⟨_, rfl⟩
                rw [← hC2, ← hT3] at DT
                rw [← hC2] at hbad
                simp only [hlen] at TU DT
                have g1 : (C2 != 0) = true := bne_iff_ne.2 hbad
                have hf := field_trc C2
                have hfb := fun D n d W => field_bytes 0 D n d W
                clear hF hT2 hT3 hC2 hbad hk2 hb8 hb8T hlen e0 e1 e2 h0 hp hsb HCB HP HSS hb1 hfew
                go_wp2_with fail
                refine (IE.out _ r1 (HT.out.below B)).mono ?_
                rintro e wg ⟨Dg, dg, rfl, og, bg⟩
                have B2 := B.trans (bg.mono B.size)
                have rg := Rd.of_own (k := .u8) og
                clear og IE
                go_wp2_with fail
                refine (TU.out Dg dg _ rg).mono ?_
                rintro e wh ⟨Dh, dh, rfl, oh, bh⟩
                have B3 := B2.trans (bh.mono B2.size)
                have hcap := (own_capE oh).1
                have rh := Rd.of_own (k := .u8) oh
                have DD := hide (DT.out Dh dh _ hcap rh (HT.out.below B3) (HS.out.below B3))
                clear oh TU DT rg hcap rh
                go_wp2_with fail
                refine DD.out.mono ?_
                rintro e wi ⟨Di, di, ui, rfl, oi, bi⟩
                clear DD
                go_wp2
                go_ret
                exact ⟨rfl, B3.trans (bi.mono B3.size)⟩
              · rw [decide_eq_false (fun h => hq7 h.2)] at hcb
                subst hcb
                clear hsb HCB
                go_wp2
                go_ret
                exact ⟨rfl, B⟩
            · rw [decide_eq_false (fun h => hq0 h.1)] at hcb
              subst hcb
              clear hsb HCB
              go_wp2
              go_ret
              exact ⟨rfl, B⟩
  · go_enter Tryz.func3, Tryz.ntmps3
    go_wp2_with fail
    refine (lwBig_yes l A c w hL hl).mono ?_
    rintro e w0 ⟨rfl, rfl⟩
    go_wp2
    go_ret
    exact ⟨rfl, Below.refl _ _⟩
end Go.Proofs.YtldepledinolmaaGreatDoor
