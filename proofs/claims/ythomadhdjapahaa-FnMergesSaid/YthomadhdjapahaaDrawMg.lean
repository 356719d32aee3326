/- Contracts of the model's draws of chapter 6. -/
import Derived.Test.YthomadhdjapahaaDrawLg
import Derived.Test.YthomadhdjapahaaBentK
namespace Go.Proofs.Ythomadhdjapahaa
open Go.RowKit

theorem DrawSplitLog_any (l : List Int) (A : Option Addr) (c : Nat) (w : World) (hl : l.length ≤ 1048576) (hR : Rd .u8 w w.heap.size A l) (b8 : B8 l) :
    Calls Try.prog 12 #[.slice A l.length c] w fun e w' => ∃ (ss : List Stp) (D : Option Addr) (d : Nat) (n : Int), e = .returned (.tuple #[.slice D ss.length d, .int .i64 n]) ∧ ss.length ≤ 200 ∧ RdP w' w'.heap.size D ss ∧ Below w.heap.size w w' := by
  go_enter Try.func12, Try.ntmps12
  go_wp2_with fail
  refine (l1Source_any l A c w hR b8 hl).mono ?_
  rintro e w1 ⟨rfl, S1, B1⟩
  go_wp2_with fail
  refine (l6Log_any _ _ A c l _ S1 (by omega)).mono ?_
  rintro e w2 ⟨ss, D, d, n, rfl, hss, hrow, k2, hk2, S2, g2⟩
  have B2 := grown_from B1 g2 B1.size (Nat.le_refl _)
  have hr := RdP.of_own hrow
  go_wp2
  refine bodyPost_ret (v := .tuple #[.slice D ss.length d, .int .i64 n]) (by simp [results, Try.results12, go_sem]) rfl ?_
  exact ⟨ss, D, d, n, rfl, hss, hr, B2⟩

theorem DrawMergeTrace_any (HB : BentOk) (l : List Int) (A : Option Addr) (c : Nat) (w : World) (hl : l.length ≤ 1048576) (hR : Rd .u8 w w.heap.size A l) (b8 : B8 l) :
    Calls Try.prog 10 #[.slice A l.length c] w fun e w' => ∃ (t : List (List Ev)) (D : Option Addr) (d : Nat) (ps : List Int) (Dp : Option Addr) (dp : Nat), e = .returned (.tuple #[.slice D t.length d, .slice Dp ps.length dp]) ∧ t.length ≤ 5 ∧ ps.length ≤ 101 ∧ I64s ps ∧ RdT w' w'.heap.size D t ∧ Rd .i64 w' w'.heap.size Dp ps ∧ Below w.heap.size w w' := by
  go_enter Try.func10, Try.ntmps10
  go_wp2_with fail
  refine (l1Source_any l A c w hR b8 hl).mono ?_
  rintro e w1 ⟨rfl, S1, B1⟩
  go_wp2_with fail
  refine (HB _ _ A c l w1 S1 (by omega)).mono ?_
  rintro e w2 ⟨t, D, d, rfl, ht, hall, hT, k2, hk2, S2, g2⟩
  have B2 := grown_from B1 g2 B1.size (Nat.le_refl _)
  go_wp2_with fail
  refine (l6Picks_any _ _ A c l _ S2 (by omega)).mono ?_
  rintro e w3 ⟨ps, Dp, dp, rfl, hps, hpI, oP, k3, hk3, S3, g3⟩
  have rT := hT w3 g3
  have rP := Rd.of_own (k := .i64) oP
  have B3 := grown_from B2 g3 B2.size (Nat.le_refl _)
  clear g3 oP hT hall
  go_wp2
  refine bodyPost_ret (v := .tuple #[.slice D t.length d, .slice Dp ps.length dp]) (by simp [results, Try.results10, go_sem]) rfl ?_
  exact ⟨t, D, d, ps, Dp, dp, rfl, ht, hps, hpI, rT, rP, B3⟩

theorem stps_set : ∀ (ss : List Stp) (r : Nat) (y : Int) (h : r < ss.length), (stps ss).set (r * 4) (.int .i64 y) = stps (ss.set r ⟨y, ss[r].e⟩)
  | [], r, y, h => by simp at h
  | s :: t, 0, y, _ => by simp [stps]
  | s :: t, r + 1, y, h => by
    rw [show (r + 1) * 4 = r * 4 + 1 + 1 + 1 + 1 by omega]
    simp only [stps, List.set_cons_succ, List.getElem_cons_succ]
    rw [stps_set t r y (by simpa using h)]

set_option maxRecDepth 100000 in
set_option maxHeartbeats 1600000 in
theorem DrawSameLogs_any (l : List Int) (A : Option Addr) (c : Nat) (w : World) (hl : l.length ≤ 1048576) (hR : Rd .u8 w w.heap.size A l) (b8 : B8 l) :
    Calls Try.prog 15 #[.slice A l.length c] w fun e w' => ∃ (ss s2 : List Stp) (D D2 : Option Addr) (d d2 : Nat), e = .returned (.tuple #[.slice D ss.length d, .slice D2 s2.length d2]) ∧ ss.length ≤ 200 ∧ s2.length ≤ 200 ∧ RdP w' w'.heap.size D ss ∧ RdP w' w'.heap.size D2 s2 ∧ Below w.heap.size w w' := by
  obtain ⟨i0, hi, hz0, hz1, hz2⟩ := info_parts info_step
  go_enter Try.func15, Try.ntmps15
  go_wp2_with fail
  refine (l1Source_any l A c w hR b8 hl).mono ?_
  rintro e w1 ⟨rfl, S1, B1⟩
  go_wp2_with fail
  refine (l6Log_any _ _ A c l _ S1 (by omega)).mono ?_
  rintro e w2 ⟨ss, D, d, n, rfl, hss, hrow, k2, hk2, S2, g2⟩
  have B2 := grown_from B1 g2 B1.size (Nat.le_refl _)
  obtain ⟨g, hg⟩ : ∃ g, g = w.heap.size := ⟨_, rfl⟩
  rw [← hg] at S2 g2 ⊢
  have hgz := S2.lt
  have hg1 : g < w1.heap.size := by rw [hg]; exact S1.lt
  have rA := RdP.of_own hrow
  have rowL := World.ownsRow_lit w2 #[] 0 (e := 80) (size := 4) (base := w2.heap.size) (Nat.le_refl _) (by simp) rfl
  have rA1 := rA.alloc (Nat.le_refl _) (Obj.cells #[] 80)
  have row1 := hrow.alloc (Obj.cells #[] 80)
  have SA := S2.alloc (Obj.cells #[] 80)
  have HGG := hide hg
  clear S1 g2 hg
  go_wp2_with (first | (at_builtin; refine wpList_append_rp _ rfl (.tmp 15) (.tmp 16) 28 rfl w2.heap.size 80 i0 (.agg #[.int .i64 0, .int .i64 0, .int .i64 0, .int .i64 0]) 32 Try.underlying28 hi hz0 hz1 hz2 rfl _ _ _ rfl rowL D ss d w2.heap.size rfl rA1 (by unfold maxLen; omega) (by omega) (by simp) ?_; intro v3 w3 o3 g3 hat3; have b3 : Below w2.heap.size w2 w3 := ((Below.refl _ _).alloc (Nat.le_refl _) _).trans (grown_below rowL g3 (by simp) (Nat.le_refl _)); have S3 := S2.below b3 hgz; have rowA := row1.kept g3 (own_sep fun b hb e => by have h1 := hrow.lt b hb; have h2 := (rowL.lt b e).1; omega); simp only [Nat.zero_add, List.nil_append] at o3; obtain ⟨D3, d3, hv3⟩ := own_shape o3; subst hv3; clear g3 hat3 rowL rA1 row1 SA) | fail)
  · have B3 := B2.trans (b3.mono B2.size)
    have z3 := b3.size
    have h0 : 0 < ss.length := by omega
    refine (l1Chance_any _ _ 2 A c l _ S3 (by omega) (by omega) (by omega)).mono ?_
    rintro e w4 ⟨b, rfl, S4, g4⟩
    have rowA4 := rowA.kept g4 (own_sep fun b hb e => by have := rowA.lt b hb; simp at e; omega)
    have o4 := o3.kept g4 (own_sep fun b hb e => by have := o3.lt b hb; simp at e; omega)
    have B4 : Below w.heap.size w w4 := grown_from B3 g4 B3.size (by rw [HGG.out]; exact Nat.le_refl _)
    clear g4 rowA o3 S3
    by_cases hb : b = true
    · subst hb
      go_wp2_with fail
      refine (l1Next_any _ _ _ A c l _ S4 (by omega) (by omega) (by omega)).mono ?_
      rintro e w5 ⟨r, rfl, hr0, hr1, S5, g5⟩
      have rowA5 := rowA4.kept g5 (own_sep fun b hb e => by have := rowA4.lt b hb; simp at e; omega)
      have o5 := o4.kept g5 (own_sep fun b hb e => by have := o4.lt b hb; simp at e; omega)
      have B5 : Below w.heap.size w w5 := grown_from B4 g5 B4.size (by rw [HGG.out]; exact Nat.le_refl _)
      obtain ⟨q, rfl⟩ := Int.eq_ofNat_of_zero_le hr0
      have hq : q < ss.length := by omega
      obtain ⟨gb, rfl⟩ : ∃ gb, D3 = some ⟨gb, 0, none⟩ := by
        rcases o5.2 with ⟨h', h''⟩ | ⟨gb, cap, cur, h', _⟩
        · omega
        · simp only [Value.slice.injEq, true_and] at h'
          exact ⟨gb, h'.1⟩
      have hgb := o5.lt gb rfl
      obtain ⟨q0, _⟩ := stps_get ss q hq
      have c5 : w5.cell? ⟨gb, q * 4, none⟩ = some (.int .i64 ss[q].c) := by rw [o5.cellAt (q * 4) (by omega)]; exact q0
      have f5 := o5.frozenAt (q * 4)
      have HS := hide (fun y : Int => (o5.stored (q * 4) (.int .i64 y)).1)
      have HA := hide (fun y : Int => rowA5.kept (grown_set w5 gb (q * 4) (.int .i64 y)) (own_sep fun b hb e => by have h1 := hrow.lt b hb; simp only [Option.some.injEq] at e; omega))
      have hgw : w.heap.size ≤ gb := by have := B2.size; omega
      clear g5 rowA5 rowA4 o4 o5 S4 S5 hr1 q0 b3
      go_wp2
      have HB5 : ∀ y : Int, Below w.heap.size w (w5.setCell ⟨gb, q * 4, none⟩ (.int .i64 y)) := fun y => B5.setCell (by simp only; omega) _
      refine bodyPost_ret (v := .tuple #[.slice D ss.length d, .slice (some ⟨gb, 0, none⟩) ss.length d3]) (by simp [results, Try.results15, go_sem]) rfl ?_
      refine ⟨ss, ss.set q ⟨wrap64 (ss[q].c + 1), ss[q].e⟩, D, some ⟨gb, 0, none⟩, d, d3, by rw [List.length_set], hss, by rw [List.length_set]; exact hss, RdP.of_own (HA.out _), ?_, HB5 _⟩
      have h9 := HS.out (wrap64 (ss[q].c + 1))
      rw [stps_set ss q _ hq] at h9
      exact RdP.of_own h9
    · obtain rfl : b = false := by simpa using hb
      have r1 := RdP.of_own rowA4
      have r2 := RdP.of_own o4
      clear rowA4 o4 S4 hb
      go_wp2
      refine bodyPost_ret (v := .tuple #[.slice D ss.length d, .slice D3 ss.length d3]) (by simp [results, Try.results15, go_sem]) rfl ?_
      exact ⟨ss, ss, D, D3, d, d3, rfl, hss, hss, r1, r2, B4⟩
  · have B3 := B2.trans (b3.mono B2.size)
    have r1 := RdP.of_own rowA
    have r2 := RdP.of_own o3
    refine bodyPost_ret (v := .tuple #[.slice D ss.length d, .slice D3 ss.length d3]) (by simp [results, Try.results15, go_sem]) rfl ?_
    exact ⟨ss, ss, D, D3, d, d3, rfl, hss, hss, r1, r2, B3⟩
end Go.Proofs.Ythomadhdjapahaa
