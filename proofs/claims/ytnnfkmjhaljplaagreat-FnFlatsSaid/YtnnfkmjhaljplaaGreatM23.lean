/- What the laws' walks rest upon, part 23. -/
import Derived.Test.YtnnfkmjhaljplaaGreatM14
import Derived.Test.YtnnfkmjhaljplaaGreatM09
import Derived.Test.YtnnfkmjhaljplaaGreatM22
import Derived.Test.YtnnfkmjhaljplaaGreatM07
namespace Go.Proofs.YtnnfkmjhaljplaaGreat
open Go.RowKit
theorem mem3q {r : Int} (h : r ∈ [1, 2, 4]) : 1 ≤ r ∧ r ≤ 4 := by simp at h; omega
theorem run_len32 {t : List (List Ev)} (h : pgF t = 0) (Ln : Nat) (hL : 1 ≤ Ln ∧ Ln ≤ 4) (ps : List Int) : (runL (newM t.length Ln) (logO t (ordF t ps))).1.length ≤ 32 := by
  obtain ⟨_, _, _, hF⟩ := sim_ok (picks := ps) h (show 1 ≤ (Ln : Int) ∧ (Ln : Int) ≤ 4 by omega)
  unfold simL at hF
  rw [Int.toNat_natCast] at hF
  exact (logF_zero hF).2.1
theorem stps_set_v : ∀ (l : List Stp) (k : Nat) (hk : k < l.length) (x : Int), (stps l).set (k * 4 + 3) (.int .i64 x) = stps (l.set k ⟨l[k].c, ⟨l[k].e.k, l[k].e.a, x⟩⟩)
  | [], k, h, _ => by simp at h
  | s :: r, 0, _, x => rfl
  | s :: r, k + 1, h, x => by
    have := stps_set_v r k (by simpa using h) x
    rw [show (k + 1) * 4 + 3 = (k * 4 + 3) + 1 + 1 + 1 + 1 by omega]
    simp only [stps, List.set_cons_succ, List.getElem_cons_succ]
    rw [this]
/-- What is drawn: a log to read, and a number of cores. -/
def FtPost (w : World) (e : Ending) (w' : World) : Prop := ∃ (ss : List Stp) (D : Option Addr) (d : Nat) (n : Int), e = .returned (.tuple #[.slice D ss.length d, .int .i64 n]) ∧ ss.length ≤ 200 ∧ RdP w' w'.heap.size D ss ∧ Below w.heap.size w w'
set_option maxRecDepth 100000 in
set_option maxHeartbeats 1600000 in
theorem DrawIsFlat_any (l : List Int) (A : Option Addr) (c : Nat) (w : World) (hl : l.length ≤ 1048576) (hR : Rd .u8 w w.heap.size A l) (b8 : B8 l) :
    Calls Tryz.prog 5 #[.slice A l.length c] w (FtPost w) := by
  go_enter Tryz.func5, Tryz.ntmps5
  go_wp2_with fail
  refine (l1Source_any l A c w hR b8 hl).mono ?_
  rintro e w1 ⟨rfl, S1, B1⟩
  go_wp2_with fail
  refine (l1Chance_any _ _ 3 A c l w1 S1 (by omega) (by omega) (by omega)).mono ?_
  rintro e w2 ⟨bo, rfl, S2, g2⟩
  have B2 := grown_from B1 g2 B1.size (Nat.le_refl _)
  have hz2 := B2.size
  have hgl := S2.lt
  clear g2 S1 B1 hR b8
  cases bo
  · go_wp2_with fail
    refine (l7Programs_any _ _ A c l _ S2 (by omega)).mono ?_
    rintro e w3 ⟨p, pu, Dp, dp, rfl, hp1, hp4, hall, oP, k1, hk1, S3, g3⟩
    have hpg := hide (pgF_draw ⟨hp1, hp4⟩ hall)
    have B3 := grown_from B2 g3 hz2 (Nat.le_refl _)
    clear hall B2 S2
    go_wp2_with fail
    refine (l1Pick_any _ k1 _ [1, 2, 4] A c l _ _ (S3.alloc _) (by omega) (by simp) (by simp) (Bk.new _ _ _) (by have := S3.lt; omega)).mono ?_
    rintro e w4 ⟨x, rfl, hx, S4, g4⟩
    have g34 := grown_alloc g4
    have oP2 := oP.kept g34 (fun b e => by cases e; exact hgl)
    have B4 := grown_from B3 g34 B3.size (Nat.le_refl _)
    obtain ⟨Ln, rfl⟩ := Int.eq_ofNat_of_zero_le (show 0 ≤ x by have := mem3q hx; omega)
    have hLn : 1 ≤ Ln ∧ Ln ≤ 4 := by have := mem3q hx; omega
    clear g4 g34 g3 S3 hx oP B3
    go_wp2_with fail
    refine (l6Picks_any _ _ A c l _ S4 (by omega)).mono ?_
    rintro e w5 ⟨ps, Dk, dk, rfl, hps, hpI, oK, k3, hk3, S5, g5⟩
    have oP3 := oP2.kept g5 (fun b e => by cases e; exact hgl)
    have B5 := grown_from B4 g5 B4.size (Nat.le_refl _)
    have RF := run_len32 hpg.out Ln hLn ps
    have RN := l7Run_any p Ln ps Dp Dk dp dk w5 hpg.out hLn (by omega) oP3.rd (Rd.of_own (k := .i64) oK)
    unfold RunPost at RN
    obtain ⟨S, M, hSM⟩ : ∃ S M, runL (newM p.length Ln) (logO p (ordF p ps)) = (S, M) := ⟨_, _, rfl⟩
    rw [hSM] at RN RF
    dsimp only at RN RF
    have HRN := hide RN
    clear hSM g5 S4 B4 hpI oP2 oP3 oK RN hpg
    go_wp2_with fail
    refine HRN.out.mono ?_
    rintro e w6 ⟨BB, cb, A1, c1, Ap1, cp1, us1, rfl, oL, _, b6⟩
    obtain ⟨W6, hW6⟩ : ∃ W, W = w6.alloc (Obj.cells #[Value.slice A1 M.cs.length c1, Value.slice Ap1 M.mem.length cp1] 35) := ⟨_, rfl⟩
    have S6 : Src W6 w.heap.size A c l k3 := by rw [hW6]; exact (S5.below b6 S5.lt).alloc _
    have B6 : Below w.heap.size w W6 := by rw [hW6]; exact (B5.trans (b6.mono B5.size)).alloc (Nat.le_trans B5.size b6.size) _
    have o6 : W6.ownsRow w5.heap.size 66 4 (.slice BB S.length cb) S.length (stps S) := by rw [hW6]; exact oL.alloc _
    have hgl5 := S5.lt
    have HW6 := hide hW6
    clear hW6 HRN S5 B5 b6 oL
    by_cases h0 : 0 < S.length
    · go_wp2_with fail
      rw [← HW6.out]
      refine (l1Chance_any _ _ 3 A c l W6 S6 (by omega) (by omega) (by omega)).mono ?_
      rintro e w7 ⟨b2, rfl, S7, g7⟩
      have B7 := grown_from B6 g7 B6.size (Nat.le_refl _)
      have o7 := o6.kept g7 (own_sep fun b hb e => by have := o6.lt b hb; cases e; omega)
      clear g7 S6 B6 o6
      cases b2
      · go_wp2
        refine bodyPost_ret (v := .tuple #[.slice BB S.length cb, .int .i64 p.length]) (by simp [results, Tryz.results5, go_sem]) rfl ?_
        exact ⟨S, BB, cb, _, rfl, by omega, RdP.of_own o7, B7⟩
      · go_wp2_with fail
        refine (l1Next_any _ _ S.length A c l w7 S7 (by omega) (by omega) (by omega)).mono ?_
        rintro e w8 ⟨r, rfl, hr0, hr1, S8, g8⟩
        obtain ⟨j, rfl⟩ := Int.eq_ofNat_of_zero_le hr0
        have hj : j < S.length := by omega
        have B8 := grown_from B7 g8 B7.size (Nat.le_refl _)
        have o8 := o7.kept g8 (own_sep fun b hb e => by have := o7.lt b hb; cases e; omega)
        clear g8 S7 B7 o7 hr0 hr1
        go_wp2_with fail
        refine (l1Pick_any _ _ _ [0, 1, 2] A c l _ _ (S8.alloc _) (by omega) (by simp) (by simp) (Bk.new _ _ _) (by have := S8.lt; omega)).mono ?_
        rintro e w9 ⟨y, rfl, hy, S9, g9⟩
        have g89 := grown_alloc g9
        have B9 := grown_from B8 g89 B8.size (Nat.le_refl _)
        have o9 := o8.kept g89 (own_sep fun b hb e => by have := o8.lt b hb; cases e; omega)
        clear g9 g89 S8 B8 o8 hy
        obtain ⟨gv, rfl⟩ : ∃ gv, BB = some ⟨gv, 0, none⟩ := by
          rcases o9.2 with ⟨h', h''⟩ | ⟨g, cap, cur, h', _⟩
          · omega
          · simp only [Value.slice.injEq, true_and] at h'
            exact ⟨g, h'.1⟩
        have hgv := o9.lt gv rfl
        have q0 : ∃ v, w9.cell? ⟨gv, j * 4 + 3, none⟩ = some v := by
          rw [o9.cellAt (j * 4 + 3) (by omega)]
          have hlen := o9.1
          exact ⟨_, List.getElem?_eq_getElem (by omega)⟩
        obtain ⟨qv, q0⟩ := q0
        have f0 := o9.frozenAt (j * 4 + 3)
        have st := (o9.stored (j * 4 + 3) (.int .i64 y)).1
        rw [stps_set_v S j hj] at st
        have BF := B9.setCell (p := ⟨gv, j * 4 + 3, none⟩) (by have := hgv.1; simp only; omega) (.int .i64 y)
        have HF := hide (And.intro st BF)
        clear st BF o9 B9 S9
        go_wp2
        refine bodyPost_ret (v := .tuple #[.slice (some ⟨gv, 0, none⟩) S.length cb, .int .i64 p.length]) (by simp [results, Tryz.results5, go_sem]) rfl ?_
        refine ⟨S.set j ⟨S[j].c, ⟨S[j].e.k, S[j].e.a, y⟩⟩, _, cb, _, by rw [List.length_set], by rw [List.length_set]; omega, ?_, HF.out.2⟩
        have h1 := HF.out.1
        exact RdP.of_own (n := S.length) h1
    · go_wp2
      refine bodyPost_ret (v := .tuple #[.slice BB S.length cb, .int .i64 p.length]) (by simp [results, Tryz.results5, go_sem]) rfl ?_
      rw [← HW6.out]
      exact ⟨S, BB, cb, _, rfl, by omega, RdP.of_own o6, B6⟩
  · go_wp2_with fail
    refine (l6Log_any _ _ A c l _ S2 (by omega)).mono ?_
    rintro e w3 ⟨ss, D, d, n, rfl, hss, ho, k2, hk2, S3, g3⟩
    have B3 := grown_from B2 g3 hz2 (Nat.le_refl _)
    go_wp2
    refine bodyPost_ret (v := .tuple #[.slice D ss.length d, .int .i64 n]) (by simp [results, Tryz.results5, go_sem]) rfl ?_
    exact ⟨ss, D, d, n, rfl, hss, RdP.of_own ho, B3⟩
end Go.Proofs.YtnnfkmjhaljplaaGreat
