/- The contract of the model's draw of a machine. -/
import Derived.Test.YtifijhfeeammkaaDrM
import Derived.Test.YtifijhfeeammkaaGDrawO
import Derived.Test.YtifijhfeeammkaaHeldE
import Derived.Test.YtifijhfeeammkaaGBuf
import Derived.Test.YtifijhfeeammkaaGNew
import Derived.Test.YtifijhfeeammkaaGDo
namespace Go.Proofs.Ytifijhfeeammkaa
open Go.RowKit

theorem run_draw {t : List (List Ev)} (h : pgF t = 0) (Ln : Nat) (hL : 1 ≤ Ln ∧ Ln ≤ 4) (ps : List Int) : GoodM t.length Ln (runL (newM t.length Ln) (logO t (ordF t ps))).2 ∧ (runL (newM t.length Ln) (logO t (ordF t ps))).2.mem.length ≤ 32 := by
  obtain ⟨_, G, hF, _⟩ := sim_ok (picks := ps) h (show 1 ≤ (Ln : Int) ∧ (Ln : Int) ≤ 4 by omega)
  unfold simL at G hF
  rw [Int.toNat_natCast] at G hF
  exact ⟨G, (macF_zero hF).2⟩
theorem getD_zero {cs : List (List Ev)} (h : 0 < cs.length) : cs.getD 0 [] = cs[0] := by simp [h]
theorem set0_20 {cs : List (List Ev)} {l' : List Ev} (h : ∀ x ∈ cs, x.length ≤ 20) (hl : l'.length ≤ 20) : ∀ x ∈ cs.set 0 l', x.length ≤ 20 := fun x hx => by
  rcases List.mem_or_eq_of_mem_set hx with a | a
  · exact h x a
  · rw [a]; exact hl
theorem mem2 {r : Int} (h : r ∈ [1, 2]) : r = 1 ∨ r = 2 := by simpa using h
theorem mem3 {r : Int} (h : r ∈ [1, 2, 4]) : r = 1 ∨ r = 2 ∨ r = 4 := by simpa using h
theorem mem5 {r : Int} (h : r ∈ [29, 30, 31, 32, 33]) : 29 ≤ r ∧ r ≤ 33 := by simp at h; omega

set_option maxRecDepth 100000 in
set_option maxHeartbeats 8000000 in
theorem l7Machine_any (g k : Nat) (A : Option Addr) (c : Nat) (l : List Int) (w : World) (hS : Src w g A c l k) (hk : k ≤ 500) :
    Calls Try.prog 60 #[.pointer (some ⟨g, 0, none⟩)] w (MacPost w g A c l k) := by
  obtain ⟨i0, hi, hz0, hz1, hz2⟩ := info_parts info_cell
  obtain ⟨j0, hj, hy0, hy1, hy2⟩ := info_parts info_line
  obtain ⟨l0, hl, hx0, hx1, hx2⟩ := info_parts info_lines
  obtain ⟨W, hW⟩ : ∃ W, W = w.alloc (Obj.cells #[.slice none 0 0, .slice none 0 0] 27) := ⟨_, rfl⟩
  have k1 : Bk W w.heap.size #[.slice none 0 0, .slice none 0 0] 27 := by rw [hW]; exact Bk.new _ _ _
  have S0 : Src W g A c l k := by rw [hW]; exact hS.alloc _
  have G0 : w.grownBy W (some g) := by rw [hW]; exact World.grownBy_alloc _ _ _
  have hgl := hS.lt
  have zW : w.heap.size < W.heap.size := k1.lt
  have HW := hide hW
  clear hW hS
  go_enter Try.func60, Try.ntmps60
  go_wp2_with fail
  rw [← HW.out]
  refine (l7Programs_any g k A c l W S0 (by omega)).mono ?_
  rintro e w1 ⟨t, ust, D, d, rfl, ht1, ht4, hall, oT, ka, hka, S1, g1⟩
  have hpg := hide (pgF_draw ⟨ht1, ht4⟩ hall)
  have G1 := G0.trans g1
  replace k1 := k1.grown g1 (by simp; omega)
  have z1 := g1.size
  clear g1 G0 S0 hall
  go_wp2_with fail
  refine (l1Pick_any g ka _ [1, 2, 4] A c l _ _ (S1.alloc _) (by omega) (by simp) (by simp) (Bk.new _ _ _) (by have := S1.lt; omega)).mono ?_
  rintro e w2 ⟨x, rfl, hx, S2, g2⟩
  replace oT := (oT.alloc (.cells #[.int .i64 1, .int .i64 2, .int .i64 4] 2)).kept g2 (fun b e => by simp at e; omega)
  have g12 := grown_alloc g2
  have G2 := G1.trans g12
  replace k1 := k1.grown g12 (by simp; omega)
  have z2 := g12.size
  obtain ⟨Ln, rfl⟩ := Int.eq_ofNat_of_zero_le (show 0 ≤ x by have := mem3 hx; omega)
  have hLn : 1 ≤ Ln ∧ Ln ≤ 4 := by have := mem3 hx; omega
  clear g2 g12 G1 S1 hx
  go_wp2_with fail
  refine (l6Picks_any g _ A c l _ S2 (by omega)).mono ?_
  rintro e w3 ⟨ps, Dp, dp, rfl, hps, hpI, oP, k3, hk3, S3, g3⟩
  replace oT := oT.kept g3 (fun b e => by simp at e; omega)
  have G3 := G2.trans g3
  replace k1 := k1.grown g3 (by simp; omega)
  have z3 := g3.size
  obtain ⟨GM, hM32⟩ := run_draw hpg.out Ln hLn ps
  have RN := l7Run_any t Ln ps D Dp d dp w3 hpg.out hLn (by omega) oT.rd (Rd.of_own (k := .i64) oP)
  unfold RunPost at RN
  obtain ⟨S, M, hSM⟩ : ∃ S M, runL (newM t.length Ln) (logO t (ordF t ps)) = (S, M) := ⟨_, _, rfl⟩
  rw [hSM] at RN GM hM32
  dsimp only at RN GM hM32
  clear hSM g3 G2 S2 hpI oP oT
  have HRN := hide RN
  clear RN
  go_wp2_with fail
  refine HRN.out.mono ?_
  rintro e w4 ⟨BB, cb, A1, c1, Ap1, cp1, us, rfl, _, om, b4⟩
  clear HRN
  have HCS := hide (show M.cs.length = t.length from GM.shp.1)
  have hrow : ∀ x ∈ M.cs, x.length = Ln := GM.shp.2
  have e4 := (Below.refl w4.heap.size w4).alloc (Nat.le_refl _) (Obj.cells #[.slice A1 M.cs.length c1, .slice Ap1 M.mem.length cp1] 27)
  have z4 := b4.size
  have D0 : DrM w g A c l w.heap.size w4.heap.size k3 (.slice A1 M.cs.length c1) (.slice Ap1 M.mem.length cp1) (.slice A1 M.cs.length c1) (.slice Ap1 M.mem.length cp1) M.cs M.mem us (w4.alloc (Obj.cells #[.slice A1 M.cs.length c1, .slice Ap1 M.mem.length cp1] 27)) :=
    ⟨(k1.kept b4).kept e4, Bk.new _ _ _, (om.cs.below e4).mono (by omega), own_mono (own_below om.mem e4 (Nat.le_refl _)) (by omega), (S3.below b4 S3.lt).alloc _, (G3.trans (grown_of_below _ b4)).trans (grown_of_below _ e4), hgl, rfl, by omega⟩
  have h0 : 0 < M.cs.length := by have := HCS.out; omega
  obtain ⟨X, hX⟩ : ∃ X, X = w4.alloc (Obj.cells #[.slice A1 M.cs.length c1, .slice Ap1 M.mem.length cp1] 27) := ⟨_, rfl⟩
  obtain ⟨p, hp⟩ : ∃ p, p = w4.heap.size := ⟨_, rfl⟩
  rw [← hX, ← hp] at D0
  have HX := hide hX
  have HP := hide hp
  have hpl : w.heap.size < p := by omega
  clear hX hp om b4 e4 k1 S3 G3
  go_upto_region 2 with fail
  rw [← HX.out, ← HP.out]
  obtain ⟨gv, hA1⟩ : ∃ gv, A1 = some ⟨gv, 0, none⟩ := by
    obtain ⟨gv, cap, cur, hA1, _⟩ := own_open D0.cs.row h0
    simp only [Value.slice.injEq, true_and] at hA1
    exact ⟨gv, hA1.1⟩
  subst hA1
  obtain ⟨u0, hu, hown, _⟩ := D0.cs.rows 0 h0
  have hl0 : M.cs[0].length = Ln := hrow _ (List.getElem_mem h0)
  rw [hl0] at hown
  obtain ⟨b0, cu, cur, rfl, _, hcu, hLcu, hcm, hrest⟩ := own_open hown (by omega)
  have hgd : (M.cs.getD 0 []).length = Ln := by rw [getD_zero h0]; exact hl0
  have hall20 : ∀ x ∈ M.cs, x.length ≤ 20 := fun x hx => by rw [hrow x hx]; omega
  obtain ⟨y, r', hyr⟩ : ∃ y r', M.cs[0] = y :: r' := by
    match h9 : M.cs[0] with
    | [] => rw [h9] at hl0; simp at hl0; omega
    | y :: r' => exact ⟨y, r', rfl⟩
  have hr'L : r'.length + 1 = Ln := by rw [hyr] at hl0; simpa using hl0
  have c0 := (D0.box.cell 0).trans (rfl : _ = some (Value.slice (some ⟨gv, 0, none⟩) M.cs.length c1))
  have cg : X.cell? ⟨gv, 0, none⟩ = some (Value.slice (some ⟨b0, 0, none⟩) Ln cu) := by rw [D0.cs.row.cellAt 0 (by omega)]; exact hu
  have hL0 : ¬ Ln ≤ 0 := by omega
  have hL0' : ¬ M.cs.length ≤ 0 := by omega
  have hL1 : 0 < Ln := by omega
  have HROW := hide hrow
  have HYR := hide (And.intro hyr hl0)
  have HGM := hide GM
  clear hrow hyr hl0 GM hrest hcu cur hown
  go_wp2_with fail
  clear c0 cg
  refine (l1Next_any g k3 16 A c l _ D0.src (by omega) (by omega) (by omega)).mono ?_
  rintro e w6 ⟨s, rfl, hs0, hs1, S6, g6⟩
  have D6 := D0.drawn S6 g6
  have hk3' : k3 ≤ k + 152 := by omega
  have hc5 : M.cs.length ≤ 4 := by have := HCS.out; omega
  clear g6 hs0 hs1 D0
  by_cases e0 : s = 0
  · subst e0
    have S6' := D6.src
    go_wp2_with fail
    refine (l1Pick_any g (k3 + 1) _ [0, 1, 2, 3] A c l _ _ (S6'.alloc _) (by omega) (by simp) (by simp) (Bk.new _ _ _) (by have := S6'.lt; omega)).mono ?_
    rintro e w7 ⟨r, rfl, hr, S7, g7⟩
    have D7 := (D6.alloc (.cells #[.int .i64 0, .int .i64 1, .int .i64 2, .int .i64 3] 2)).drawn S7 g7
    clear g7
    obtain ⟨_, hrw, _⟩ := D7.cs.at_ hu
    rw [HYR.out.2] at hrw
    have q0 : w7.cell? ⟨b0, 0, none⟩ = some (.int .i64 y.k) := by rw [hrw.cellAt 0 (by omega), HYR.out.1]; rfl
    have q1 := hrw.frozenAt 0
    have D8 := D7.line hu 0 (.int .i64 r) (⟨r, y.a, y.v⟩ :: r') (by simpa using hr'L) (fun _ => by rw [HYR.out.1]; rfl)
    have HD8 := hide D8
    clear D7 D8 D6 S6' S6 S7 hr hrw
    go_upto_region 21 with fail
    have D8 := HD8.out
    clear HD8 q0 q1
    generalize w7.setCell ⟨b0, 0, none⟩ (.int .i64 r) = Z at D8 ⊢
    have y0 := (D8.box.cell 0).trans (rfl : _ = some (Value.slice (some ⟨gv, 0, none⟩) M.cs.length c1))
    have y1 := (D8.box.cell 1).trans (rfl : _ = some (Value.slice Ap1 M.mem.length cp1))
    have z0 := (D8.res.cell 0).trans (rfl : _ = some (Value.slice none 0 0))
    have z1 := (D8.res.cell 1).trans (rfl : _ = some (Value.slice none 0 0))
    have f0 := D8.res.frozen 0
    have f1 := D8.res.frozen 1
    have HD := hide D8
    clear D8
    go_wp2
    refine bodyPost_ret (v := macV (some ⟨gv, 0, none⟩) M.cs.length c1 Ap1 M.mem.length cp1) (by simp [results, Try.results60, go_sem, z0, z1]) rfl ?_
    exact HD.out.post (k0 := k) (by rw [List.length_set]) rfl ⟨by rw [List.length_set]; omega, by rw [List.length_set]; omega, by rw [getD_zero (by rw [List.length_set]; exact h0), List.getElem_set_self]; simp, set0_20 hall20 (by simp; omega)⟩ (by omega) (by omega) _ _
  by_cases e1 : s = 1
  · subst e1
    clear e0
    have S6' := D6.src
    go_wp2_with fail
    refine (l1Pick_any g (k3 + 1) _ [-1, 1, 3, 1000000] A c l _ _ (S6'.alloc _) (by omega) (by simp) (by simp) (Bk.new _ _ _) (by have := S6'.lt; omega)).mono ?_
    rintro e w7 ⟨r, rfl, hr, S7, g7⟩
    have D7 := (D6.alloc (.cells #[.int .i64 (-1), .int .i64 1, .int .i64 3, .int .i64 1000000] 2)).drawn S7 g7
    clear g7
    obtain ⟨_, hrw, _⟩ := D7.cs.at_ hu
    rw [HYR.out.2] at hrw
    have q0 : w7.cell? ⟨b0, 1, none⟩ = some (.int .i64 y.a) := by rw [hrw.cellAt 1 (by omega), HYR.out.1]; rfl
    have q1 := hrw.frozenAt 1
    have D8 := D7.line hu 1 (.int .i64 r) (⟨y.k, r, y.v⟩ :: r') (by simpa using hr'L) (fun _ => by rw [HYR.out.1]; rfl)
    have HD8 := hide D8
    clear D7 D8 D6 S6' S6 S7 hr hrw
    go_upto_region 21 with fail
    have D8 := HD8.out
    clear HD8 q0 q1
    generalize w7.setCell ⟨b0, 1, none⟩ (.int .i64 r) = Z at D8 ⊢
    have y0 := (D8.box.cell 0).trans (rfl : _ = some (Value.slice (some ⟨gv, 0, none⟩) M.cs.length c1))
    have y1 := (D8.box.cell 1).trans (rfl : _ = some (Value.slice Ap1 M.mem.length cp1))
    have z0 := (D8.res.cell 0).trans (rfl : _ = some (Value.slice none 0 0))
    have z1 := (D8.res.cell 1).trans (rfl : _ = some (Value.slice none 0 0))
    have f0 := D8.res.frozen 0
    have f1 := D8.res.frozen 1
    have HD := hide D8
    clear D8
    go_wp2
    refine bodyPost_ret (v := macV (some ⟨gv, 0, none⟩) M.cs.length c1 Ap1 M.mem.length cp1) (by simp [results, Try.results60, go_sem, z0, z1]) rfl ?_
    exact HD.out.post (k0 := k) (by rw [List.length_set]) rfl ⟨by rw [List.length_set]; omega, by rw [List.length_set]; omega, by rw [getD_zero (by rw [List.length_set]; exact h0), List.getElem_set_self]; simp, set0_20 hall20 (by simp; omega)⟩ (by omega) (by omega) _ _
  by_cases e2 : s = 2
  · subst e2
    clear e0 e1
    have S6' := D6.src
    go_wp2_with fail
    refine (l1Pick_any g (k3 + 1) _ [-1, 5] A c l _ _ (S6'.alloc _) (by omega) (by simp) (by simp) (Bk.new _ _ _) (by have := S6'.lt; omega)).mono ?_
    rintro e w7 ⟨r, rfl, hr, S7, g7⟩
    have D7 := (D6.alloc (.cells #[.int .i64 (-1), .int .i64 5] 2)).drawn S7 g7
    clear g7
    obtain ⟨_, hrw, _⟩ := D7.cs.at_ hu
    rw [HYR.out.2] at hrw
    have q0 : w7.cell? ⟨b0, 2, none⟩ = some (.int .i64 y.v) := by rw [hrw.cellAt 2 (by omega), HYR.out.1]; rfl
    have q1 := hrw.frozenAt 2
    have D8 := D7.line hu 2 (.int .i64 r) (⟨y.k, y.a, r⟩ :: r') (by simpa using hr'L) (fun _ => by rw [HYR.out.1]; rfl)
    have HD8 := hide D8
    clear D7 D8 D6 S6' S6 S7 hr hrw
    go_upto_region 21 with fail
    have D8 := HD8.out
    clear HD8 q0 q1
    generalize w7.setCell ⟨b0, 2, none⟩ (.int .i64 r) = Z at D8 ⊢
    have y0 := (D8.box.cell 0).trans (rfl : _ = some (Value.slice (some ⟨gv, 0, none⟩) M.cs.length c1))
    have y1 := (D8.box.cell 1).trans (rfl : _ = some (Value.slice Ap1 M.mem.length cp1))
    have z0 := (D8.res.cell 0).trans (rfl : _ = some (Value.slice none 0 0))
    have z1 := (D8.res.cell 1).trans (rfl : _ = some (Value.slice none 0 0))
    have f0 := D8.res.frozen 0
    have f1 := D8.res.frozen 1
    have HD := hide D8
    clear D8
    go_wp2
    refine bodyPost_ret (v := macV (some ⟨gv, 0, none⟩) M.cs.length c1 Ap1 M.mem.length cp1) (by simp [results, Try.results60, go_sem, z0, z1]) rfl ?_
    exact HD.out.post (k0 := k) (by rw [List.length_set]) rfl ⟨by rw [List.length_set]; omega, by rw [List.length_set]; omega, by rw [getD_zero (by rw [List.length_set]; exact h0), List.getElem_set_self]; simp, set0_20 hall20 (by simp; omega)⟩ (by omega) (by omega) _ _
  by_cases e3 : s = 3
  · subst e3
    clear e0 e1 e2
    have hc : w6.cell? ⟨p, 1, none⟩ = some (.slice Ap1 M.mem.length cp1) := (D6.box.cell 1).trans rfl
    have M0 : Mid w6 g A c l (k3 + 1) [] w6 := Mid.start S6
    have mc : ∀ (w' : World) (k' : Nat) (L : List (Nat × List Int)), Mid w6 g A c l k' L w' → w'.cell? ⟨p, 1, none⟩ = some (.slice Ap1 M.mem.length cp1) := fun w' k' L M' => M'.gr.cell hc (by simp; have := D6.nums; omega)
    have MC := hide mc
    have dm := fun (w' : World) (k' : Nat) (L : List (Nat × List Int)) (M' : Mid w6 g A c l k' L w') => D6.drawn M'.src M'.gr
    have DM := hide dm
    have hk9 : k3 ≤ 3000 := by omega
    clear mc hc dm D6 S6
    have hc := MC.out _ _ _ M0
    go_wp2_with fail
    have M' := Mid.dr M0
    clear hc M0
    refine wp_region_E 10 (fun w' => w'.cell? ⟨p, 1, none⟩ = some (.slice Ap1 M.mem.length cp1)) (by kernel_rfl) (MC.out _ _ _ M') (fun hHeld => ?_)
    try simp only [Act.put, List.setIfInBounds_toArray, List.set_cons_zero, List.set_cons_succ]
    refine wpAnyE_take (i := 0) (v := ?_) (by (simp only [List.getElem?_toArray, List.getElem?_cons_zero]; rfl)) (by kernel_rfl) (by kernel_rfl) (by kernel_rfl) (by decide) (by exact fun _ _ _ h => h) (.inr hHeld) (Or.inl ⟨by rfl, ?_⟩) ?_
    rotate_left
    · (intro w' _; go_simp <;> with_reducible rfl)
    try simp only [Act.put, List.setIfInBounds_toArray, List.set_cons_zero, List.set_cons_succ]
    refine wpAnyE_take (i := 2) (v := ?_) (by (simp only [List.getElem?_toArray, List.getElem?_cons_succ, List.getElem?_cons_zero]; rfl)) (by kernel_rfl) (by kernel_rfl) (by kernel_rfl) (by decide) (by exact fun _ _ _ h => h) (.inr hHeld) (Or.inl ⟨by rfl, ?_⟩) ?_
    rotate_left
    · (intro w' _; go_simp <;> with_reducible rfl)
    try simp only [Act.put, List.setIfInBounds_toArray, List.set_cons_zero, List.set_cons_succ]
    refine wpAnyE_take (i := 5) (v := ?_) (by (simp only [List.getElem?_toArray, List.getElem?_cons_succ, List.getElem?_cons_zero]; rfl)) (by kernel_rfl) (by kernel_rfl) (by kernel_rfl) (by decide) (by exact fun _ _ _ h => h) (.inr hHeld) (Or.inl ⟨by rfl, ?_⟩) ?_
    rotate_left
    · (intro w' _; go_simp <;> with_reducible rfl)
    try simp only [Act.put, List.setIfInBounds_toArray, List.set_cons_zero, List.set_cons_succ]
    refine wpAnyE_load (i := 1) (v := ?_) (by (simp only [List.getElem?_toArray, List.getElem?_cons_succ, List.getElem?_cons_zero]; rfl)) (by kernel_rfl) (by kernel_rfl) (by kernel_rfl) (by decide) (by exact fun _ _ _ h => h) hHeld (by kernel_rfl) (by kernel_rfl) (Or.inl ⟨by rfl, ?_⟩) ?_
    rotate_left
    · (intro w' hSw; (try dsimp only at hSw); go_simp <;> with_reducible rfl)
    try simp only [Act.put, List.setIfInBounds_toArray, List.set_cons_zero, List.set_cons_succ]
    refine wpAnyE_ready (rs := [3, 6]) (by kernel_rfl) (by simp) ?_
    refine AllReadyE.cons (by (simp only [List.getElem?_toArray, List.getElem?_cons_succ, List.getElem?_cons_zero]; rfl)) (fun K hK => ?_) ?_
    · skip
      go_simp
      replace M' := Mid.al M' 0 999999 7
      refine hK.out _ _ (MC.out _ _ _ M') (fun hNew => ?_)
      replace hHeld := hNew
      clear hK K hNew
      try simp only [Act.put, List.setIfInBounds_toArray, List.set_cons_zero, List.set_cons_succ]
      refine wpAnyE_ready (rs := [4, 6]) (by kernel_rfl) (by simp) ?_
      refine AllReadyE.cons (by (simp only [List.getElem?_toArray, List.getElem?_cons_succ, List.getElem?_cons_zero]; rfl)) (fun K hK => ?_) ?_
      · skip
        go_simp
        go_at_call 63
        refine (pick_mid (w0 := w6) (A := A) (c := c) (l := l) _ [0, 999999, 7] ⟨_, _, M', by omega, by simp⟩ (by simp) (by simp)).mono ?_
        rintro e wa ⟨r1, rfl, N⟩
        replace M' := N _ _ M'
        clear N
        refine hK.out _ _ (MC.out _ _ _ M') (fun hNew => ?_)
        replace hHeld := hNew
        clear hK K hNew
        try simp only [Act.put, List.setIfInBounds_toArray, List.set_cons_zero, List.set_cons_succ]
        refine wpAnyE_ready (rs := [6]) (by kernel_rfl) (by simp) ?_
        refine AllReadyE.cons (by (simp only [List.getElem?_toArray, List.getElem?_cons_succ, List.getElem?_cons_zero]; rfl)) (fun K hK => ?_) AllReadyE.nil
        go_simp
        replace M' := Mid.al2 M' 0 5
        refine hK.out _ _ (MC.out _ _ _ M') (fun hNew => ?_)
        replace hHeld := hNew
        clear hK K hNew
        try simp only [Act.put, List.setIfInBounds_toArray, List.set_cons_zero, List.set_cons_succ]
        refine wpAnyE_ready (rs := [7]) (by kernel_rfl) (by simp) ?_
        refine AllReadyE.cons (by (simp only [List.getElem?_toArray, List.getElem?_cons_succ, List.getElem?_cons_zero]; rfl)) (fun K hK => ?_) AllReadyE.nil
        go_simp
        go_at_call 63
        refine (pick_mid (w0 := w6) (A := A) (c := c) (l := l) _ [0, 5] ⟨_, _, M', by omega, by simp⟩ (by simp) (by simp)).mono ?_
        rintro e wa ⟨r2, rfl, N⟩
        replace M' := N _ _ M'
        clear N
        refine hK.out _ _ (MC.out _ _ _ M') (fun hNew => ?_)
        replace hHeld := hNew
        clear hK K hNew
        try simp only [Act.put, List.setIfInBounds_toArray, List.set_cons_zero, List.set_cons_succ]
        refine wpAnyE_take (i := 8) (v := ?_) (by (simp only [List.getElem?_toArray, List.getElem?_cons_succ, List.getElem?_cons_zero]; rfl)) (by kernel_rfl) (by kernel_rfl) (by kernel_rfl) (by decide) (by exact fun _ _ _ h => h) (.inr hHeld) (Or.inl ⟨by rfl, ?_⟩) ?_
        rotate_left
        · (intro w' _; go_simp <;> with_reducible rfl)
        try simp only [Act.put, List.setIfInBounds_toArray, List.set_cons_zero, List.set_cons_succ]
        refine wpAnyE_ready (rs := [9]) (by kernel_rfl) (by simp) ?_
        refine AllReadyE.cons (by (simp only [List.getElem?_toArray, List.getElem?_cons_succ, List.getElem?_cons_zero]; rfl)) (fun K hK => ?_) AllReadyE.nil
        go_simp
        have ME := M'.any (.cells #[.int .i64 r1, .int .i64 r2] 120)
        have D7 := DM.out _ _ _ ME
        have hBl := RdC.one_new wa ⟨r1, r2⟩ 120
        refine hK.out _ _ (MC.out _ _ _ ME) (fun hNew => ?_)
        replace hHeld := hNew
        clear hK K hNew
        try simp only [Act.put, List.setIfInBounds_toArray, List.set_cons_zero, List.set_cons_succ]
        refine wpAnyE_ready (rs := [10]) (by kernel_rfl) (by simp) ?_
        refine AllReadyE.last (by (simp only [List.getElem?_toArray, List.getElem?_cons_succ, List.getElem?_cons_zero]; rfl)) (by kernel_rfl) (fun K hK => ?_) AllReadyE.nil
        refine step_append_rc _ (by rfl) (.tmp 52) (.tmp 60) 25 (by rfl) (w.heap.size + 1) 120 i0 (.agg #[.int .i64 0, .int .i64 0]) 16 Try.underlying25 hi hz0 hz1 hz2 rfl (.slice Ap1 M.mem.length cp1) M.mem.length (cels M.mem) (by rfl) D7.mem (some ⟨wa.heap.size, 0, none⟩) [⟨r1, r2⟩] 1 (wa.heap.size + 1) (by rfl) hBl (by unfold maxLen; simp only [List.length_cons, List.length_nil]; omega) (by simp only [List.length_cons, List.length_nil]; omega) (by have := D7.res.lt; omega) ?_
        intro v5 w5 o5 g5 hat5
        have D8 := D7.grewM (y := ⟨r1, r2⟩) o5 g5
        obtain ⟨A5, c5, hv5⟩ := own_shape o5
        simp only [List.length_cons, List.length_nil] at hv5
        subst hv5
        clear o5 g5 hat5 hBl D7
        have s1 := (D8.box.cell 1).trans (rfl : _ = some (Value.slice Ap1 M.mem.length cp1))
        have sf := D8.box.frozen 1
        have HD8 := hide D8
        clear D8
        refine hK.out _ _ ?_
        clear hK K
        try simp only [Act.put, List.setIfInBounds_toArray, List.set_cons_zero, List.set_cons_succ]
        refine wpAnyE_take (i := 11) (v := ?_) (by (simp only [List.getElem?_toArray, List.getElem?_cons_succ, List.getElem?_cons_zero]; rfl)) (by kernel_rfl) (by kernel_rfl) (by kernel_rfl) (by decide) (by exact fun _ _ _ h => h) (.inl (by kernel_rfl)) (Or.inl ⟨by rfl, ?_⟩) ?_
        rotate_left
        · (intro w' _; go_simp <;> with_reducible rfl)
        try simp only [Act.put, List.setIfInBounds_toArray, List.set_cons_zero, List.set_cons_succ]
        refine wpAnyE_ready (rs := [12]) (by kernel_rfl) (by simp) ?_
        refine AllReadyE.last (by (simp only [List.getElem?_toArray, List.getElem?_cons_succ, List.getElem?_cons_zero]; rfl)) (by kernel_rfl) (fun K hK => ?_) AllReadyE.nil
        go_simp
        refine hK.out _ _ ?_
        clear hK K
        try simp only [Act.put, List.setIfInBounds_toArray, List.set_cons_zero, List.set_cons_succ]
        refine wpAnyE_done (by kernel_rfl) ?_ _
        go_upto_region 21 with fail
        have D9 := (HD8.out.store 1 (.slice A5 (M.mem.length + 1) c5)).2 _ _ rfl
        clear HD8 s1 sf hHeld
        generalize w5.setCell ⟨p, 1, none⟩ (.slice A5 (M.mem.length + 1) c5) = Z at D9 ⊢
        have y0 := (D9.box.cell 0).trans (rfl : _ = some (Value.slice (some ⟨gv, 0, none⟩) M.cs.length c1))
        have y1 := (D9.box.cell 1).trans (rfl : _ = some (Value.slice A5 (M.mem.length + 1) c5))
        have z0 := (D9.res.cell 0).trans (rfl : _ = some (Value.slice none 0 0))
        have z1 := (D9.res.cell 1).trans (rfl : _ = some (Value.slice none 0 0))
        have f0 := D9.res.frozen 0
        have f1 := D9.res.frozen 1
        have HD := hide D9
        clear D9
        go_wp2
        refine bodyPost_ret (v := macV (some ⟨gv, 0, none⟩) M.cs.length c1 A5 (M.mem.length + 1) c5) (by simp [results, Try.results60, go_sem, z0, z1]) rfl ?_
        exact HD.out.post (k0 := k) rfl (by simp) ⟨by omega, by omega, by rw [hgd]; omega, hall20⟩ (by simp; omega) (by omega) _ _
      refine AllReadyE.cons (by (simp only [List.getElem?_toArray, List.getElem?_cons_succ, List.getElem?_cons_zero]; rfl)) (fun K hK => ?_) ?_
      · skip
        go_simp
        replace M' := Mid.al2 M' 0 5
        refine hK.out _ _ (MC.out _ _ _ M') (fun hNew => ?_)
        replace hHeld := hNew
        clear hK K hNew
        try simp only [Act.put, List.setIfInBounds_toArray, List.set_cons_zero, List.set_cons_succ]
        refine wpAnyE_ready (rs := [4]) (by kernel_rfl) (by simp) ?_
        refine AllReadyE.cons (by (simp only [List.getElem?_toArray, List.getElem?_cons_succ, List.getElem?_cons_zero]; rfl)) (fun K hK => ?_) AllReadyE.nil
        go_simp
        go_at_call 63
        refine (pick_mid (w0 := w6) (A := A) (c := c) (l := l) _ [0, 999999, 7] ⟨_, _, M', by omega, by simp⟩ (by simp) (by simp)).mono ?_
        rintro e wa ⟨r1, rfl, N⟩
        replace M' := N _ _ M'
        clear N
        refine hK.out _ _ (MC.out _ _ _ M') (fun hNew => ?_)
        replace hHeld := hNew
        clear hK K hNew
        try simp only [Act.put, List.setIfInBounds_toArray, List.set_cons_zero, List.set_cons_succ]
        refine wpAnyE_ready (rs := [7]) (by kernel_rfl) (by simp) ?_
        refine AllReadyE.cons (by (simp only [List.getElem?_toArray, List.getElem?_cons_succ, List.getElem?_cons_zero]; rfl)) (fun K hK => ?_) AllReadyE.nil
        go_simp
        go_at_call 63
        refine (pick_mid (w0 := w6) (A := A) (c := c) (l := l) _ [0, 5] ⟨_, _, M', by omega, by simp⟩ (by simp) (by simp)).mono ?_
        rintro e wa ⟨r2, rfl, N⟩
        replace M' := N _ _ M'
        clear N
        refine hK.out _ _ (MC.out _ _ _ M') (fun hNew => ?_)
        replace hHeld := hNew
        clear hK K hNew
        try simp only [Act.put, List.setIfInBounds_toArray, List.set_cons_zero, List.set_cons_succ]
        refine wpAnyE_take (i := 8) (v := ?_) (by (simp only [List.getElem?_toArray, List.getElem?_cons_succ, List.getElem?_cons_zero]; rfl)) (by kernel_rfl) (by kernel_rfl) (by kernel_rfl) (by decide) (by exact fun _ _ _ h => h) (.inr hHeld) (Or.inl ⟨by rfl, ?_⟩) ?_
        rotate_left
        · (intro w' _; go_simp <;> with_reducible rfl)
        try simp only [Act.put, List.setIfInBounds_toArray, List.set_cons_zero, List.set_cons_succ]
        refine wpAnyE_ready (rs := [9]) (by kernel_rfl) (by simp) ?_
        refine AllReadyE.cons (by (simp only [List.getElem?_toArray, List.getElem?_cons_succ, List.getElem?_cons_zero]; rfl)) (fun K hK => ?_) AllReadyE.nil
        go_simp
        have ME := M'.any (.cells #[.int .i64 r1, .int .i64 r2] 120)
        have D7 := DM.out _ _ _ ME
        have hBl := RdC.one_new wa ⟨r1, r2⟩ 120
        refine hK.out _ _ (MC.out _ _ _ ME) (fun hNew => ?_)
        replace hHeld := hNew
        clear hK K hNew
        try simp only [Act.put, List.setIfInBounds_toArray, List.set_cons_zero, List.set_cons_succ]
        refine wpAnyE_ready (rs := [10]) (by kernel_rfl) (by simp) ?_
        refine AllReadyE.last (by (simp only [List.getElem?_toArray, List.getElem?_cons_succ, List.getElem?_cons_zero]; rfl)) (by kernel_rfl) (fun K hK => ?_) AllReadyE.nil
        refine step_append_rc _ (by rfl) (.tmp 52) (.tmp 60) 25 (by rfl) (w.heap.size + 1) 120 i0 (.agg #[.int .i64 0, .int .i64 0]) 16 Try.underlying25 hi hz0 hz1 hz2 rfl (.slice Ap1 M.mem.length cp1) M.mem.length (cels M.mem) (by rfl) D7.mem (some ⟨wa.heap.size, 0, none⟩) [⟨r1, r2⟩] 1 (wa.heap.size + 1) (by rfl) hBl (by unfold maxLen; simp only [List.length_cons, List.length_nil]; omega) (by simp only [List.length_cons, List.length_nil]; omega) (by have := D7.res.lt; omega) ?_
        intro v5 w5 o5 g5 hat5
        have D8 := D7.grewM (y := ⟨r1, r2⟩) o5 g5
        obtain ⟨A5, c5, hv5⟩ := own_shape o5
        simp only [List.length_cons, List.length_nil] at hv5
        subst hv5
        clear o5 g5 hat5 hBl D7
        have s1 := (D8.box.cell 1).trans (rfl : _ = some (Value.slice Ap1 M.mem.length cp1))
        have sf := D8.box.frozen 1
        have HD8 := hide D8
        clear D8
        refine hK.out _ _ ?_
        clear hK K
        try simp only [Act.put, List.setIfInBounds_toArray, List.set_cons_zero, List.set_cons_succ]
        refine wpAnyE_take (i := 11) (v := ?_) (by (simp only [List.getElem?_toArray, List.getElem?_cons_succ, List.getElem?_cons_zero]; rfl)) (by kernel_rfl) (by kernel_rfl) (by kernel_rfl) (by decide) (by exact fun _ _ _ h => h) (.inl (by kernel_rfl)) (Or.inl ⟨by rfl, ?_⟩) ?_
        rotate_left
        · (intro w' _; go_simp <;> with_reducible rfl)
        try simp only [Act.put, List.setIfInBounds_toArray, List.set_cons_zero, List.set_cons_succ]
        refine wpAnyE_ready (rs := [12]) (by kernel_rfl) (by simp) ?_
        refine AllReadyE.last (by (simp only [List.getElem?_toArray, List.getElem?_cons_succ, List.getElem?_cons_zero]; rfl)) (by kernel_rfl) (fun K hK => ?_) AllReadyE.nil
        go_simp
        refine hK.out _ _ ?_
        clear hK K
        try simp only [Act.put, List.setIfInBounds_toArray, List.set_cons_zero, List.set_cons_succ]
        refine wpAnyE_done (by kernel_rfl) ?_ _
        go_upto_region 21 with fail
        have D9 := (HD8.out.store 1 (.slice A5 (M.mem.length + 1) c5)).2 _ _ rfl
        clear HD8 s1 sf hHeld
        generalize w5.setCell ⟨p, 1, none⟩ (.slice A5 (M.mem.length + 1) c5) = Z at D9 ⊢
        have y0 := (D9.box.cell 0).trans (rfl : _ = some (Value.slice (some ⟨gv, 0, none⟩) M.cs.length c1))
        have y1 := (D9.box.cell 1).trans (rfl : _ = some (Value.slice A5 (M.mem.length + 1) c5))
        have z0 := (D9.res.cell 0).trans (rfl : _ = some (Value.slice none 0 0))
        have z1 := (D9.res.cell 1).trans (rfl : _ = some (Value.slice none 0 0))
        have f0 := D9.res.frozen 0
        have f1 := D9.res.frozen 1
        have HD := hide D9
        clear D9
        go_wp2
        refine bodyPost_ret (v := macV (some ⟨gv, 0, none⟩) M.cs.length c1 A5 (M.mem.length + 1) c5) (by simp [results, Try.results60, go_sem, z0, z1]) rfl ?_
        exact HD.out.post (k0 := k) rfl (by simp) ⟨by omega, by omega, by rw [hgd]; omega, hall20⟩ (by simp; omega) (by omega) _ _
      exact AllReadyE.nil
    refine AllReadyE.cons (by (simp only [List.getElem?_toArray, List.getElem?_cons_succ, List.getElem?_cons_zero]; rfl)) (fun K hK => ?_) ?_
    · skip
      go_simp
      replace M' := Mid.al2 M' 0 5
      refine hK.out _ _ (MC.out _ _ _ M') (fun hNew => ?_)
      replace hHeld := hNew
      clear hK K hNew
      try simp only [Act.put, List.setIfInBounds_toArray, List.set_cons_zero, List.set_cons_succ]
      refine wpAnyE_ready (rs := [3]) (by kernel_rfl) (by simp) ?_
      refine AllReadyE.cons (by (simp only [List.getElem?_toArray, List.getElem?_cons_succ, List.getElem?_cons_zero]; rfl)) (fun K hK => ?_) AllReadyE.nil
      go_simp
      replace M' := Mid.al M' 0 999999 7
      refine hK.out _ _ (MC.out _ _ _ M') (fun hNew => ?_)
      replace hHeld := hNew
      clear hK K hNew
      try simp only [Act.put, List.setIfInBounds_toArray, List.set_cons_zero, List.set_cons_succ]
      refine wpAnyE_ready (rs := [4]) (by kernel_rfl) (by simp) ?_
      refine AllReadyE.cons (by (simp only [List.getElem?_toArray, List.getElem?_cons_succ, List.getElem?_cons_zero]; rfl)) (fun K hK => ?_) AllReadyE.nil
      go_simp
      go_at_call 63
      refine (pick_mid (w0 := w6) (A := A) (c := c) (l := l) _ [0, 999999, 7] ⟨_, _, M', by omega, by simp⟩ (by simp) (by simp)).mono ?_
      rintro e wa ⟨r1, rfl, N⟩
      replace M' := N _ _ M'
      clear N
      refine hK.out _ _ (MC.out _ _ _ M') (fun hNew => ?_)
      replace hHeld := hNew
      clear hK K hNew
      try simp only [Act.put, List.setIfInBounds_toArray, List.set_cons_zero, List.set_cons_succ]
      refine wpAnyE_ready (rs := [7]) (by kernel_rfl) (by simp) ?_
      refine AllReadyE.cons (by (simp only [List.getElem?_toArray, List.getElem?_cons_succ, List.getElem?_cons_zero]; rfl)) (fun K hK => ?_) AllReadyE.nil
      go_simp
      go_at_call 63
      refine (pick_mid (w0 := w6) (A := A) (c := c) (l := l) _ [0, 5] ⟨_, _, M', by omega, by simp⟩ (by simp) (by simp)).mono ?_
      rintro e wa ⟨r2, rfl, N⟩
      replace M' := N _ _ M'
      clear N
      refine hK.out _ _ (MC.out _ _ _ M') (fun hNew => ?_)
      replace hHeld := hNew
      clear hK K hNew
      try simp only [Act.put, List.setIfInBounds_toArray, List.set_cons_zero, List.set_cons_succ]
      refine wpAnyE_take (i := 8) (v := ?_) (by (simp only [List.getElem?_toArray, List.getElem?_cons_succ, List.getElem?_cons_zero]; rfl)) (by kernel_rfl) (by kernel_rfl) (by kernel_rfl) (by decide) (by exact fun _ _ _ h => h) (.inr hHeld) (Or.inl ⟨by rfl, ?_⟩) ?_
      rotate_left
      · (intro w' _; go_simp <;> with_reducible rfl)
      try simp only [Act.put, List.setIfInBounds_toArray, List.set_cons_zero, List.set_cons_succ]
      refine wpAnyE_ready (rs := [9]) (by kernel_rfl) (by simp) ?_
      refine AllReadyE.cons (by (simp only [List.getElem?_toArray, List.getElem?_cons_succ, List.getElem?_cons_zero]; rfl)) (fun K hK => ?_) AllReadyE.nil
      go_simp
      have ME := M'.any (.cells #[.int .i64 r1, .int .i64 r2] 120)
      have D7 := DM.out _ _ _ ME
      have hBl := RdC.one_new wa ⟨r1, r2⟩ 120
      refine hK.out _ _ (MC.out _ _ _ ME) (fun hNew => ?_)
      replace hHeld := hNew
      clear hK K hNew
      try simp only [Act.put, List.setIfInBounds_toArray, List.set_cons_zero, List.set_cons_succ]
      refine wpAnyE_ready (rs := [10]) (by kernel_rfl) (by simp) ?_
      refine AllReadyE.last (by (simp only [List.getElem?_toArray, List.getElem?_cons_succ, List.getElem?_cons_zero]; rfl)) (by kernel_rfl) (fun K hK => ?_) AllReadyE.nil
      refine step_append_rc _ (by rfl) (.tmp 52) (.tmp 60) 25 (by rfl) (w.heap.size + 1) 120 i0 (.agg #[.int .i64 0, .int .i64 0]) 16 Try.underlying25 hi hz0 hz1 hz2 rfl (.slice Ap1 M.mem.length cp1) M.mem.length (cels M.mem) (by rfl) D7.mem (some ⟨wa.heap.size, 0, none⟩) [⟨r1, r2⟩] 1 (wa.heap.size + 1) (by rfl) hBl (by unfold maxLen; simp only [List.length_cons, List.length_nil]; omega) (by simp only [List.length_cons, List.length_nil]; omega) (by have := D7.res.lt; omega) ?_
      intro v5 w5 o5 g5 hat5
      have D8 := D7.grewM (y := ⟨r1, r2⟩) o5 g5
      obtain ⟨A5, c5, hv5⟩ := own_shape o5
      simp only [List.length_cons, List.length_nil] at hv5
      subst hv5
      clear o5 g5 hat5 hBl D7
      have s1 := (D8.box.cell 1).trans (rfl : _ = some (Value.slice Ap1 M.mem.length cp1))
      have sf := D8.box.frozen 1
      have HD8 := hide D8
      clear D8
      refine hK.out _ _ ?_
      clear hK K
      try simp only [Act.put, List.setIfInBounds_toArray, List.set_cons_zero, List.set_cons_succ]
      refine wpAnyE_take (i := 11) (v := ?_) (by (simp only [List.getElem?_toArray, List.getElem?_cons_succ, List.getElem?_cons_zero]; rfl)) (by kernel_rfl) (by kernel_rfl) (by kernel_rfl) (by decide) (by exact fun _ _ _ h => h) (.inl (by kernel_rfl)) (Or.inl ⟨by rfl, ?_⟩) ?_
      rotate_left
      · (intro w' _; go_simp <;> with_reducible rfl)
      try simp only [Act.put, List.setIfInBounds_toArray, List.set_cons_zero, List.set_cons_succ]
      refine wpAnyE_ready (rs := [12]) (by kernel_rfl) (by simp) ?_
      refine AllReadyE.last (by (simp only [List.getElem?_toArray, List.getElem?_cons_succ, List.getElem?_cons_zero]; rfl)) (by kernel_rfl) (fun K hK => ?_) AllReadyE.nil
      go_simp
      refine hK.out _ _ ?_
      clear hK K
      try simp only [Act.put, List.setIfInBounds_toArray, List.set_cons_zero, List.set_cons_succ]
      refine wpAnyE_done (by kernel_rfl) ?_ _
      go_upto_region 21 with fail
      have D9 := (HD8.out.store 1 (.slice A5 (M.mem.length + 1) c5)).2 _ _ rfl
      clear HD8 s1 sf hHeld
      generalize w5.setCell ⟨p, 1, none⟩ (.slice A5 (M.mem.length + 1) c5) = Z at D9 ⊢
      have y0 := (D9.box.cell 0).trans (rfl : _ = some (Value.slice (some ⟨gv, 0, none⟩) M.cs.length c1))
      have y1 := (D9.box.cell 1).trans (rfl : _ = some (Value.slice A5 (M.mem.length + 1) c5))
      have z0 := (D9.res.cell 0).trans (rfl : _ = some (Value.slice none 0 0))
      have z1 := (D9.res.cell 1).trans (rfl : _ = some (Value.slice none 0 0))
      have f0 := D9.res.frozen 0
      have f1 := D9.res.frozen 1
      have HD := hide D9
      clear D9
      go_wp2
      refine bodyPost_ret (v := macV (some ⟨gv, 0, none⟩) M.cs.length c1 A5 (M.mem.length + 1) c5) (by simp [results, Try.results60, go_sem, z0, z1]) rfl ?_
      exact HD.out.post (k0 := k) rfl (by simp) ⟨by omega, by omega, by rw [hgd]; omega, hall20⟩ (by simp; omega) (by omega) _ _
    exact AllReadyE.nil
  by_cases e4 : s = 4
  · subst e4
    clear e0 e1 e2 e3
    have hc : w6.cell? ⟨p, 0, none⟩ = some (.slice (some ⟨gv, 0, none⟩) M.cs.length c1) := (D6.box.cell 0).trans rfl
    have M0 : Mid w6 g A c l (k3 + 1) [] w6 := Mid.start S6
    have mc : ∀ (w' : World) (k' : Nat) (L : List (Nat × List Int)), Mid w6 g A c l k' L w' → w'.cell? ⟨p, 0, none⟩ = some (.slice (some ⟨gv, 0, none⟩) M.cs.length c1) := fun w' k' L M' => M'.gr.cell hc (by simp; have := D6.nums; omega)
    have MC := hide mc
    have dm := fun (w' : World) (k' : Nat) (L : List (Nat × List Int)) (M' : Mid w6 g A c l k' L w') => D6.drawn M'.src M'.gr
    have DM := hide dm
    have hk9 : k3 ≤ 3000 := by omega
    clear mc hc dm D6
    have hc := MC.out _ _ _ M0
    go_wp2_with fail
    have M' := Mid.dr M0
    clear hc M0 S6
    refine wp_region_E 7 (fun w' => w'.cell? ⟨p, 0, none⟩ = some (.slice (some ⟨gv, 0, none⟩) M.cs.length c1)) (by kernel_rfl) (MC.out _ _ _ M') (fun hHeld => ?_)
    try simp only [Act.put, List.setIfInBounds_toArray, List.set_cons_zero, List.set_cons_succ]
    refine wpAnyE_take (i := 0) (v := ?_) (by (simp only [List.getElem?_toArray, List.getElem?_cons_zero]; rfl)) (by kernel_rfl) (by kernel_rfl) (by kernel_rfl) (by decide) (by exact fun _ _ _ h => h) (.inr hHeld) (Or.inl ⟨by rfl, ?_⟩) ?_
    rotate_left
    · (intro w' _; go_simp <;> with_reducible rfl)
    try simp only [Act.put, List.setIfInBounds_toArray, List.set_cons_zero, List.set_cons_succ]
    refine wpAnyE_take (i := 2) (v := ?_) (by (simp only [List.getElem?_toArray, List.getElem?_cons_succ, List.getElem?_cons_zero]; rfl)) (by kernel_rfl) (by kernel_rfl) (by kernel_rfl) (by decide) (by exact fun _ _ _ h => h) (.inr hHeld) (Or.inl ⟨by rfl, ?_⟩) ?_
    rotate_left
    · (intro w' _; go_simp <;> with_reducible rfl)
    try simp only [Act.put, List.setIfInBounds_toArray, List.set_cons_zero, List.set_cons_succ]
    refine wpAnyE_load (i := 1) (v := ?_) (by (simp only [List.getElem?_toArray, List.getElem?_cons_succ, List.getElem?_cons_zero]; rfl)) (by kernel_rfl) (by kernel_rfl) (by kernel_rfl) (by decide) (by exact fun _ _ _ h => h) hHeld (by kernel_rfl) (by kernel_rfl) (Or.inl ⟨by rfl, ?_⟩) ?_
    rotate_left
    · (intro w' hSw; (try dsimp only at hSw); go_simp <;> with_reducible rfl)
    try simp only [Act.put, List.setIfInBounds_toArray, List.set_cons_zero, List.set_cons_succ]
    refine wpAnyE_ready (rs := [3]) (by kernel_rfl) (by simp) ?_
    refine AllReadyE.cons (by (simp only [List.getElem?_toArray, List.getElem?_cons_succ, List.getElem?_cons_zero]; rfl)) (fun K hK => ?_) AllReadyE.nil
    go_simp
    replace M' := Mid.al2 M' 1 2
    refine hK.out _ _ (MC.out _ _ _ M') (fun hNew => ?_)
    replace hHeld := hNew
    clear hK K hNew
    try simp only [Act.put, List.setIfInBounds_toArray, List.set_cons_zero, List.set_cons_succ]
    refine wpAnyE_ready (rs := [4]) (by kernel_rfl) (by simp) ?_
    refine AllReadyE.cons (by (simp only [List.getElem?_toArray, List.getElem?_cons_succ, List.getElem?_cons_zero]; rfl)) (fun K hK => ?_) AllReadyE.nil
    go_simp
    go_at_call 63
    refine (l1Pick_any g (k3 + 1) _ [1, 2] A c l _ _ M'.src (by omega) (by simp) (by simp) (M'.arr _ (List.mem_cons_self ..)).1 (M'.arr _ (List.mem_cons_self ..)).2).mono ?_
    rintro e wa ⟨r, rfl, hr, S7, g7⟩
    have D7 := (DM.out _ _ _ M').drawn S7 g7
    have hcw := g7.cell hHeld (by simp; have := D7.nums; omega)
    obtain ⟨n, rfl⟩ := Int.eq_ofNat_of_zero_le (show 0 ≤ r by have := mem2 hr; omega)
    have hn2 : 1 ≤ n ∧ n ≤ 2 := by have := mem2 hr; omega
    clear g7 hr M'
    refine hK.out _ _ hcw (fun hNew => ?_)
    replace hHeld := hNew
    clear hK K hNew
    try simp only [Act.put, List.setIfInBounds_toArray, List.set_cons_zero, List.set_cons_succ]
    refine wpAnyE_ready (rs := [5]) (by kernel_rfl) (by simp) ?_
    refine AllReadyE.cons (by (simp only [List.getElem?_toArray, List.getElem?_cons_succ, List.getElem?_cons_zero]; rfl)) (fun K hK => ?_) AllReadyE.nil
    refine step_make_full _ (by rfl) (.tmp 69) (.tmp 69) 112 (by rfl) (w.heap.size + 1) 115 j0 (.agg #[.int .i64 0, .int .i64 0, .int .i64 0]) 3 Try.underlying112 hj hy0 hy1 .i64 .i64 _ _ n (by rfl) (by rfl) rfl rfl (by rw [hy2]; omega) (by unfold maxLen; omega) (by have := D7.res.lt; omega) ?_
    intro w3 o3 g3
    rw [made_line] at o3
    have b3 : Below wa.heap.size wa w3 := (Below.refl _ _).grown g3 (Nat.le_refl _) (by simp)
    have o3n := own_new o3
    have hf3 := D7.cs.freshL o3n
    have D8 := D7.below b3
    have hc3 := (D8.box.cell 0).trans (rfl : _ = some (Value.slice (some ⟨gv, 0, none⟩) M.cs.length c1))
    clear g3 D7 hcw
    refine hK.out _ _ hc3 (fun hNew => ?_)
    replace hHeld := hNew
    clear hK K hNew
    try simp only [Act.put, List.setIfInBounds_toArray, List.set_cons_zero, List.set_cons_succ]
    refine wpAnyE_ready (rs := [6]) (by kernel_rfl) (by simp) ?_
    refine AllReadyE.cons (by (simp only [List.getElem?_toArray, List.getElem?_cons_succ, List.getElem?_cons_zero]; rfl)) (fun K hK => ?_) AllReadyE.nil
    go_simp
    have D9 := D8.alloc (Obj.cells #[.slice (some ⟨wa.heap.size, 0, none⟩) n n] 112)
    have o9 := o3.alloc (Obj.cells #[.slice (some ⟨wa.heap.size, 0, none⟩) n n] 112)
    have hc9 := (D9.box.cell 0).trans (rfl : _ = some (Value.slice (some ⟨gv, 0, none⟩) M.cs.length c1))
    clear D8 hc3 o3 o3n
    refine hK.out _ _ hc9 (fun hNew => ?_)
    replace hHeld := hNew
    clear hK K hNew
    try simp only [Act.put, List.setIfInBounds_toArray, List.set_cons_zero, List.set_cons_succ]
    refine wpAnyE_ready (rs := [7]) (by kernel_rfl) (by simp) ?_
    refine AllReadyE.last (by (simp only [List.getElem?_toArray, List.getElem?_cons_succ, List.getElem?_cons_zero]; rfl)) (by kernel_rfl) (fun K hK => ?_) AllReadyE.nil
    have orow := D9.cs.row
    refine step_append_at _ (by rfl) (.tmp 66) (.tmp 71) 24 (by rfl) (w.heap.size + 1) 112 l0 (.slice none 0 0) 1 24 Try.underlying24 hl hx0 hx1 hx2 rfl (by decide) (.slice (some ⟨gv, 0, none⟩) M.cs.length c1) M.cs.length us (by rfl) orow ⟨w3.heap.size, 0, none⟩ 1 1 [.slice (some ⟨wa.heap.size, 0, none⟩) n n] (by rfl) rfl (cells_one1 _ _ _) (by intro u hu; rw [List.mem_singleton] at hu; rw [hu]; rfl) (by unfold maxLen; omega) (by omega) (by have := D9.res.lt; omega) ?_
    intro v5 w5 o5 g5 hat5
    have D10 := D9.grewC (es := List.replicate n lnZ) (by rw [List.length_replicate]; exact o9) hf3 o5 g5 hat5
    obtain ⟨A5, c5, hv5⟩ := own_shape o5
    subst hv5
    clear o5 g5 hat5 o9 D9 orow hf3 b3 hc9
    have s1 := (D10.box.cell 0).trans (rfl : _ = some (Value.slice (some ⟨gv, 0, none⟩) M.cs.length c1))
    have sf := D10.box.frozen 0
    have HD8 := hide D10
    clear D10
    refine hK.out _ _ ?_
    clear hK K
    try simp only [Act.put, List.setIfInBounds_toArray, List.set_cons_zero, List.set_cons_succ]
    refine wpAnyE_take (i := 8) (v := ?_) (by (simp only [List.getElem?_toArray, List.getElem?_cons_succ, List.getElem?_cons_zero]; rfl)) (by kernel_rfl) (by kernel_rfl) (by kernel_rfl) (by decide) (by exact fun _ _ _ h => h) (.inl (by kernel_rfl)) (Or.inl ⟨by rfl, ?_⟩) ?_
    rotate_left
    · (intro w' _; go_simp <;> with_reducible rfl)
    try simp only [Act.put, List.setIfInBounds_toArray, List.set_cons_zero, List.set_cons_succ]
    refine wpAnyE_ready (rs := [9]) (by kernel_rfl) (by simp) ?_
    refine AllReadyE.last (by (simp only [List.getElem?_toArray, List.getElem?_cons_succ, List.getElem?_cons_zero]; rfl)) (by kernel_rfl) (fun K hK => ?_) AllReadyE.nil
    go_simp
    refine hK.out _ _ ?_
    clear hK K
    try simp only [Act.put, List.setIfInBounds_toArray, List.set_cons_zero, List.set_cons_succ]
    refine wpAnyE_done (by kernel_rfl) ?_ _
    go_upto_region 21 with fail
    have D9 := (HD8.out.store 0 (.slice A5 (M.cs.length + 1) c5)).2 _ _ rfl
    clear HD8 s1 sf hHeld
    generalize w5.setCell ⟨p, 0, none⟩ (.slice A5 (M.cs.length + 1) c5) = Z at D9 ⊢
    have y0 := (D9.box.cell 0).trans (rfl : _ = some (Value.slice A5 (M.cs.length + 1) c5))
    have y1 := (D9.box.cell 1).trans (rfl : _ = some (Value.slice Ap1 M.mem.length cp1))
    have z0 := (D9.res.cell 0).trans (rfl : _ = some (Value.slice none 0 0))
    have z1 := (D9.res.cell 1).trans (rfl : _ = some (Value.slice none 0 0))
    have f0 := D9.res.frozen 0
    have f1 := D9.res.frozen 1
    have HD := hide D9
    clear D9
    go_wp2
    refine bodyPost_ret (v := macV A5 (M.cs.length + 1) c5 Ap1 M.mem.length cp1) (by simp [results, Try.results60, go_sem, z0, z1]) rfl ?_
    exact HD.out.post (k0 := k) (by simp) rfl ⟨by simp, by simp; omega, by rw [getD_zero (by simp), List.getElem_append_left h0, HYR.out.2]; omega, fun x hx => by rcases List.mem_append.1 hx with a | a; exact hall20 x a; rw [List.mem_singleton] at a; rw [a, List.length_replicate]; omega⟩ (by omega) (by omega) _ _
  by_cases e5 : s = 5
  · subst e5
    clear e0 e1 e2 e3 e4
    have y1 := (D6.box.cell 1).trans (rfl : _ = some (Value.slice Ap1 M.mem.length cp1))
    have yf := D6.box.frozen 1
    have D7 := ((D6.store 1 (.slice none 0 0)).2 _ _ rfl).noMem
    clear D6 S6
    go_upto_region 16 with fail
    clear y1 yf
    generalize w6.setCell ⟨p, 1, none⟩ (.slice none 0 0) = Y at D7 ⊢
    have S7 := D7.src
    go_wp2_with fail
    refine (l1Pick_any g (k3 + 1) _ [29, 30, 31, 32, 33] A c l _ _ (S7.alloc _) (by omega) (by simp) (by simp) (Bk.new _ _ _) (by have := S7.lt; omega)).mono ?_
    rintro e w7 ⟨r, rfl, hr, S8, g8⟩
    have D8 := (D7.alloc (.cells #[.int .i64 29, .int .i64 30, .int .i64 31, .int .i64 32, .int .i64 33] 2)).drawn S8 g8
    have hr5 := mem5 hr
    obtain ⟨N, rfl⟩ := Int.eq_ofNat_of_zero_le (show 0 ≤ r by omega)
    have hN : N ≤ 33 := by omega
    clear hr hr5 g8 S8 S7 D7
    go_wp2
    go_loopw [6] (fun q wr => ∃ (m : Nat) (mem : List Cel) (A5 : Option Addr) (c5 : Nat), m + mem.length = N ∧ q = .int .i64 m ∧ DrM w g A c l w.heap.size p (k3 + 1 + 1) (.slice (some ⟨gv, 0, none⟩) M.cs.length c1) (.slice A5 mem.length c5) (.slice (some ⟨gv, 0, none⟩) M.cs.length c1) (.slice A5 mem.length c5) M.cs mem us wr) (fun q _ => (intOf q).toNat)
    case atStart => exact ⟨N, [], none, 0, rfl, rfl, D8⟩
    case round =>
      clear D8
      obtain ⟨m, mem, A5, c5, hm, rfl, hd⟩ := hrel
      have HM := hide hm
      have hml : mem.length ≤ 33 := by omega
      have hm33 : m ≤ 33 := by omega
      obtain ⟨n, hnn⟩ : ∃ n, n = mem.length := ⟨_, rfl⟩
      rw [← hnn] at hd hml
      have HN := hide hnn
      clear hm hnn
      by_cases hlt : 0 < m
      · have y1 := (hd.box.cell 1).trans (rfl : _ = some (Value.slice A5 n c5))
        have yf := hd.box.frozen 1
        have D9 := hd.alloc (Obj.cells #[.int .i64 (100 + (n : Int)), .int .i64 3] 120)
        have hBl := RdC.one_new wr ⟨100 + (n : Int), 3⟩ 120
        have hmem := D9.mem
        rw [← HN.out] at hmem
        clear hd
        go_wp2_with (at_builtin; refine wpList_append_rc _ rfl (.tmp 85) (.tmp 91) 25 rfl (w.heap.size + 1) 120 i0 (.agg #[.int .i64 0, .int .i64 0]) 16 Try.underlying25 hi hz0 hz1 hz2 rfl _ _ _ rfl hmem (some ⟨wr.heap.size, 0, none⟩) [⟨100 + (n : Int), 3⟩] 1 (wr.heap.size + 1) rfl hBl (by unfold maxLen; simp only [List.length_cons, List.length_nil]; omega) (by simp only [List.length_cons, List.length_nil]; omega) (by have := D9.res.lt; omega) ?_; intro v5 w5 o5 g5 hat5; have D10 := D9.grewM (y := ⟨100 + (n : Int), 3⟩) (by rw [← HN.out]; exact o5) g5; obtain ⟨A6, c6, hv5⟩ := own_shape o5; simp only [List.length_cons, List.length_nil] at hv5; subst hv5; have s1 := (D10.box.cell 1).trans (rfl : _ = some (Value.slice A5 n c5)); have sf := D10.box.frozen 1; have HD := hide ((D10.store 1 (.slice A6 (n + 1) c6)).2 _ _ rfl); clear o5 g5 hat5 hBl hmem D9 D10 y1 yf)
        go_roundw
        case rel => exact ⟨m - 1, mem ++ [⟨100 + (n : Int), 3⟩], A6, c6, by have := HM.out; simp; omega, by go_num, by rw [List.length_append, ← HN.out]; exact HD.out⟩
        case measure => simp [intOf]; omega
      · have hm32 : mem.length ≤ 33 := by have := HN.out; omega
        rw [HN.out] at hd
        have y0 := (hd.box.cell 0).trans (rfl : _ = some (Value.slice (some ⟨gv, 0, none⟩) M.cs.length c1))
        have yf := hd.box.frozen 0
        have hRw := hd.res.lt
        go_upto_region 21 with (at_make; refine wpList_make_full _ rfl _ _ 112 rfl (w.heap.size + 1) 115 j0 (.agg #[.int .i64 0, .int .i64 0, .int .i64 0]) 3 Try.underlying112 hj hy0 hy1 .i64 .i64 _ _ 2 rfl rfl rfl rfl (by rw [hy2]; omega) (by unfold maxLen; omega) (by omega) ?_; intro w3 o3 g3; have b3 : Below wr.heap.size wr w3 := (Below.refl _ _).grown g3 (Nat.le_refl _) (by simp); have D9 := (hd.below b3).alloc (Obj.cells #[.slice (some ⟨wr.heap.size, 0, none⟩) 2 2] 112); have y2 := (D9.box.cell 0).trans (rfl : _ = some (Value.slice (some ⟨gv, 0, none⟩) M.cs.length c1)); have yf2 := D9.box.frozen 0; have hgw := g3.size; have o9 := o3.alloc (Obj.cells #[.slice (some ⟨wr.heap.size, 0, none⟩) 2 2] 112); clear y0 yf g3)
        rw [made_line] at o9
        have oc : OwnTLine (w3.alloc (Obj.cells #[.slice (some ⟨wr.heap.size, 0, none⟩) 2 2] 112)) (w.heap.size + 1) (.slice (some ⟨w3.heap.size, 0, none⟩) 1 1) [List.replicate 2 lnZ] [.slice (some ⟨wr.heap.size, 0, none⟩) 2 2] := by
          refine ⟨World.ownsRow_lit w3 #[.slice (some ⟨wr.heap.size, 0, none⟩) 2 2] 1 (by have := D9.res.lt; omega) (by unfold maxLen; omega) rfl, fun i hi => ?_, fun i j u u' hij hu hu' => ?_⟩
          · obtain rfl : i = 0 := by simpa using hi
            refine ⟨_, rfl, o9, fun b e => ?_⟩
            have e2 : wr.heap.size = b := Option.some.inj e
            simp only [Value.ownBlock, ne_eq, Option.some.injEq]
            have := (o9.lt wr.heap.size rfl).2
            have h3 := (o3.lt wr.heap.size rfl).2
            omega
          · rcases i with _ | i <;> rcases j with _ | j <;> simp at hu hu' hij
        have D11 := ((D9.newC oc).store 0 (.slice (some ⟨w3.heap.size, 0, none⟩) 1 1)).2 _ _ rfl
        have HD := hide D11
        clear D9 D11 oc o9 o3 hd
        have D12 := HD.out
        clear HD y2 yf2
        generalize (w3.alloc (Obj.cells #[.slice (some ⟨wr.heap.size, 0, none⟩) 2 2] 112)).setCell ⟨p, 0, none⟩ (.slice (some ⟨w3.heap.size, 0, none⟩) 1 1) = Z at D12 ⊢
        have y0 := (D12.box.cell 0).trans (rfl : _ = some (Value.slice (some ⟨w3.heap.size, 0, none⟩) 1 1))
        have y1 := (D12.box.cell 1).trans (rfl : _ = some (Value.slice A5 mem.length c5))
        have z0 := (D12.res.cell 0).trans (rfl : _ = some (Value.slice none 0 0))
        have z1 := (D12.res.cell 1).trans (rfl : _ = some (Value.slice none 0 0))
        have f0 := D12.res.frozen 0
        have f1 := D12.res.frozen 1
        have HD := hide D12
        clear D12
        go_wp2
        refine bodyPost_ret (v := macV (some ⟨w3.heap.size, 0, none⟩) 1 1 A5 mem.length c5) (by simp [results, Try.results60, go_sem, z0, z1]) rfl ?_
        exact HD.out.post (k0 := k) rfl rfl ⟨by simp, by simp, by simp, fun x hx => by rw [List.mem_singleton] at hx; rw [hx]; simp⟩ (by omega) (by omega) _ _
  have b0 : (s == 0) = false := beq_eq_false_iff_ne.2 e0
  have b1 : (s == 1) = false := beq_eq_false_iff_ne.2 e1
  have b2 : (s == 2) = false := beq_eq_false_iff_ne.2 e2
  have b3 : (s == 3) = false := beq_eq_false_iff_ne.2 e3
  have b4 : (s == 4) = false := beq_eq_false_iff_ne.2 e4
  have b5 : (s == 5) = false := beq_eq_false_iff_ne.2 e5
  clear e0 e1 e2 e3 e4 e5
  go_upto_region 21 with fail
  have y0 := (D6.box.cell 0).trans (rfl : _ = some (Value.slice (some ⟨gv, 0, none⟩) M.cs.length c1))
  have y1 := (D6.box.cell 1).trans (rfl : _ = some (Value.slice Ap1 M.mem.length cp1))
  have z0 := (D6.res.cell 0).trans (rfl : _ = some (Value.slice none 0 0))
  have z1 := (D6.res.cell 1).trans (rfl : _ = some (Value.slice none 0 0))
  have f0 := D6.res.frozen 0
  have f1 := D6.res.frozen 1
  have HD := hide D6
  clear D6
  go_wp2
  refine bodyPost_ret (v := macV (some ⟨gv, 0, none⟩) M.cs.length c1 Ap1 M.mem.length cp1) (by simp [results, Try.results60, go_sem, z0, z1]) rfl ?_
  exact HD.out.post (k0 := k) rfl rfl ⟨by omega, by omega, by rw [hgd]; omega, hall20⟩ (by omega) (by omega) _ _
end Go.Proofs.Ytifijhfeeammkaa
