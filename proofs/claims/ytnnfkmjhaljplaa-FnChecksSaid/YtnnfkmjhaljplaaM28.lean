/- What the laws' walks rest upon, part 28. -/
import Derived.Test.YtnnfkmjhaljplaaM27
import Derived.Test.YtnnfkmjhaljplaaM22
import Derived.Test.YtnnfkmjhaljplaaM14
import Derived.Test.YtnnfkmjhaljplaaM07
import Derived.Test.YtnnfkmjhaljplaaM04
namespace Go.Proofs.Ytnnfkmjhaljplaa
open Go.RowKit
set_option maxRecDepth 100000 in
set_option maxHeartbeats 8000000 in
theorem ldOk : LdOk := by
 intro g k A c l w hS hk
 have hgl := hS.lt
 obtain ⟨i0, hi, hz0, hz1, hz2⟩ := info_parts info_wid
 go_enter Try.func34, Try.ntmps34
 go_wp2_with fail
 refine (l7Programs_any g k A c l _ hS (by omega)).mono ?_
 rintro e w1 ⟨p, pu, Dp, dp, rfl, hp1, hp4, hall, oP, k1, hk1, S1, g1⟩
 have hpg := hide (pgF_draw ⟨hp1, hp4⟩ hall)
 clear hall
 go_wp2_with fail
 refine (l1Pick_any g k1 _ [1, 2, 4] A c l _ _ (S1.alloc _) (by omega) (by simp) (by simp) (Bk.new _ _ _) (by have := S1.lt; omega)).mono ?_
 rintro e w2 ⟨x, rfl, hx, S2, g2⟩
 have g12 := grown_alloc g2
 have oP2 := oP.kept g12 (fun b e => by cases e; exact hgl)
 have G2 := g1.trans g12
 obtain ⟨Ln, rfl⟩ := Int.eq_ofNat_of_zero_le (show 0 ≤ x by have := mem3p hx; omega)
 have hLn : 1 ≤ Ln ∧ Ln ≤ 4 := by have := mem3p hx; omega
 clear g2 g12 g1 S1 hx oP
 go_wp2_with fail
 refine (l6Picks_any g _ A c l _ S2 (by omega)).mono ?_
 rintro e w3 ⟨ps, Dk, dk, rfl, hps, hpI, oK, k3, hk3, S3, g3⟩
 have oP3 := oP2.kept g3 (fun b e => by cases e; exact hgl)
 have G3 := G2.trans g3
 have RF := run_few hpg.out Ln hLn ps
 have RN := l7Run_any p Ln ps Dp Dk dp dk w3 hpg.out hLn (by omega) oP3.rd (Rd.of_own (k := .i64) oK)
 unfold RunPost at RN
 obtain ⟨S, M, hSM⟩ : ∃ S M, runL (newM p.length Ln) (logO p (ordF p ps)) = (S, M) := ⟨_, _, rfl⟩
 rw [hSM] at RN RF
 dsimp only at RN RF
 have HRN := hide RN
 clear hSM g3 G2 S2 hpI oP2 oP3 oK RN
 go_wp2_with fail
 refine HRN.out.mono ?_
 rintro e w4 ⟨BB, cb, A1, c1, Ap1, cp1, us1, rfl, oL, _, b4⟩
 obtain ⟨W4, hW4⟩ : ∃ W, W = w4.alloc (Obj.cells #[Value.slice A1 M.cs.length c1, Value.slice Ap1 M.mem.length cp1] 120) := ⟨_, rfl⟩
 have S4 : Src W4 g A c l k3 := by rw [hW4]; exact (S3.below b4 S3.lt).alloc _
 have G4 : w.grownBy W4 (some g) := by rw [hW4]; exact (grown_row (row := none) G3 ⟨b4.os, b4.tape, b4.output, b4.size, fun k hk _ => b4.block k hk⟩ (fun b e => by cases e)).trans (World.grownBy_alloc _ _ _)
 have rL : RdP W4 W4.heap.size BB S := by rw [hW4]; exact ((RdP.of_own oL).below ((Below.refl _ _).alloc (Nat.le_refl _) _)).lt
 have HW4 := hide hW4
 clear hW4
 obtain ⟨hS32, hSG⟩ := RF
 clear HRN S3 G3 b4 oL
 have SPL := hide (l6Split_any S 4 BB cb W4 hS32 (by omega) (by omega) hSG rL)
 go_wp2_with fail
 rw [← HW4.out]
 refine SPL.out.mono ?_
 rintro e w5 ⟨gt, us, rfl, sp⟩
 have b5 := sp.old
 have S5 := S4.below b5 S4.lt
 have G5 := grown_row (row := none) G4 ⟨b5.os, b5.tape, b5.output, b5.size, fun k hk _ => b5.block k hk⟩ (fun b e => by cases e)
 have oT := sp.own.mono (b' := w.heap.size) (by have := G4.size; omega)
 have ORD := hide (l8Orders_any S 4 BB cb w5 hS32 (by omega) (fun s hs => by have := hSG s hs; omega) (rL.below b5).lt)
 have HF := hide (ordW_few hS32)
 have HT := hide (spT_few hS32)
 clear SPL S4 G4 sp b5 rL hSG
 go_wp2_with fail
 refine ORD.out.mono ?_
 rintro e w6 ⟨v, uw, rfl, oW, b6⟩
 have S6 := S5.below b6 S5.lt
 have G6 := grown_row (row := none) G5 ⟨b6.os, b6.tape, b6.output, b6.size, fun k hk _ => b6.block k hk⟩ (fun b e => by cases e)
 obtain ⟨t, ht⟩ : ∃ t, t = spT 4 S := ⟨_, rfl⟩
 obtain ⟨os, hos⟩ : ∃ os, os = ordW S := ⟨_, rfl⟩
 have t4 : t.length = 4 := by rw [ht, spT_length]
 rw [← ht] at oT HT
 rw [← hos] at oW HF
 have s6 : LdS w g A c l gt v t us os uw k3 w6 := ⟨oT.below b6, t4, oW.mono (by have := G5.size; omega), S6, G6, hgl⟩
 obtain ⟨hos32, hids⟩ := HF.out
 have HI := hide hids
 have hk3' : k3 ≤ k + 160 := by omega
 clear ORD HF ht hos S5 G5 S6 G6 oT oW b6 hids hk3 hk1
 go_wp2_with fail
 refine (l1Next_any g k3 4 A c l _ s6.src (by omega) (by omega) (by omega)).mono ?_
 rintro e w7 ⟨r, rfl, hr0, hr1, S7, g7⟩
 have s7 := s6.went S7 g7
 obtain ⟨i, rfl⟩ := Int.eq_ofNat_of_zero_le hr0
 have hi4 : i < 4 := by omega
 have hi4z : (i : Int) < 4 := by omega
 have hit : i < t.length := by omega
 obtain ⟨aI, eI, hui, hrI, hcI⟩ := s7.core hi4 hit
 obtain ⟨L, hL⟩ : ∃ L, L = t[i] := ⟨_, rfl⟩
 have hL32 : L.length ≤ 32 := by rw [hL]; exact HT.out _ (List.getElem_mem hit)
 have HLI := hide hL
 rw [← hL] at hui hrI hcI
 obtain ⟨E0, cE, hv⟩ := own_shape s7.oW.row
 subst hv
 clear s6 S7 g7 hr0 hr1 hL
 go_wp2_with fail
 refine (l1Next_any g (k3 + 1) 10 A c l _ s7.src (by omega) (by omega) (by omega)).mono ?_
 rintro e w8 ⟨q, rfl, hq0, hq1, S8, g8⟩
 have s8 := s7.went S8 g8
 have hc8 := s8.cell hui
 clear s7 S8 g8 hcI hrI hq1
 by_cases e0 : q = 0
 ·subst e0
  by_cases hL0 : 0 < L.length
  ·obtain ⟨gu, rfl⟩ : ∃ gu, aI = some ⟨gu, 0, none⟩ := by
    rcases (s8.ev hui (fun _ => HLI.out.symm)).2 with ⟨h', h''⟩ | ⟨g, cap, cur, h', _⟩
    ·omega
    ·simp only [Value.slice.injEq, true_and] at h'
     exact ⟨g, h'.1⟩
   go_upto_region 10 with fail
   have MC : ∀ j Z w', Mid w8 g A c l j Z w' → w'.cell? ⟨gt, i, none⟩ = some (.slice (some ⟨gu, 0, none⟩) L.length eI) := fun j Z w' M => (s8.went M.src M.gr).cell hui
   have SM : ∀ j Z w', Mid w8 g A c l j Z w' → LdS w g A c l gt (.slice E0 os.length cE) t us os uw j w' := fun j Z w' M => s8.went M.src M.gr
   have HC := hide MC
   have HM := hide SM
   have M := Mid.dr (Mid.start s8.src)
   have hLn : (0 : Int) ≤ L.length ∧ (L.length : Int) ≤ 1000000 := by omega
   clear MC SM s8 hc8
   refine wp_region_F 12 (fun w' => w'.cell? ⟨gt, i, none⟩ = some (.slice (some ⟨gu, 0, none⟩) L.length eI)) (fun w' => True) (by kernel_rfl) ⟨(HC.out _ _ _ M), trivial⟩ (fun hHeld => ?_)
   try simp only [Act.put, List.setIfInBounds_toArray, List.set_cons_zero, List.set_cons_succ]
   refine wpAnyF_take (i := 0) (v := ?_) (by (simp only [List.getElem?_toArray, List.getElem?_cons_zero]; rfl)) (by kernel_rfl) (by kernel_rfl) (by kernel_rfl) (by decide) (by exact fun _ _ _ h => h) ⟨hHeld.1, .inr hHeld.2⟩ (Or.inl ⟨by rfl, ?_⟩) ?_
   rotate_left
   ·(intro w' _; go_simp <;> with_reducible rfl)
   try simp only [Act.put, List.setIfInBounds_toArray, List.set_cons_zero, List.set_cons_succ]
   refine wpAnyF_take (i := 1) (v := ?_) (by (simp only [List.getElem?_toArray, List.getElem?_cons_succ, List.getElem?_cons_zero]; rfl)) (by kernel_rfl) (by kernel_rfl) (by kernel_rfl) (by decide) (by exact fun _ _ _ h => h) ⟨hHeld.1, .inr hHeld.2⟩ (Or.inl ⟨by rfl, ?_⟩) ?_
   rotate_left
   ·(intro w' _; go_simp <;> with_reducible rfl)
   try simp only [Act.put, List.setIfInBounds_toArray, List.set_cons_zero, List.set_cons_succ]
   refine wpAnyF_take (i := 2) (v := ?_) (by (simp only [List.getElem?_toArray, List.getElem?_cons_succ, List.getElem?_cons_zero]; rfl)) (by kernel_rfl) (by kernel_rfl) (by kernel_rfl) (by decide) (by exact fun _ _ _ h => h) ⟨hHeld.1, .inr hHeld.2⟩ (Or.inl ⟨by rfl, ?_⟩) ?_
   rotate_left
   ·(intro w' _; go_simp <;> with_reducible rfl)
   try simp only [Act.put, List.setIfInBounds_toArray, List.set_cons_zero, List.set_cons_succ]
   refine wpAnyF_keep (i := 3) (v := ?_) (by (simp only [List.getElem?_toArray, List.getElem?_cons_succ, List.getElem?_cons_zero]; rfl)) (by kernel_rfl) (by kernel_rfl) (by kernel_rfl) (by decide) (by exact fun _ _ _ h => h) ⟨hHeld.1, .inr hHeld.2⟩ (Or.inl ⟨by rfl, ?_⟩) ?_
   rotate_left
   ·(intro w' hSw; (try dsimp only at hSw); obtain hSa0 := hSw; go_simp <;> with_reducible rfl)
   try simp only [Act.put, List.setIfInBounds_toArray, List.set_cons_zero, List.set_cons_succ]
   refine wpAnyF_take (i := 4) (v := ?_) (by (simp only [List.getElem?_toArray, List.getElem?_cons_succ, List.getElem?_cons_zero]; rfl)) (by kernel_rfl) (by kernel_rfl) (by kernel_rfl) (by decide) (by exact fun _ _ _ h => h) ⟨hHeld.1, .inr hHeld.2⟩ (Or.inl ⟨by rfl, ?_⟩) ?_
   rotate_left
   ·(intro w' _; go_simp <;> with_reducible rfl)
   try simp only [Act.put, List.setIfInBounds_toArray, List.set_cons_zero, List.set_cons_succ]
   refine wpAnyF_take (i := 5) (v := ?_) (by (simp only [List.getElem?_toArray, List.getElem?_cons_succ, List.getElem?_cons_zero]; rfl)) (by kernel_rfl) (by kernel_rfl) (by kernel_rfl) (by decide) (by exact fun _ _ _ h => h) ⟨hHeld.1, .inr hHeld.2⟩ (Or.inl ⟨by rfl, ?_⟩) ?_
   rotate_left
   ·(intro w' _; go_simp <;> with_reducible rfl)
   try simp only [Act.put, List.setIfInBounds_toArray, List.set_cons_zero, List.set_cons_succ]
   refine wpAnyF_take (i := 7) (v := ?_) (by (simp only [List.getElem?_toArray, List.getElem?_cons_succ, List.getElem?_cons_zero]; rfl)) (by kernel_rfl) (by kernel_rfl) (by kernel_rfl) (by decide) (by exact fun _ _ _ h => h) ⟨hHeld.1, .inr hHeld.2⟩ (Or.inl ⟨by rfl, ?_⟩) ?_
   rotate_left
   ·(intro w' _; go_simp <;> with_reducible rfl)
   try simp only [Act.put, List.setIfInBounds_toArray, List.set_cons_zero, List.set_cons_succ]
   refine wpAnyF_ready (rs := [6, 8]) (by kernel_rfl) (by simp) ?_
   refine AllReadyF.cons (by (simp only [List.getElem?_toArray, List.getElem?_cons_succ, List.getElem?_cons_zero]; rfl)) (fun K hK => ?_) ?_
   ·skip
    go_simp
    go_at_call 49
    refine (next_mid (w0 := w8) (A := A) (c := c) (l := l) (L.length : Int) ⟨_, _, M, by omega⟩ hLn.1 hLn.2).mono ?_
    rintro e wn ⟨rn, rfl, rn0, rn1, N⟩
    obtain ⟨n, rfl⟩ := Int.eq_ofNat_of_zero_le rn0
    have hnL : n < L.length := by omega
    replace M := N _ _ M
    clear N rn1
    refine hK.out _ _ ⟨HC.out _ _ _ M, trivial⟩ (fun hNew => ?_)
    clear hK K hHeld
    have hHeld := hNew
    clear hNew
    try simp only [Act.put, List.setIfInBounds_toArray, List.set_cons_zero, List.set_cons_succ]
    refine wpAnyF_ready (rs := [8]) (by kernel_rfl) (by simp) ?_
    refine AllReadyF.cons (by (simp only [List.getElem?_toArray, List.getElem?_cons_succ, List.getElem?_cons_zero]; rfl)) (fun K hK => ?_) AllReadyF.nil
    go_simp
    replace M := alL M [0, 1, 2, 3]
    refine hK.out _ _ ⟨HC.out _ _ _ M, trivial⟩ (fun hNew => ?_)
    clear hK K hHeld
    have hHeld := hNew
    clear hNew
    try simp only [Act.put, List.setIfInBounds_toArray, List.set_cons_zero, List.set_cons_succ]
    refine wpAnyF_ready (rs := [9]) (by kernel_rfl) (by simp) ?_
    refine AllReadyF.cons (by (simp only [List.getElem?_toArray, List.getElem?_cons_succ, List.getElem?_cons_zero]; rfl)) (fun K hK => ?_) AllReadyF.nil
    go_simp
    go_at_call 50
    refine (pick_mid (w0 := w8) (A := A) (c := c) (l := l) _ [0, 1, 2, 3] ⟨_, _, M, by omega, by simp⟩ (by simp) (by simp)).mono ?_
    rintro e wp ⟨x, rfl, N⟩
    replace M := N _ _ M
    clear N
    refine hK.out _ _ ⟨HC.out _ _ _ M, trivial⟩ (fun hNew => ?_)
    clear hK K hHeld
    have hHeld := hNew
    clear hNew
    try simp only [Act.put, List.setIfInBounds_toArray, List.set_cons_zero, List.set_cons_succ]
    refine wpAnyF_take (i := 10) (v := ?_) (by (simp only [List.getElem?_toArray, List.getElem?_cons_succ, List.getElem?_cons_zero]; rfl)) (by kernel_rfl) (by kernel_rfl) (by kernel_rfl) (by decide) (by exact fun _ _ _ h => h) ⟨hHeld.1, .inr hHeld.2⟩ (Or.inl ⟨by rfl, ?_⟩) ?_
    rotate_left
    ·(intro w' _; go_simp <;> with_reducible rfl)
    try simp only [Act.put, List.setIfInBounds_toArray, List.set_cons_zero, List.set_cons_succ]
    refine wpAnyF_take (i := 11) (v := ?_) (by (simp only [List.getElem?_toArray, List.getElem?_cons_succ, List.getElem?_cons_zero]; rfl)) (by kernel_rfl) (by kernel_rfl) (by kernel_rfl) (by decide) (by exact fun _ _ _ h => h) ⟨hHeld.1, .inr hHeld.2⟩ (Or.inl ⟨by rfl, ?_⟩) ?_
    rotate_left
    ·(intro w' _; go_simp <;> with_reducible rfl)
    try simp only [Act.put, List.setIfInBounds_toArray, List.set_cons_zero, List.set_cons_succ]
    have sz := HM.out _ _ _ M
    have hrz := sz.ev hui (fun _ => HLI.out.symm)
    have hfz := hrz.frozenAt (n * 3 + 2)
    have hcz : wp.cell? ⟨gu, n * 3 + 2, none⟩ = some (.int .i64 L[n].v) := by rw [hrz.cellAt (n * 3 + 2) (by omega)]; exact (evs_get L n hnL).2.2
    have hzz := hrz.lt gu rfl
    have hst := hrz.stored (n * 3 + 2) (.int .i64 x)
    rw [evs_set_v L n hnL] at hst
    have sf := sz.row hui (es' := L.set n ⟨L[n].k, L[n].a, x⟩) hst.2 (by rw [List.length_set]; exact hst.1)
    refine wpAnyF_ready (rs := [12]) (by kernel_rfl) (by simp) ?_
    refine AllReadyF.last (by (simp only [List.getElem?_toArray, List.getElem?_cons_succ, List.getElem?_cons_zero]; rfl)) (by kernel_rfl) (fun K hK => ?_) AllReadyF.nil
    go_simp
    refine hK.out _ _ (sf.cell hui) ?_
    clear hK K
    try simp only [Act.put, List.setIfInBounds_toArray, List.set_cons_zero, List.set_cons_succ]
    refine wpAnyF_done (by kernel_rfl) ?_ _
    go_wp2
    refine bodyPost_ret (v := .tuple #[.slice (some ⟨gt, 0, none⟩) 4 4, .slice E0 os.length cE]) (by simp [results, Try.results34, go_sem]) rfl ?_
    exact sf.tell rfl (by omega) (set_few (fun x hx => by have := HT.out x hx; omega) (by rw [List.length_set]; omega)) (by omega) (fun x hx => by have := (HI.out x hx).2; omega)
   refine AllReadyF.cons (by (simp only [List.getElem?_toArray, List.getElem?_cons_succ, List.getElem?_cons_zero]; rfl)) (fun K hK => ?_) ?_
   ·skip
    go_simp
    replace M := alL M [0, 1, 2, 3]
    refine hK.out _ _ ⟨HC.out _ _ _ M, trivial⟩ (fun hNew => ?_)
    clear hK K hHeld
    have hHeld := hNew
    clear hNew
    try simp only [Act.put, List.setIfInBounds_toArray, List.set_cons_zero, List.set_cons_succ]
    refine wpAnyF_ready (rs := [6]) (by kernel_rfl) (by simp) ?_
    refine AllReadyF.cons (by (simp only [List.getElem?_toArray, List.getElem?_cons_succ, List.getElem?_cons_zero]; rfl)) (fun K hK => ?_) AllReadyF.nil
    go_simp
    go_at_call 49
    refine (next_mid (w0 := w8) (A := A) (c := c) (l := l) (L.length : Int) ⟨_, _, M, by omega⟩ hLn.1 hLn.2).mono ?_
    rintro e wn ⟨rn, rfl, rn0, rn1, N⟩
    obtain ⟨n, rfl⟩ := Int.eq_ofNat_of_zero_le rn0
    have hnL : n < L.length := by omega
    replace M := N _ _ M
    clear N rn1
    refine hK.out _ _ ⟨HC.out _ _ _ M, trivial⟩ (fun hNew => ?_)
    clear hK K hHeld
    have hHeld := hNew
    clear hNew
    try simp only [Act.put, List.setIfInBounds_toArray, List.set_cons_zero, List.set_cons_succ]
    refine wpAnyF_ready (rs := [9]) (by kernel_rfl) (by simp) ?_
    refine AllReadyF.cons (by (simp only [List.getElem?_toArray, List.getElem?_cons_succ, List.getElem?_cons_zero]; rfl)) (fun K hK => ?_) AllReadyF.nil
    go_simp
    go_at_call 50
    refine (pick_mid (w0 := w8) (A := A) (c := c) (l := l) _ [0, 1, 2, 3] ⟨_, _, M, by omega, by simp⟩ (by simp) (by simp)).mono ?_
    rintro e wp ⟨x, rfl, N⟩
    replace M := N _ _ M
    clear N
    refine hK.out _ _ ⟨HC.out _ _ _ M, trivial⟩ (fun hNew => ?_)
    clear hK K hHeld
    have hHeld := hNew
    clear hNew
    try simp only [Act.put, List.setIfInBounds_toArray, List.set_cons_zero, List.set_cons_succ]
    refine wpAnyF_take (i := 10) (v := ?_) (by (simp only [List.getElem?_toArray, List.getElem?_cons_succ, List.getElem?_cons_zero]; rfl)) (by kernel_rfl) (by kernel_rfl) (by kernel_rfl) (by decide) (by exact fun _ _ _ h => h) ⟨hHeld.1, .inr hHeld.2⟩ (Or.inl ⟨by rfl, ?_⟩) ?_
    rotate_left
    ·(intro w' _; go_simp <;> with_reducible rfl)
    try simp only [Act.put, List.setIfInBounds_toArray, List.set_cons_zero, List.set_cons_succ]
    refine wpAnyF_take (i := 11) (v := ?_) (by (simp only [List.getElem?_toArray, List.getElem?_cons_succ, List.getElem?_cons_zero]; rfl)) (by kernel_rfl) (by kernel_rfl) (by kernel_rfl) (by decide) (by exact fun _ _ _ h => h) ⟨hHeld.1, .inr hHeld.2⟩ (Or.inl ⟨by rfl, ?_⟩) ?_
    rotate_left
    ·(intro w' _; go_simp <;> with_reducible rfl)
    try simp only [Act.put, List.setIfInBounds_toArray, List.set_cons_zero, List.set_cons_succ]
    have sz := HM.out _ _ _ M
    have hrz := sz.ev hui (fun _ => HLI.out.symm)
    have hfz := hrz.frozenAt (n * 3 + 2)
    have hcz : wp.cell? ⟨gu, n * 3 + 2, none⟩ = some (.int .i64 L[n].v) := by rw [hrz.cellAt (n * 3 + 2) (by omega)]; exact (evs_get L n hnL).2.2
    have hzz := hrz.lt gu rfl
    have hst := hrz.stored (n * 3 + 2) (.int .i64 x)
    rw [evs_set_v L n hnL] at hst
    have sf := sz.row hui (es' := L.set n ⟨L[n].k, L[n].a, x⟩) hst.2 (by rw [List.length_set]; exact hst.1)
    refine wpAnyF_ready (rs := [12]) (by kernel_rfl) (by simp) ?_
    refine AllReadyF.last (by (simp only [List.getElem?_toArray, List.getElem?_cons_succ, List.getElem?_cons_zero]; rfl)) (by kernel_rfl) (fun K hK => ?_) AllReadyF.nil
    go_simp
    refine hK.out _ _ (sf.cell hui) ?_
    clear hK K
    try simp only [Act.put, List.setIfInBounds_toArray, List.set_cons_zero, List.set_cons_succ]
    refine wpAnyF_done (by kernel_rfl) ?_ _
    go_wp2
    refine bodyPost_ret (v := .tuple #[.slice (some ⟨gt, 0, none⟩) 4 4, .slice E0 os.length cE]) (by simp [results, Try.results34, go_sem]) rfl ?_
    exact sf.tell rfl (by omega) (set_few (fun x hx => by have := HT.out x hx; omega) (by rw [List.length_set]; omega)) (by omega) (fun x hx => by have := (HI.out x hx).2; omega)
   exact AllReadyF.nil
  ·skip
   go_wp2
   refine bodyPost_ret (v := .tuple #[.slice (some ⟨gt, 0, none⟩) 4 4, .slice E0 os.length cE]) (by simp [results, Try.results34, go_sem]) rfl ?_
   exact s8.tell rfl (by omega) (fun x hx => by have := HT.out x hx; omega) (by omega) (fun x hx => by have := (HI.out x hx).2; omega)
 by_cases e1 : q = 1
 ·subst e1
  by_cases hn0 : 0 < os.length
  ·skip
   go_wp2_with fail
   refine (l1Next_any g (k3 + 1 + 1) os.length A c l _ s8.src (by omega) (by omega) (by omega)).mono ?_
   rintro e w9 ⟨z, rfl, hz0', hz1', S9, g9⟩
   have s9 := s8.went S9 g9
   obtain ⟨j, rfl⟩ := Int.eq_ofNat_of_zero_le hz0'
   have hj : j < os.length := by omega
   obtain ⟨gv, nv, ev, ak, ck, hv, hwj, hrw, hcw⟩ := s9.list hj
   obtain ⟨hE0, hnv, hev⟩ : E0 = some ⟨gv, 0, none⟩ ∧ nv = os.length ∧ ev = cE := by simp only [Value.slice.injEq] at hv; exact ⟨hv.1, hv.2.1.symm, hv.2.2.symm⟩
   subst hE0 hnv hev
   obtain ⟨Ls, hLs⟩ : ∃ Ls, Ls = os[j].ids := ⟨_, rfl⟩
   have hids := HI.out _ (List.getElem_mem hj)
   rw [← hLs] at hwj hrw hcw hids
   have HLS := hide hLs
   have hl0 : 0 < Ls.length := List.length_pos_iff.2 hids.1
   have hl32 := hids.2
   obtain ⟨gi, rfl⟩ : ∃ gi, ak = some ⟨gi, 0, none⟩ := by
    rcases hrw.2 with ⟨h', h''⟩ | ⟨g, cap, cur, h', _⟩
    ·omega
    ·simp only [Value.slice.injEq, true_and] at h'
     exact ⟨g, h'.1⟩
   have hx0 : w9.cell? ⟨gi, 0, none⟩ = some (.int .i64 Ls[0].c) := by rw [hrw.cellAt 0 (by omega)]; exact wid_at0 hl0
   have hx1 : w9.cell? ⟨gi, 1, none⟩ = some (.int .i64 Ls[0].i) := by rw [hrw.cellAt 1 (by omega)]; exact wid_at1 hl0
   have HCUT := fun W => run_cutI gi Ls.length 1 ck 1 W rfl (by omega)
   clear hLs hids hv S9 g9 s8 hc8 hz0' hz1'
   go_upto_region 14 with fail
   have hc9 : w9.drew.cell? ⟨gv, j * 2 + 1, none⟩ = some (.slice (some ⟨gi, 0, none⟩) Ls.length ck) := hcw
   have hx0d : w9.drew.cell? ⟨gi, 0, none⟩ = some (.int .i64 Ls[0].c) := hx0
   have hx1d : w9.drew.cell? ⟨gi, 1, none⟩ = some (.int .i64 Ls[0].i) := hx1
   have sd := s9.drew
   have hfz9 := sd.oW.row.frozenAt (j * 2 + 1)
   have hrd : RdC w9.drew w9.drew.heap.size (some ⟨gi, 0, none⟩) (wids Ls) := RdC.of_own hrw
   have hrt := rdc_tail hrd hl0 (own_capC hrw)
   obtain ⟨T, hT'⟩ : ∃ T, T = Ls.tail := ⟨_, rfl⟩
   have HTl := hide (show T.length = Ls.length - 1 by rw [hT', List.length_tail])
   rw [← hT'] at hrt
   clear hT'
   have hgvz := (sd.oW.row.lt gv rfl).2
   have hbw := sd.oW.bound
   have hww := sd.gr.size
   obtain ⟨Z, hZ⟩ : ∃ Z, Z = w9.drew := ⟨_, rfl⟩
   rw [← hZ] at hc9 hx0d hx1d sd hfz9 hrt hgvz hbw hww
   clear hcw hx0 hx1 hrw s9 hrd
   have a14 : ∀ w', Below Z.heap.size Z w' → w'.cell? ⟨gv, j * 2 + 1, none⟩ = some (.slice (some ⟨gi, 0, none⟩) Ls.length ck) ∧ w'.cell? ⟨gi, 0, none⟩ = some (.int .i64 Ls[0].c) ∧ w'.cell? ⟨gi, 1, none⟩ = some (.int .i64 Ls[0].i) ∧ Below Z.heap.size Z w' := fun w' b => ⟨cell_kept b hc9, cell_kept b hx0d, cell_kept b hx1d, b⟩
   refine wp_region_F 18 (fun w' => True) (fun w' => w'.cell? ⟨gv, j * 2 + 1, none⟩ = some (.slice (some ⟨gi, 0, none⟩) Ls.length ck) ∧ w'.cell? ⟨gi, 0, none⟩ = some (.int .i64 Ls[0].c) ∧ w'.cell? ⟨gi, 1, none⟩ = some (.int .i64 Ls[0].i) ∧ Below Z.heap.size Z w') (by kernel_rfl) ⟨trivial, (by rw [← hZ]; exact a14 _ (Below.refl _ _))⟩ (fun hHeld => ?_)
   try simp only [Act.put, List.setIfInBounds_toArray, List.set_cons_zero, List.set_cons_succ]
   rw [← hZ] at hHeld ⊢
   clear hZ
   refine wpAnyF_take (i := 0) (v := ?_) (by (simp only [List.getElem?_toArray, List.getElem?_cons_zero]; rfl)) (by kernel_rfl) (by kernel_rfl) (by kernel_rfl) (by decide) (by exact fun _ _ _ h => h) ⟨hHeld.1, .inr hHeld.2⟩ (Or.inl ⟨by rfl, ?_⟩) ?_
   rotate_left
   ·(intro w' _; go_simp <;> with_reducible rfl)
   try simp only [Act.put, List.setIfInBounds_toArray, List.set_cons_zero, List.set_cons_succ]
   refine wpAnyF_take (i := 2) (v := ?_) (by (simp only [List.getElem?_toArray, List.getElem?_cons_succ, List.getElem?_cons_zero]; rfl)) (by kernel_rfl) (by kernel_rfl) (by kernel_rfl) (by decide) (by exact fun _ _ _ h => h) ⟨hHeld.1, .inr hHeld.2⟩ (Or.inl ⟨by rfl, ?_⟩) ?_
   rotate_left
   ·(intro w' _; go_simp <;> with_reducible rfl)
   try simp only [Act.put, List.setIfInBounds_toArray, List.set_cons_zero, List.set_cons_succ]
   refine wpAnyF_take (i := 3) (v := ?_) (by (simp only [List.getElem?_toArray, List.getElem?_cons_succ, List.getElem?_cons_zero]; rfl)) (by kernel_rfl) (by kernel_rfl) (by kernel_rfl) (by decide) (by exact fun _ _ _ h => h) ⟨hHeld.1, .inr hHeld.2⟩ (Or.inl ⟨by rfl, ?_⟩) ?_
   rotate_left
   ·(intro w' _; go_simp <;> with_reducible rfl)
   try simp only [Act.put, List.setIfInBounds_toArray, List.set_cons_zero, List.set_cons_succ]
   refine wpAnyF_take (i := 4) (v := ?_) (by (simp only [List.getElem?_toArray, List.getElem?_cons_succ, List.getElem?_cons_zero]; rfl)) (by kernel_rfl) (by kernel_rfl) (by kernel_rfl) (by decide) (by exact fun _ _ _ h => h) ⟨hHeld.1, .inr hHeld.2⟩ (Or.inl ⟨by rfl, ?_⟩) ?_
   rotate_left
   ·(intro w' _; go_simp <;> with_reducible rfl)
   try simp only [Act.put, List.setIfInBounds_toArray, List.set_cons_zero, List.set_cons_succ]
   refine wpAnyF_load (i := 5) (v := ?_) (by (simp only [List.getElem?_toArray, List.getElem?_cons_succ, List.getElem?_cons_zero]; rfl)) (by kernel_rfl) (by kernel_rfl) (by kernel_rfl) (by decide) (by exact fun _ _ _ h => h) hHeld (by kernel_rfl) (by kernel_rfl) (Or.inl ⟨by rfl, ?_⟩) ?_
   rotate_left
   ·(intro w' hSw; (try dsimp only at hSw); obtain ⟨hSb0, hSb1, hSb2, hSb3⟩ := hSw; go_simp <;> with_reducible rfl)
   try simp only [Act.put, List.setIfInBounds_toArray, List.set_cons_zero, List.set_cons_succ]
   refine wpAnyF_take (i := 6) (v := ?_) (by (simp only [List.getElem?_toArray, List.getElem?_cons_succ, List.getElem?_cons_zero]; rfl)) (by kernel_rfl) (by kernel_rfl) (by kernel_rfl) (by decide) (by exact fun _ _ _ h => h) ⟨hHeld.1, .inr hHeld.2⟩ (Or.inl ⟨by rfl, ?_⟩) ?_
   rotate_left
   ·(intro w' _; go_simp <;> with_reducible rfl)
   try simp only [Act.put, List.setIfInBounds_toArray, List.set_cons_zero, List.set_cons_succ]
   refine wpAnyF_take (i := 8) (v := ?_) (by (simp only [List.getElem?_toArray, List.getElem?_cons_succ, List.getElem?_cons_zero]; rfl)) (by kernel_rfl) (by kernel_rfl) (by kernel_rfl) (by decide) (by exact fun _ _ _ h => h) ⟨hHeld.1, .inr hHeld.2⟩ (Or.inl ⟨by rfl, ?_⟩) ?_
   rotate_left
   ·(intro w' _; go_simp <;> with_reducible rfl)
   try simp only [Act.put, List.setIfInBounds_toArray, List.set_cons_zero, List.set_cons_succ]
   refine wpAnyF_take (i := 9) (v := ?_) (by (simp only [List.getElem?_toArray, List.getElem?_cons_succ, List.getElem?_cons_zero]; rfl)) (by kernel_rfl) (by kernel_rfl) (by kernel_rfl) (by decide) (by exact fun _ _ _ h => h) ⟨hHeld.1, .inr hHeld.2⟩ (Or.inl ⟨by rfl, ?_⟩) ?_
   rotate_left
   ·(intro w' _; go_simp <;> with_reducible rfl)
   try simp only [Act.put, List.setIfInBounds_toArray, List.set_cons_zero, List.set_cons_succ]
   refine wpAnyF_take (i := 10) (v := ?_) (by (simp only [List.getElem?_toArray, List.getElem?_cons_succ, List.getElem?_cons_zero]; rfl)) (by kernel_rfl) (by kernel_rfl) (by kernel_rfl) (by decide) (by exact fun _ _ _ h => h) ⟨hHeld.1, .inr hHeld.2⟩ (Or.inl ⟨by rfl, ?_⟩) ?_
   rotate_left
   ·(intro w' _; go_simp <;> with_reducible rfl)
   try simp only [Act.put, List.setIfInBounds_toArray, List.set_cons_zero, List.set_cons_succ]
   refine wpAnyF_load (i := 11) (v := ?_) (by (simp only [List.getElem?_toArray, List.getElem?_cons_succ, List.getElem?_cons_zero]; rfl)) (by kernel_rfl) (by kernel_rfl) (by kernel_rfl) (by decide) (by exact fun _ _ _ h => h) hHeld (by kernel_rfl) (by kernel_rfl) (Or.inl ⟨by rfl, ?_⟩) ?_
   rotate_left
   ·(intro w' hSw; (try dsimp only at hSw); obtain ⟨hSb0, hSb1, hSb2, hSb3⟩ := hSw; go_simp <;> with_reducible rfl)
   try simp only [Act.put, List.setIfInBounds_toArray, List.set_cons_zero, List.set_cons_succ]
   refine wpAnyF_take (i := 12) (v := ?_) (by (simp only [List.getElem?_toArray, List.getElem?_cons_succ, List.getElem?_cons_zero]; rfl)) (by kernel_rfl) (by kernel_rfl) (by kernel_rfl) (by decide) (by exact fun _ _ _ h => h) ⟨hHeld.1, .inr hHeld.2⟩ (Or.inl ⟨by rfl, ?_⟩) ?_
   rotate_left
   ·(intro w' _; go_simp <;> with_reducible rfl)
   try simp only [Act.put, List.setIfInBounds_toArray, List.set_cons_zero, List.set_cons_succ]
   refine wpAnyF_load (i := 13) (v := ?_) (by (simp only [List.getElem?_toArray, List.getElem?_cons_succ, List.getElem?_cons_zero]; rfl)) (by kernel_rfl) (by kernel_rfl) (by kernel_rfl) (by decide) (by exact fun _ _ _ h => h) hHeld (by kernel_rfl) (by kernel_rfl) (Or.inl ⟨by rfl, ?_⟩) ?_
   rotate_left
   ·(intro w' hSw; (try dsimp only at hSw); obtain ⟨hSb0, hSb1, hSb2, hSb3⟩ := hSw; go_simp <;> with_reducible rfl)
   try simp only [Act.put, List.setIfInBounds_toArray, List.set_cons_zero, List.set_cons_succ]
   refine wpAnyF_ready (rs := [1, 14]) (by kernel_rfl) (by simp) ?_
   refine AllReadyF.cons (by (simp only [List.getElem?_toArray, List.getElem?_cons_succ, List.getElem?_cons_zero]; rfl)) (fun K hK => ?_) ?_
   ·skip
    have oY := World.ownsRow_lit (base := Z.heap.size) (e := 83) (size := 2) Z #[] 0 hHeld.2.2.2.2.size (by simp) rfl
    have bb := hHeld.2.2.2.2.alloc hHeld.2.2.2.2.size (Obj.cells #[] 83)
    go_simp
    obtain ⟨X1, hX⟩ : ∃ X, X = Z.alloc (Obj.cells #[] 83) := ⟨_, rfl⟩
    rw [← hX] at oY bb ⊢
    clear hX
    have hyz := (oY.lt _ rfl).1
    obtain ⟨y, hy⟩ : ∃ y, y = Z.heap.size := ⟨_, rfl⟩
    replace oY : World.ownsRow X1 Z.heap.size 83 2 (.slice (some ⟨y, 0, none⟩) 0 0) 0 [] := by rw [hy]; exact oY
    replace hyz : Z.heap.size ≤ y := by rw [hy]; exact hyz
    rw [← hy]
    clear hy
    have NA := a14 _ bb
    clear bb
    refine hK.out _ _ ⟨trivial, NA⟩ (fun hNew => ?_)
    clear hK K hHeld NA
    have hHeld := hNew
    clear hNew
    try simp only [Act.put, List.setIfInBounds_toArray, List.set_cons_zero, List.set_cons_succ]
    refine wpAnyF_ready (rs := [7, 14]) (by kernel_rfl) (by simp) ?_
    refine AllReadyF.cons (by (simp only [List.getElem?_toArray, List.getElem?_cons_succ, List.getElem?_cons_zero]; rfl)) (fun K hK => ?_) ?_
    ·skip
     refine step_append_rc _ (by rfl) (.tmp 69) (.tmp 74) 67 (by rfl) Z.heap.size 83 i0 (.agg #[.int .i64 0, .int .i64 0]) 16 Try.underlying67 hi hz0 hz1 hz2 rfl (.slice (some ⟨y, 0, none⟩) 0 0) 0 [] (by rfl) oY (some (cutI gi 1 ck)) (wids T) (ck - 1) Z.heap.size (by rw [wids_length, HTl.out]; rfl) (hrt.below hHeld.2.2.2.2) (by rw [wids_length, HTl.out]; unfold maxLen; omega) (by rw [wids_length, HTl.out]; omega) hHeld.2.2.2.2.size ?_
     intro v5 X1_7 o5 g5 hat5
     rw [wids_length, Nat.zero_add, List.nil_append] at o5
     have hob : (Value.slice (some ⟨y, 0, none⟩) 0 0).ownBlock = some y := rfl
     rw [hob] at g5 hat5
     have bb : Below Z.heap.size Z X1_7 := hHeld.2.2.2.2.grown g5 hHeld.2.2.2.2.size (fun b' e => by cases e; exact hyz)
     obtain ⟨D5, d5, hv5⟩ := own_shape o5
     subst hv5
     clear g5 hat5 oY
     have oY := o5
     clear o5
     have NA := a14 _ bb
     clear bb
     refine hK.out _ _ ⟨trivial, NA⟩ (fun hNew => ?_)
     clear hK K hHeld NA
     have hHeld := hNew
     clear hNew
     try simp only [Act.put, List.setIfInBounds_toArray, List.set_cons_zero, List.set_cons_succ]
     refine wpAnyF_ready (rs := [14]) (by kernel_rfl) (by simp) ?_
     refine AllReadyF.cons (by (simp only [List.getElem?_toArray, List.getElem?_cons_succ, List.getElem?_cons_zero]; rfl)) (fun K hK => ?_) AllReadyF.nil
     have kb := Bk.new X1_7 #[.int .i64 Ls[0].c, .int .i64 Ls[0].i] 83
     have bb := hHeld.2.2.2.2.alloc hHeld.2.2.2.2.size (Obj.cells #[.int .i64 Ls[0].c, .int .i64 Ls[0].i] 83)
     replace oY := oY.alloc (Obj.cells #[.int .i64 Ls[0].c, .int .i64 Ls[0].i] 83)
     go_simp
     obtain ⟨X1_7_14, hX⟩ : ∃ X, X = X1_7.alloc (Obj.cells #[.int .i64 Ls[0].c, .int .i64 Ls[0].i] 83) := ⟨_, rfl⟩
     rw [← hX] at kb bb oY ⊢
     clear hX
     obtain ⟨bx, hbx⟩ : ∃ y, y = X1_7.heap.size := ⟨_, rfl⟩
     rw [← hbx] at kb ⊢
     clear hbx
     have NA := a14 _ bb
     clear bb
     refine hK.out _ _ ⟨trivial, NA⟩ (fun hNew => ?_)
     clear hK K hHeld NA
     have hHeld := hNew
     clear hNew
     try simp only [Act.put, List.setIfInBounds_toArray, List.set_cons_zero, List.set_cons_succ]
     refine wpAnyF_ready (rs := [15]) (by kernel_rfl) (by simp) ?_
     refine AllReadyF.cons (by (simp only [List.getElem?_toArray, List.getElem?_cons_succ, List.getElem?_cons_zero]; rfl)) (fun K hK => ?_) AllReadyF.nil
     refine step_append_rc _ (by rfl) (.tmp 75) (.tmp 82) 67 (by rfl) Z.heap.size 83 i0 (.agg #[.int .i64 0, .int .i64 0]) 16 Try.underlying67 hi hz0 hz1 hz2 rfl (.slice D5 T.length d5) T.length (cels (wids T)) (by rfl) oY (some ⟨bx, 0, none⟩) (wids [Ls[0]]) 1 (bx + 1) (by rfl) (rdc_bk kb) (by rw [wids_length, HTl.out]; unfold maxLen; simp only [List.length_cons, List.length_nil]; omega) (by rw [wids_length, HTl.out]; simp only [List.length_cons, List.length_nil]; omega) hHeld.2.2.2.2.size ?_
     intro v6 X1_7_14_15 o6 g6 hat6
     rw [show T.length + (wids [Ls[0]]).length = (T ++ [Ls[0]]).length by rw [wids_length, List.length_append], wids_app] at o6
     have HR6 := hide (show (T ++ [Ls[0]]).length ≤ 32 by rw [List.length_append, HTl.out]; simp only [List.length_cons, List.length_nil]; omega)
     obtain ⟨R6, hR6⟩ : ∃ R, R = T ++ [Ls[0]] := ⟨_, rfl⟩
     rw [← hR6] at o6 HR6
     clear hR6
     have bb : Below Z.heap.size Z X1_7_14_15 := hHeld.2.2.2.2.grown g6 hHeld.2.2.2.2.size (fun b' e => (oY.lt b' e).1)
     obtain ⟨D6, d6, hv6⟩ := own_shape o6
     subst hv6
     clear g6 hat6 oY kb
     have NA := a14 _ bb
     clear bb
     refine hK.out _ _ ⟨trivial, NA⟩ (fun hNew => ?_)
     clear hK K hHeld NA
     have hHeld := hNew
     clear hNew
     try simp only [Act.put, List.setIfInBounds_toArray, List.set_cons_zero, List.set_cons_succ]
     refine wpAnyF_take (i := 16) (v := ?_) (by (simp only [List.getElem?_toArray, List.getElem?_cons_succ, List.getElem?_cons_zero]; rfl)) (by kernel_rfl) (by kernel_rfl) (by kernel_rfl) (by decide) (by exact fun _ _ _ h => h) ⟨hHeld.1, .inr hHeld.2⟩ (Or.inl ⟨by rfl, ?_⟩) ?_
     rotate_left
     ·(intro w' _; go_simp <;> with_reducible rfl)
     try simp only [Act.put, List.setIfInBounds_toArray, List.set_cons_zero, List.set_cons_succ]
     refine wpAnyF_take (i := 17) (v := ?_) (by (simp only [List.getElem?_toArray, List.getElem?_cons_succ, List.getElem?_cons_zero]; rfl)) (by kernel_rfl) (by kernel_rfl) (by kernel_rfl) (by decide) (by exact fun _ _ _ h => h) ⟨hHeld.1, .inr hHeld.2⟩ (Or.inl ⟨by rfl, ?_⟩) ?_
     rotate_left
     ·(intro w' _; go_simp <;> with_reducible rfl)
     try simp only [Act.put, List.setIfInBounds_toArray, List.set_cons_zero, List.set_cons_succ]
     have sz := sd.below hHeld.2.2.2.2
     have sf := sz.swapW hj hwj (ids' := R6) (own_mono o6 hww) (fun b hb i' x hne hx e => by have h1 := (o6.lt b hb).1; have h2 := (hbw x (List.mem_of_getElem? hx) b e).2; omega)
     have hcf := hHeld.2.1
     have hff := sz.oW.row.frozenAt (j * 2 + 1)
     refine wpAnyF_ready (rs := [18]) (by kernel_rfl) (by simp) ?_
     refine AllReadyF.last (by (simp only [List.getElem?_toArray, List.getElem?_cons_succ, List.getElem?_cons_zero]; rfl)) (by kernel_rfl) (fun K hK => ?_) AllReadyF.nil
     go_simp
     refine hK.out _ _ trivial ?_
     clear hK K
     try simp only [Act.put, List.setIfInBounds_toArray, List.set_cons_zero, List.set_cons_succ]
     refine wpAnyF_done (by kernel_rfl) ?_ _
     go_wp2
     refine bodyPost_ret (v := .tuple #[.slice (some ⟨gt, 0, none⟩) 4 4, .slice (some ⟨gv, 0, none⟩) os.length ev]) (by simp [results, Try.results34, go_sem]) rfl ?_
     exact sf.tell rfl (by omega) (fun x hx => by have := HT.out x hx; omega) (by rw [List.length_set]; omega) (set_fewW (fun x hx => by have := (HI.out x hx).2; omega) (by have := HR6.out; show R6.length ≤ 1000; omega))
    refine AllReadyF.cons (by (simp only [List.getElem?_toArray, List.getElem?_cons_succ, List.getElem?_cons_zero]; rfl)) (fun K hK => ?_) ?_
    ·skip
     have kb := Bk.new X1 #[.int .i64 Ls[0].c, .int .i64 Ls[0].i] 83
     have bb := hHeld.2.2.2.2.alloc hHeld.2.2.2.2.size (Obj.cells #[.int .i64 Ls[0].c, .int .i64 Ls[0].i] 83)
     have hyb := (oY.lt y rfl).2
     replace oY := oY.alloc (Obj.cells #[.int .i64 Ls[0].c, .int .i64 Ls[0].i] 83)
     go_simp
     obtain ⟨X1_14, hX⟩ : ∃ X, X = X1.alloc (Obj.cells #[.int .i64 Ls[0].c, .int .i64 Ls[0].i] 83) := ⟨_, rfl⟩
     rw [← hX] at kb bb oY ⊢
     clear hX
     obtain ⟨bx, hbx⟩ : ∃ y, y = X1.heap.size := ⟨_, rfl⟩
     rw [← hbx] at kb hyb ⊢
     clear hbx
     have NA := a14 _ bb
     clear bb
     refine hK.out _ _ ⟨trivial, NA⟩ (fun hNew => ?_)
     clear hK K hHeld NA
     have hHeld := hNew
     clear hNew
     try simp only [Act.put, List.setIfInBounds_toArray, List.set_cons_zero, List.set_cons_succ]
     refine wpAnyF_ready (rs := [7]) (by kernel_rfl) (by simp) ?_
     refine AllReadyF.cons (by (simp only [List.getElem?_toArray, List.getElem?_cons_succ, List.getElem?_cons_zero]; rfl)) (fun K hK => ?_) AllReadyF.nil
     refine step_append_rc _ (by rfl) (.tmp 69) (.tmp 74) 67 (by rfl) Z.heap.size 83 i0 (.agg #[.int .i64 0, .int .i64 0]) 16 Try.underlying67 hi hz0 hz1 hz2 rfl (.slice (some ⟨y, 0, none⟩) 0 0) 0 [] (by rfl) oY (some (cutI gi 1 ck)) (wids T) (ck - 1) Z.heap.size (by rw [wids_length, HTl.out]; rfl) (hrt.below hHeld.2.2.2.2) (by rw [wids_length, HTl.out]; unfold maxLen; omega) (by rw [wids_length, HTl.out]; omega) hHeld.2.2.2.2.size ?_
     intro v5 X1_14_7 o5 g5 hat5
     rw [wids_length, Nat.zero_add, List.nil_append] at o5
     have hob : (Value.slice (some ⟨y, 0, none⟩) 0 0).ownBlock = some y := rfl
     rw [hob] at g5 hat5
     have bb : Below Z.heap.size Z X1_14_7 := hHeld.2.2.2.2.grown g5 hHeld.2.2.2.2.size (fun b' e => by cases e; exact hyz)
     replace kb := kb.grown g5 (fun e => by cases e; omega)
     obtain ⟨D5, d5, hv5⟩ := own_shape o5
     subst hv5
     clear g5 hat5 oY
     have oY := o5
     clear o5
     have NA := a14 _ bb
     clear bb
     refine hK.out _ _ ⟨trivial, NA⟩ (fun hNew => ?_)
     clear hK K hHeld NA
     have hHeld := hNew
     clear hNew
     try simp only [Act.put, List.setIfInBounds_toArray, List.set_cons_zero, List.set_cons_succ]
     refine wpAnyF_ready (rs := [15]) (by kernel_rfl) (by simp) ?_
     refine AllReadyF.cons (by (simp only [List.getElem?_toArray, List.getElem?_cons_succ, List.getElem?_cons_zero]; rfl)) (fun K hK => ?_) AllReadyF.nil
     refine step_append_rc _ (by rfl) (.tmp 75) (.tmp 82) 67 (by rfl) Z.heap.size 83 i0 (.agg #[.int .i64 0, .int .i64 0]) 16 Try.underlying67 hi hz0 hz1 hz2 rfl (.slice D5 T.length d5) T.length (cels (wids T)) (by rfl) oY (some ⟨bx, 0, none⟩) (wids [Ls[0]]) 1 (bx + 1) (by rfl) (rdc_bk kb) (by rw [wids_length, HTl.out]; unfold maxLen; simp only [List.length_cons, List.length_nil]; omega) (by rw [wids_length, HTl.out]; simp only [List.length_cons, List.length_nil]; omega) hHeld.2.2.2.2.size ?_
     intro v6 X1_14_7_15 o6 g6 hat6
     rw [show T.length + (wids [Ls[0]]).length = (T ++ [Ls[0]]).length by rw [wids_length, List.length_append], wids_app] at o6
     have HR6 := hide (show (T ++ [Ls[0]]).length ≤ 32 by rw [List.length_append, HTl.out]; simp only [List.length_cons, List.length_nil]; omega)
     obtain ⟨R6, hR6⟩ : ∃ R, R = T ++ [Ls[0]] := ⟨_, rfl⟩
     rw [← hR6] at o6 HR6
     clear hR6
     have bb : Below Z.heap.size Z X1_14_7_15 := hHeld.2.2.2.2.grown g6 hHeld.2.2.2.2.size (fun b' e => (oY.lt b' e).1)
     obtain ⟨D6, d6, hv6⟩ := own_shape o6
     subst hv6
     clear g6 hat6 oY kb
     have NA := a14 _ bb
     clear bb
     refine hK.out _ _ ⟨trivial, NA⟩ (fun hNew => ?_)
     clear hK K hHeld NA
     have hHeld := hNew
     clear hNew
     try simp only [Act.put, List.setIfInBounds_toArray, List.set_cons_zero, List.set_cons_succ]
     refine wpAnyF_take (i := 16) (v := ?_) (by (simp only [List.getElem?_toArray, List.getElem?_cons_succ, List.getElem?_cons_zero]; rfl)) (by kernel_rfl) (by kernel_rfl) (by kernel_rfl) (by decide) (by exact fun _ _ _ h => h) ⟨hHeld.1, .inr hHeld.2⟩ (Or.inl ⟨by rfl, ?_⟩) ?_
     rotate_left
     ·(intro w' _; go_simp <;> with_reducible rfl)
     try simp only [Act.put, List.setIfInBounds_toArray, List.set_cons_zero, List.set_cons_succ]
     refine wpAnyF_take (i := 17) (v := ?_) (by (simp only [List.getElem?_toArray, List.getElem?_cons_succ, List.getElem?_cons_zero]; rfl)) (by kernel_rfl) (by kernel_rfl) (by kernel_rfl) (by decide) (by exact fun _ _ _ h => h) ⟨hHeld.1, .inr hHeld.2⟩ (Or.inl ⟨by rfl, ?_⟩) ?_
     rotate_left
     ·(intro w' _; go_simp <;> with_reducible rfl)
     try simp only [Act.put, List.setIfInBounds_toArray, List.set_cons_zero, List.set_cons_succ]
     have sz := sd.below hHeld.2.2.2.2
     have sf := sz.swapW hj hwj (ids' := R6) (own_mono o6 hww) (fun b hb i' x hne hx e => by have h1 := (o6.lt b hb).1; have h2 := (hbw x (List.mem_of_getElem? hx) b e).2; omega)
     have hcf := hHeld.2.1
     have hff := sz.oW.row.frozenAt (j * 2 + 1)
     refine wpAnyF_ready (rs := [18]) (by kernel_rfl) (by simp) ?_
     refine AllReadyF.last (by (simp only [List.getElem?_toArray, List.getElem?_cons_succ, List.getElem?_cons_zero]; rfl)) (by kernel_rfl) (fun K hK => ?_) AllReadyF.nil
     go_simp
     refine hK.out _ _ trivial ?_
     clear hK K
     try simp only [Act.put, List.setIfInBounds_toArray, List.set_cons_zero, List.set_cons_succ]
     refine wpAnyF_done (by kernel_rfl) ?_ _
     go_wp2
     refine bodyPost_ret (v := .tuple #[.slice (some ⟨gt, 0, none⟩) 4 4, .slice (some ⟨gv, 0, none⟩) os.length ev]) (by simp [results, Try.results34, go_sem]) rfl ?_
     exact sf.tell rfl (by omega) (fun x hx => by have := HT.out x hx; omega) (by rw [List.length_set]; omega) (set_fewW (fun x hx => by have := (HI.out x hx).2; omega) (by have := HR6.out; show R6.length ≤ 1000; omega))
    exact AllReadyF.nil
   refine AllReadyF.cons (by (simp only [List.getElem?_toArray, List.getElem?_cons_succ, List.getElem?_cons_zero]; rfl)) (fun K hK => ?_) ?_
   ·skip
    have kb := Bk.new Z #[.int .i64 Ls[0].c, .int .i64 Ls[0].i] 83
    have bb := hHeld.2.2.2.2.alloc hHeld.2.2.2.2.size (Obj.cells #[.int .i64 Ls[0].c, .int .i64 Ls[0].i] 83)
    go_simp
    obtain ⟨X14, hX⟩ : ∃ X, X = Z.alloc (Obj.cells #[.int .i64 Ls[0].c, .int .i64 Ls[0].i] 83) := ⟨_, rfl⟩
    rw [← hX] at kb bb ⊢
    clear hX
    obtain ⟨bx, hbx⟩ : ∃ y, y = Z.heap.size := ⟨_, rfl⟩
    rw [← hbx] at kb ⊢
    clear hbx
    have NA := a14 _ bb
    clear bb
    refine hK.out _ _ ⟨trivial, NA⟩ (fun hNew => ?_)
    clear hK K hHeld NA
    have hHeld := hNew
    clear hNew
    try simp only [Act.put, List.setIfInBounds_toArray, List.set_cons_zero, List.set_cons_succ]
    refine wpAnyF_ready (rs := [1]) (by kernel_rfl) (by simp) ?_
    refine AllReadyF.cons (by (simp only [List.getElem?_toArray, List.getElem?_cons_succ, List.getElem?_cons_zero]; rfl)) (fun K hK => ?_) AllReadyF.nil
    have oY := World.ownsRow_lit (base := Z.heap.size) (e := 83) (size := 2) X14 #[] 0 hHeld.2.2.2.2.size (by simp) rfl
    have bb := hHeld.2.2.2.2.alloc hHeld.2.2.2.2.size (Obj.cells #[] 83)
    have hyb : bx < X14.heap.size := kb.lt
    replace kb := kb.alloc (Obj.cells #[] 83)
    go_simp
    obtain ⟨X14_1, hX⟩ : ∃ X, X = X14.alloc (Obj.cells #[] 83) := ⟨_, rfl⟩
    rw [← hX] at oY bb kb ⊢
    clear hX
    have hyz := (oY.lt _ rfl).1
    obtain ⟨y, hy⟩ : ∃ y, y = X14.heap.size := ⟨_, rfl⟩
    replace oY : World.ownsRow X14_1 Z.heap.size 83 2 (.slice (some ⟨y, 0, none⟩) 0 0) 0 [] := by rw [hy]; exact oY
    replace hyz : Z.heap.size ≤ y := by rw [hy]; exact hyz
    rw [← hy] at hyb ⊢
    clear hy
    have NA := a14 _ bb
    clear bb
    refine hK.out _ _ ⟨trivial, NA⟩ (fun hNew => ?_)
    clear hK K hHeld NA
    have hHeld := hNew
    clear hNew
    try simp only [Act.put, List.setIfInBounds_toArray, List.set_cons_zero, List.set_cons_succ]
    refine wpAnyF_ready (rs := [7]) (by kernel_rfl) (by simp) ?_
    refine AllReadyF.cons (by (simp only [List.getElem?_toArray, List.getElem?_cons_succ, List.getElem?_cons_zero]; rfl)) (fun K hK => ?_) AllReadyF.nil
    refine step_append_rc _ (by rfl) (.tmp 69) (.tmp 74) 67 (by rfl) Z.heap.size 83 i0 (.agg #[.int .i64 0, .int .i64 0]) 16 Try.underlying67 hi hz0 hz1 hz2 rfl (.slice (some ⟨y, 0, none⟩) 0 0) 0 [] (by rfl) oY (some (cutI gi 1 ck)) (wids T) (ck - 1) Z.heap.size (by rw [wids_length, HTl.out]; rfl) (hrt.below hHeld.2.2.2.2) (by rw [wids_length, HTl.out]; unfold maxLen; omega) (by rw [wids_length, HTl.out]; omega) hHeld.2.2.2.2.size ?_
    intro v5 X14_1_7 o5 g5 hat5
    rw [wids_length, Nat.zero_add, List.nil_append] at o5
    have hob : (Value.slice (some ⟨y, 0, none⟩) 0 0).ownBlock = some y := rfl
    rw [hob] at g5 hat5
    have bb : Below Z.heap.size Z X14_1_7 := hHeld.2.2.2.2.grown g5 hHeld.2.2.2.2.size (fun b' e => by cases e; exact hyz)
    replace kb := kb.grown g5 (fun e => by cases e; omega)
    obtain ⟨D5, d5, hv5⟩ := own_shape o5
    subst hv5
    clear g5 hat5 oY
    have oY := o5
    clear o5
    have NA := a14 _ bb
    clear bb
    refine hK.out _ _ ⟨trivial, NA⟩ (fun hNew => ?_)
    clear hK K hHeld NA
    have hHeld := hNew
    clear hNew
    try simp only [Act.put, List.setIfInBounds_toArray, List.set_cons_zero, List.set_cons_succ]
    refine wpAnyF_ready (rs := [15]) (by kernel_rfl) (by simp) ?_
    refine AllReadyF.cons (by (simp only [List.getElem?_toArray, List.getElem?_cons_succ, List.getElem?_cons_zero]; rfl)) (fun K hK => ?_) AllReadyF.nil
    refine step_append_rc _ (by rfl) (.tmp 75) (.tmp 82) 67 (by rfl) Z.heap.size 83 i0 (.agg #[.int .i64 0, .int .i64 0]) 16 Try.underlying67 hi hz0 hz1 hz2 rfl (.slice D5 T.length d5) T.length (cels (wids T)) (by rfl) oY (some ⟨bx, 0, none⟩) (wids [Ls[0]]) 1 (bx + 1) (by rfl) (rdc_bk kb) (by rw [wids_length, HTl.out]; unfold maxLen; simp only [List.length_cons, List.length_nil]; omega) (by rw [wids_length, HTl.out]; simp only [List.length_cons, List.length_nil]; omega) hHeld.2.2.2.2.size ?_
    intro v6 X14_1_7_15 o6 g6 hat6
    rw [show T.length + (wids [Ls[0]]).length = (T ++ [Ls[0]]).length by rw [wids_length, List.length_append], wids_app] at o6
    have HR6 := hide (show (T ++ [Ls[0]]).length ≤ 32 by rw [List.length_append, HTl.out]; simp only [List.length_cons, List.length_nil]; omega)
    obtain ⟨R6, hR6⟩ : ∃ R, R = T ++ [Ls[0]] := ⟨_, rfl⟩
    rw [← hR6] at o6 HR6
    clear hR6
    have bb : Below Z.heap.size Z X14_1_7_15 := hHeld.2.2.2.2.grown g6 hHeld.2.2.2.2.size (fun b' e => (oY.lt b' e).1)
    obtain ⟨D6, d6, hv6⟩ := own_shape o6
    subst hv6
    clear g6 hat6 oY kb
    have NA := a14 _ bb
    clear bb
    refine hK.out _ _ ⟨trivial, NA⟩ (fun hNew => ?_)
    clear hK K hHeld NA
    have hHeld := hNew
    clear hNew
    try simp only [Act.put, List.setIfInBounds_toArray, List.set_cons_zero, List.set_cons_succ]
    refine wpAnyF_take (i := 16) (v := ?_) (by (simp only [List.getElem?_toArray, List.getElem?_cons_succ, List.getElem?_cons_zero]; rfl)) (by kernel_rfl) (by kernel_rfl) (by kernel_rfl) (by decide) (by exact fun _ _ _ h => h) ⟨hHeld.1, .inr hHeld.2⟩ (Or.inl ⟨by rfl, ?_⟩) ?_
    rotate_left
    ·(intro w' _; go_simp <;> with_reducible rfl)
    try simp only [Act.put, List.setIfInBounds_toArray, List.set_cons_zero, List.set_cons_succ]
    refine wpAnyF_take (i := 17) (v := ?_) (by (simp only [List.getElem?_toArray, List.getElem?_cons_succ, List.getElem?_cons_zero]; rfl)) (by kernel_rfl) (by kernel_rfl) (by kernel_rfl) (by decide) (by exact fun _ _ _ h => h) ⟨hHeld.1, .inr hHeld.2⟩ (Or.inl ⟨by rfl, ?_⟩) ?_
    rotate_left
    ·(intro w' _; go_simp <;> with_reducible rfl)
    try simp only [Act.put, List.setIfInBounds_toArray, List.set_cons_zero, List.set_cons_succ]
    have sz := sd.below hHeld.2.2.2.2
    have sf := sz.swapW hj hwj (ids' := R6) (own_mono o6 hww) (fun b hb i' x hne hx e => by have h1 := (o6.lt b hb).1; have h2 := (hbw x (List.mem_of_getElem? hx) b e).2; omega)
    have hcf := hHeld.2.1
    have hff := sz.oW.row.frozenAt (j * 2 + 1)
    refine wpAnyF_ready (rs := [18]) (by kernel_rfl) (by simp) ?_
    refine AllReadyF.last (by (simp only [List.getElem?_toArray, List.getElem?_cons_succ, List.getElem?_cons_zero]; rfl)) (by kernel_rfl) (fun K hK => ?_) AllReadyF.nil
    go_simp
    refine hK.out _ _ trivial ?_
    clear hK K
    try simp only [Act.put, List.setIfInBounds_toArray, List.set_cons_zero, List.set_cons_succ]
    refine wpAnyF_done (by kernel_rfl) ?_ _
    go_wp2
    refine bodyPost_ret (v := .tuple #[.slice (some ⟨gt, 0, none⟩) 4 4, .slice (some ⟨gv, 0, none⟩) os.length ev]) (by simp [results, Try.results34, go_sem]) rfl ?_
    exact sf.tell rfl (by omega) (fun x hx => by have := HT.out x hx; omega) (by rw [List.length_set]; omega) (set_fewW (fun x hx => by have := (HI.out x hx).2; omega) (by have := HR6.out; show R6.length ≤ 1000; omega))
   exact AllReadyF.nil
  ·skip
   go_wp2
   refine bodyPost_ret (v := .tuple #[.slice (some ⟨gt, 0, none⟩) 4 4, .slice E0 os.length cE]) (by simp [results, Try.results34, go_sem]) rfl ?_
   exact s8.tell rfl (by omega) (fun x hx => by have := HT.out x hx; omega) (by omega) (fun x hx => by have := (HI.out x hx).2; omega)
 by_cases e2 : q = 2
 ·subst e2
  by_cases hn0 : 0 < os.length
  ·skip
   go_wp2_with fail
   refine (l1Next_any g (k3 + 1 + 1) os.length A c l _ s8.src (by omega) (by omega) (by omega)).mono ?_
   rintro e w9 ⟨z, rfl, hz0', hz1', S9, g9⟩
   have s9 := s8.went S9 g9
   obtain ⟨j, rfl⟩ := Int.eq_ofNat_of_zero_le hz0'
   have hj : j < os.length := by omega
   obtain ⟨gv, nv, ev, ak, ck, hv, hwj, hrw, hcw⟩ := s9.list hj
   obtain ⟨hE0, hnv, hev⟩ : E0 = some ⟨gv, 0, none⟩ ∧ nv = os.length ∧ ev = cE := by simp only [Value.slice.injEq] at hv; exact ⟨hv.1, hv.2.1.symm, hv.2.2.symm⟩
   subst hE0 hnv hev
   obtain ⟨Ls, hLs⟩ : ∃ Ls, Ls = os[j].ids := ⟨_, rfl⟩
   have hids := HI.out _ (List.getElem_mem hj)
   rw [← hLs] at hwj hrw hcw hids
   have HLS := hide hLs
   have hl0 : 0 < Ls.length := List.length_pos_iff.2 hids.1
   have hl32 := hids.2
   obtain ⟨gi, rfl⟩ : ∃ gi, ak = some ⟨gi, 0, none⟩ := by
    rcases hrw.2 with ⟨h', h''⟩ | ⟨g, cap, cur, h', _⟩
    ·omega
    ·simp only [Value.slice.injEq, true_and] at h'
     exact ⟨g, h'.1⟩
   clear hLs hids hv S9 g9 s8 hc8 hz0' hz1' hrw
   go_wp2_with fail
   refine (l1Next_any g (k3 + 1 + 1 + 1) Ls.length A c l _ s9.src (by omega) (by omega) (by omega)).mono ?_
   rintro e w10 ⟨z, rfl, hz0', hz1', S10, g10⟩
   have s10 := s9.went S10 g10
   obtain ⟨a, rfl⟩ := Int.eq_ofNat_of_zero_le hz0'
   have ha : a < Ls.length := by omega
   clear hcw S10 g10 s9 hz0' hz1'
   have hcw := s10.wcell hj hwj
   go_wp2_with fail
   refine (l1Next_any g (k3 + 1 + 1 + 1 + 1) Ls.length A c l _ s10.src (by omega) (by omega) (by omega)).mono ?_
   rintro e w11 ⟨z, rfl, hz0', hz1', S11, g11⟩
   have s11 := s10.went S11 g11
   obtain ⟨b, rfl⟩ := Int.eq_ofNat_of_zero_le hz0'
   have hb : b < Ls.length := by omega
   clear hcw S11 g11 s10 hz0' hz1'
   have hcw := s11.wcell hj hwj
   have hrw := s11.wrow hwj (l' := Ls) (fun _ => HLS.out.symm)
   have xa := wid_at hrw ha
   obtain ⟨W2, hW2⟩ : ∃ W, W = w11.alloc (Obj.cells #[Value.int .i64 Ls[a].c, .int .i64 Ls[a].i] 83) := ⟨_, rfl⟩
   have s12 : LdS w g A c l gt (.slice (some ⟨gv, 0, none⟩) os.length ev) t us os uw (k3 + 1 + 1 + 1 + 1 + 1) W2 := by rw [hW2]; exact s11.alloc _
   have kb : Bk W2 w11.heap.size #[Value.int .i64 Ls[a].c, .int .i64 Ls[a].i] 83 := by rw [hW2]; exact Bk.new _ _ _
   have hgix : gi < w11.heap.size := (hrw.lt gi rfl).2
   have HW2 := hide hW2
   clear hW2
   obtain ⟨xa0, xa1⟩ := xa
   go_upto_region 21 with fail
   rw [← HW2.out]
   clear xa0 xa1 hcw hrw s11
   have sd := s12.drew
   have kbd : Bk W2.drew w11.heap.size #[Value.int .i64 Ls[a].c, .int .i64 Ls[a].i] 83 := kb.drewN 1
   clear s12 kb
   obtain ⟨Z, hZ⟩ : ∃ Z, Z = W2.drew := ⟨_, rfl⟩
   rw [← hZ] at sd kbd
   have hcw := sd.wcell hj hwj
   have hrw := sd.wrow hwj (l' := Ls) (fun _ => HLS.out.symm)
   obtain ⟨xb0, xb1⟩ := wid_at hrw hb
   obtain ⟨xa0, xa1⟩ := wid_at hrw ha
   have fa0 := hrw.frozenAt (a * 2)
   have fa1 := hrw.frozenAt (a * 2 + 1)
   refine wp_region_F 13 (fun w' => True) (fun w' => w'.cell? ⟨gv, j * 2 + 1, none⟩ = some (.slice (some ⟨gi, 0, none⟩) Ls.length ck) ∧ w'.cell? ⟨gi, b * 2, none⟩ = some (.int .i64 Ls[b].c) ∧ w'.cell? ⟨gi, b * 2 + 1, none⟩ = some (.int .i64 Ls[b].i)) (by kernel_rfl) ⟨trivial, (by rw [← hZ]; exact ⟨hcw, xb0, xb1⟩)⟩ (fun hHeld => ?_)
   try simp only [Act.put, List.setIfInBounds_toArray, List.set_cons_zero, List.set_cons_succ]
   rw [← hZ] at hHeld ⊢
   clear hZ
   refine wpAnyF_take (i := 0) (v := ?_) (by (simp only [List.getElem?_toArray, List.getElem?_cons_zero]; rfl)) (by kernel_rfl) (by kernel_rfl) (by kernel_rfl) (by decide) (by exact fun _ _ _ h => h) ⟨hHeld.1, .inr hHeld.2⟩ (Or.inl ⟨by rfl, ?_⟩) ?_
   rotate_left
   ·(intro w' _; go_simp <;> with_reducible rfl)
   try simp only [Act.put, List.setIfInBounds_toArray, List.set_cons_zero, List.set_cons_succ]
   refine wpAnyF_take (i := 1) (v := ?_) (by (simp only [List.getElem?_toArray, List.getElem?_cons_succ, List.getElem?_cons_zero]; rfl)) (by kernel_rfl) (by kernel_rfl) (by kernel_rfl) (by decide) (by exact fun _ _ _ h => h) ⟨hHeld.1, .inr hHeld.2⟩ (Or.inl ⟨by rfl, ?_⟩) ?_
   rotate_left
   ·(intro w' _; go_simp <;> with_reducible rfl)
   try simp only [Act.put, List.setIfInBounds_toArray, List.set_cons_zero, List.set_cons_succ]
   refine wpAnyF_take (i := 2) (v := ?_) (by (simp only [List.getElem?_toArray, List.getElem?_cons_succ, List.getElem?_cons_zero]; rfl)) (by kernel_rfl) (by kernel_rfl) (by kernel_rfl) (by decide) (by exact fun _ _ _ h => h) ⟨hHeld.1, .inr hHeld.2⟩ (Or.inl ⟨by rfl, ?_⟩) ?_
   rotate_left
   ·(intro w' _; go_simp <;> with_reducible rfl)
   try simp only [Act.put, List.setIfInBounds_toArray, List.set_cons_zero, List.set_cons_succ]
   refine wpAnyF_load (i := 3) (v := ?_) (by (simp only [List.getElem?_toArray, List.getElem?_cons_succ, List.getElem?_cons_zero]; rfl)) (by kernel_rfl) (by kernel_rfl) (by kernel_rfl) (by decide) (by exact fun _ _ _ h => h) hHeld (by kernel_rfl) (by kernel_rfl) (Or.inl ⟨by rfl, ?_⟩) ?_
   rotate_left
   ·(intro w' hSw; (try dsimp only at hSw); obtain ⟨hSb0, hSb1, hSb2⟩ := hSw; go_simp <;> with_reducible rfl)
   try simp only [Act.put, List.setIfInBounds_toArray, List.set_cons_zero, List.set_cons_succ]
   refine wpAnyF_take (i := 4) (v := ?_) (by (simp only [List.getElem?_toArray, List.getElem?_cons_succ, List.getElem?_cons_zero]; rfl)) (by kernel_rfl) (by kernel_rfl) (by kernel_rfl) (by decide) (by exact fun _ _ _ h => h) ⟨hHeld.1, .inr hHeld.2⟩ (Or.inl ⟨by rfl, ?_⟩) ?_
   rotate_left
   ·(intro w' _; go_simp <;> with_reducible rfl)
   try simp only [Act.put, List.setIfInBounds_toArray, List.set_cons_zero, List.set_cons_succ]
   refine wpAnyF_take (i := 5) (v := ?_) (by (simp only [List.getElem?_toArray, List.getElem?_cons_succ, List.getElem?_cons_zero]; rfl)) (by kernel_rfl) (by kernel_rfl) (by kernel_rfl) (by decide) (by exact fun _ _ _ h => h) ⟨hHeld.1, .inr hHeld.2⟩ (Or.inl ⟨by rfl, ?_⟩) ?_
   rotate_left
   ·(intro w' _; go_simp <;> with_reducible rfl)
   try simp only [Act.put, List.setIfInBounds_toArray, List.set_cons_zero, List.set_cons_succ]
   refine wpAnyF_take (i := 6) (v := ?_) (by (simp only [List.getElem?_toArray, List.getElem?_cons_succ, List.getElem?_cons_zero]; rfl)) (by kernel_rfl) (by kernel_rfl) (by kernel_rfl) (by decide) (by exact fun _ _ _ h => h) ⟨hHeld.1, .inr hHeld.2⟩ (Or.inl ⟨by rfl, ?_⟩) ?_
   rotate_left
   ·(intro w' _; go_simp <;> with_reducible rfl)
   try simp only [Act.put, List.setIfInBounds_toArray, List.set_cons_zero, List.set_cons_succ]
   refine wpAnyF_take (i := 7) (v := ?_) (by (simp only [List.getElem?_toArray, List.getElem?_cons_succ, List.getElem?_cons_zero]; rfl)) (by kernel_rfl) (by kernel_rfl) (by kernel_rfl) (by decide) (by exact fun _ _ _ h => h) ⟨hHeld.1, .inr hHeld.2⟩ (Or.inl ⟨by rfl, ?_⟩) ?_
   rotate_left
   ·(intro w' _; go_simp <;> with_reducible rfl)
   try simp only [Act.put, List.setIfInBounds_toArray, List.set_cons_zero, List.set_cons_succ]
   refine wpAnyF_load (i := 8) (v := ?_) (by (simp only [List.getElem?_toArray, List.getElem?_cons_succ, List.getElem?_cons_zero]; rfl)) (by kernel_rfl) (by kernel_rfl) (by kernel_rfl) (by decide) (by exact fun _ _ _ h => h) hHeld (by kernel_rfl) (by kernel_rfl) (Or.inl ⟨by rfl, ?_⟩) ?_
   rotate_left
   ·(intro w' hSw; (try dsimp only at hSw); obtain ⟨hSb0, hSb1, hSb2⟩ := hSw; go_simp <;> with_reducible rfl)
   try simp only [Act.put, List.setIfInBounds_toArray, List.set_cons_zero, List.set_cons_succ]
   refine wpAnyF_take (i := 9) (v := ?_) (by (simp only [List.getElem?_toArray, List.getElem?_cons_succ, List.getElem?_cons_zero]; rfl)) (by kernel_rfl) (by kernel_rfl) (by kernel_rfl) (by decide) (by exact fun _ _ _ h => h) ⟨hHeld.1, .inr hHeld.2⟩ (Or.inl ⟨by rfl, ?_⟩) ?_
   rotate_left
   ·(intro w' _; go_simp <;> with_reducible rfl)
   try simp only [Act.put, List.setIfInBounds_toArray, List.set_cons_zero, List.set_cons_succ]
   refine wpAnyF_take (i := 10) (v := ?_) (by (simp only [List.getElem?_toArray, List.getElem?_cons_succ, List.getElem?_cons_zero]; rfl)) (by kernel_rfl) (by kernel_rfl) (by kernel_rfl) (by decide) (by exact fun _ _ _ h => h) ⟨hHeld.1, .inr hHeld.2⟩ (Or.inl ⟨by rfl, ?_⟩) ?_
   rotate_left
   ·(intro w' _; go_simp <;> with_reducible rfl)
   try simp only [Act.put, List.setIfInBounds_toArray, List.set_cons_zero, List.set_cons_succ]
   refine wpAnyF_load (i := 11) (v := ?_) (by (simp only [List.getElem?_toArray, List.getElem?_cons_succ, List.getElem?_cons_zero]; rfl)) (by kernel_rfl) (by kernel_rfl) (by kernel_rfl) (by decide) (by exact fun _ _ _ h => h) hHeld (by kernel_rfl) (by kernel_rfl) (Or.inl ⟨by rfl, ?_⟩) ?_
   rotate_left
   ·(intro w' hSw; (try dsimp only at hSw); obtain ⟨hSb0, hSb1, hSb2⟩ := hSw; go_simp <;> with_reducible rfl)
   try simp only [Act.put, List.setIfInBounds_toArray, List.set_cons_zero, List.set_cons_succ]
   refine wpAnyF_take (i := 12) (v := ?_) (by (simp only [List.getElem?_toArray, List.getElem?_cons_succ, List.getElem?_cons_zero]; rfl)) (by kernel_rfl) (by kernel_rfl) (by kernel_rfl) (by decide) (by exact fun _ _ _ h => h) ⟨hHeld.1, .inr hHeld.2⟩ (Or.inl ⟨by rfl, ?_⟩) ?_
   rotate_left
   ·(intro w' _; go_simp <;> with_reducible rfl)
   try simp only [Act.put, List.setIfInBounds_toArray, List.set_cons_zero, List.set_cons_succ]
   refine wpAnyF_ready (rs := [13]) (by kernel_rfl) (by simp) ?_
   refine AllReadyF.last (by (simp only [List.getElem?_toArray, List.getElem?_cons_succ, List.getElem?_cons_zero]; rfl)) (by kernel_rfl) (fun K hK => ?_) AllReadyF.nil
   go_simp
   refine hK.out _ _ trivial ?_
   clear hK K
   try simp only [Act.put, List.setIfInBounds_toArray, List.set_cons_zero, List.set_cons_succ]
   refine wpAnyF_done (by kernel_rfl) ?_ _
   have st1 := hrw.stored (a * 2) (.int .i64 Ls[b].c)
   have st2 := st1.1.stored (a * 2 + 1) (.int .i64 Ls[b].i)
   rw [wids_set ha] at st2
   have s13 := sd.turnW hj hwj (ids' := Ls.set a Ls[b]) (st1.2.trans st2.2) (by rw [List.length_set]; exact st2.1)
   have kb3 := (kbd.far (p := ⟨gi, a * 2, none⟩) (show w11.heap.size ≠ gi by omega) (.int .i64 Ls[b].c)).far (p := ⟨gi, a * 2 + 1, none⟩) (show w11.heap.size ≠ gi by omega) (.int .i64 Ls[b].i)
   have hr3 := st2.1
   have HL3 := hide (List.length_set : (Ls.set a Ls[b]).length = Ls.length)
   clear st1 st2 hHeld hcw hrw xb0 xb1 xa0 xa1 fa0 fa1 sd kbd
   obtain ⟨L3, hL3⟩ : ∃ L3, L3 = Ls.set a Ls[b] := ⟨_, rfl⟩
   rw [← hL3] at s13 hr3 HL3
   clear hL3
   obtain ⟨W3, hW3⟩ : ∃ W3, W3 = (Z.setCell ⟨gi, a * 2, none⟩ (.int .i64 Ls[b].c)).setCell ⟨gi, a * 2 + 1, none⟩ (.int .i64 Ls[b].i) := ⟨_, rfl⟩
   rw [← hW3] at s13 kb3 hr3 ⊢
   clear hW3
   go_upto_region 22 with fail
   have sd := s13.drew
   have kbd : Bk W3.drew w11.heap.size #[Value.int .i64 Ls[a].c, .int .i64 Ls[a].i] 83 := kb3.drewN 1
   have hrd : W3.drew.ownsRow _ _ _ _ _ _ := own_drew hr3
   obtain ⟨Y, hY⟩ : ∃ Z, Z = W3.drew := ⟨_, rfl⟩
   rw [← hY] at sd kbd hrd
   clear s13 kb3 hr3
   have hb3 : b < L3.length := by rw [HL3.out]; exact hb
   have hj' : j < (os.set j ⟨os[j].a, L3⟩).length := by rw [List.length_set]; exact hj
   have hcw := sd.wcell hj' hwj
   obtain ⟨xb0, xb1⟩ := wid_at' hrd hb3
   have fa0 := hrd.frozenAt (b * 2)
   have fa1 := hrd.frozenAt (b * 2 + 1)
   have y0 := (kbd.cell 0).trans (rfl : _ = some (Value.int .i64 Ls[a].c))
   have y1 := (kbd.cell 1).trans (rfl : _ = some (Value.int .i64 Ls[a].i))
   refine wp_region_F 7 (fun w' => True) (fun w' => w'.cell? ⟨gv, j * 2 + 1, none⟩ = some (.slice (some ⟨gi, 0, none⟩) Ls.length ck) ∧ w'.cell? ⟨w11.heap.size, 0, none⟩ = some (.int .i64 Ls[a].c) ∧ w'.cell? ⟨w11.heap.size, 1, none⟩ = some (.int .i64 Ls[a].i)) (by kernel_rfl) ⟨trivial, (by rw [← hY]; exact ⟨hcw, y0, y1⟩)⟩ (fun hHeld => ?_)
   try simp only [Act.put, List.setIfInBounds_toArray, List.set_cons_zero, List.set_cons_succ]
   rw [← hY] at hHeld ⊢
   clear hY
   refine wpAnyF_take (i := 0) (v := ?_) (by (simp only [List.getElem?_toArray, List.getElem?_cons_zero]; rfl)) (by kernel_rfl) (by kernel_rfl) (by kernel_rfl) (by decide) (by exact fun _ _ _ h => h) ⟨hHeld.1, .inr hHeld.2⟩ (Or.inl ⟨by rfl, ?_⟩) ?_
   rotate_left
   ·(intro w' _; go_simp <;> with_reducible rfl)
   try simp only [Act.put, List.setIfInBounds_toArray, List.set_cons_zero, List.set_cons_succ]
   refine wpAnyF_take (i := 1) (v := ?_) (by (simp only [List.getElem?_toArray, List.getElem?_cons_succ, List.getElem?_cons_zero]; rfl)) (by kernel_rfl) (by kernel_rfl) (by kernel_rfl) (by decide) (by exact fun _ _ _ h => h) ⟨hHeld.1, .inr hHeld.2⟩ (Or.inl ⟨by rfl, ?_⟩) ?_
   rotate_left
   ·(intro w' _; go_simp <;> with_reducible rfl)
   try simp only [Act.put, List.setIfInBounds_toArray, List.set_cons_zero, List.set_cons_succ]
   refine wpAnyF_take (i := 2) (v := ?_) (by (simp only [List.getElem?_toArray, List.getElem?_cons_succ, List.getElem?_cons_zero]; rfl)) (by kernel_rfl) (by kernel_rfl) (by kernel_rfl) (by decide) (by exact fun _ _ _ h => h) ⟨hHeld.1, .inr hHeld.2⟩ (Or.inl ⟨by rfl, ?_⟩) ?_
   rotate_left
   ·(intro w' _; go_simp <;> with_reducible rfl)
   try simp only [Act.put, List.setIfInBounds_toArray, List.set_cons_zero, List.set_cons_succ]
   refine wpAnyF_load (i := 3) (v := ?_) (by (simp only [List.getElem?_toArray, List.getElem?_cons_succ, List.getElem?_cons_zero]; rfl)) (by kernel_rfl) (by kernel_rfl) (by kernel_rfl) (by decide) (by exact fun _ _ _ h => h) hHeld (by kernel_rfl) (by kernel_rfl) (Or.inl ⟨by rfl, ?_⟩) ?_
   rotate_left
   ·(intro w' hSw; (try dsimp only at hSw); obtain ⟨hSb0, hSb1, hSb2⟩ := hSw; go_simp <;> with_reducible rfl)
   try simp only [Act.put, List.setIfInBounds_toArray, List.set_cons_zero, List.set_cons_succ]
   refine wpAnyF_take (i := 4) (v := ?_) (by (simp only [List.getElem?_toArray, List.getElem?_cons_succ, List.getElem?_cons_zero]; rfl)) (by kernel_rfl) (by kernel_rfl) (by kernel_rfl) (by decide) (by exact fun _ _ _ h => h) ⟨hHeld.1, .inr hHeld.2⟩ (Or.inl ⟨by rfl, ?_⟩) ?_
   rotate_left
   ·(intro w' _; go_simp <;> with_reducible rfl)
   try simp only [Act.put, List.setIfInBounds_toArray, List.set_cons_zero, List.set_cons_succ]
   refine wpAnyF_load (i := 5) (v := ?_) (by (simp only [List.getElem?_toArray, List.getElem?_cons_succ, List.getElem?_cons_zero]; rfl)) (by kernel_rfl) (by kernel_rfl) (by kernel_rfl) (by decide) (by exact fun _ _ _ h => h) hHeld (by kernel_rfl) (by kernel_rfl) (Or.inl ⟨by rfl, ?_⟩) ?_
   rotate_left
   ·(intro w' hSw; (try dsimp only at hSw); obtain ⟨hSb0, hSb1, hSb2⟩ := hSw; go_simp <;> with_reducible rfl)
   try simp only [Act.put, List.setIfInBounds_toArray, List.set_cons_zero, List.set_cons_succ]
   refine wpAnyF_take (i := 6) (v := ?_) (by (simp only [List.getElem?_toArray, List.getElem?_cons_succ, List.getElem?_cons_zero]; rfl)) (by kernel_rfl) (by kernel_rfl) (by kernel_rfl) (by decide) (by exact fun _ _ _ h => h) ⟨hHeld.1, .inr hHeld.2⟩ (Or.inl ⟨by rfl, ?_⟩) ?_
   rotate_left
   ·(intro w' _; go_simp <;> with_reducible rfl)
   try simp only [Act.put, List.setIfInBounds_toArray, List.set_cons_zero, List.set_cons_succ]
   refine wpAnyF_ready (rs := [7]) (by kernel_rfl) (by simp) ?_
   refine AllReadyF.last (by (simp only [List.getElem?_toArray, List.getElem?_cons_succ, List.getElem?_cons_zero]; rfl)) (by kernel_rfl) (fun K hK => ?_) AllReadyF.nil
   go_simp
   refine hK.out _ _ trivial ?_
   clear hK K
   try simp only [Act.put, List.setIfInBounds_toArray, List.set_cons_zero, List.set_cons_succ]
   refine wpAnyF_done (by kernel_rfl) ?_ _
   have st1 := hrd.stored (b * 2) (.int .i64 Ls[a].c)
   have st2 := st1.1.stored (b * 2 + 1) (.int .i64 Ls[a].i)
   rw [wids_set hb3] at st2
   have sf := sd.turnW hj' hwj (ids' := L3.set b Ls[a]) (st1.2.trans st2.2) (by rw [List.length_set, HL3.out]; exact st2.1)
   go_wp2
   refine bodyPost_ret (v := .tuple #[.slice (some ⟨gt, 0, none⟩) 4 4, .slice (some ⟨gv, 0, none⟩) os.length ev]) (by simp [results, Try.results34, go_sem]) rfl ?_
   exact sf.tell rfl (by omega) (fun x hx => by have := HT.out x hx; omega) (by rw [List.length_set, List.length_set]; omega) (set_fewW (set_fewW (fun x hx => by have := (HI.out x hx).2; omega) (by have := HL3.out; show L3.length ≤ 1000; omega)) (by show (L3.set b Ls[a]).length ≤ 1000; rw [List.length_set]; have := HL3.out; omega))
  ·skip
   go_wp2
   refine bodyPost_ret (v := .tuple #[.slice (some ⟨gt, 0, none⟩) 4 4, .slice E0 os.length cE]) (by simp [results, Try.results34, go_sem]) rfl ?_
   exact s8.tell rfl (by omega) (fun x hx => by have := HT.out x hx; omega) (by omega) (fun x hx => by have := (HI.out x hx).2; omega)
 by_cases e3 : q = 3
 ·subst e3
  by_cases hn0 : 0 < os.length
  ·have sf := s8.less (m := os.length - 1) (by omega)
   have hcap := own_capC s8.oW.row
   have HH := fun W => run_headW E0 os.length (os.length - 1) cE ((os.length : Int) - 1) W (by omega) (by omega)
   go_wp2
   refine bodyPost_ret (v := .tuple #[.slice (some ⟨gt, 0, none⟩) 4 4, .slice E0 (os.length - 1) cE]) (by simp [results, Try.results34, go_sem]) rfl ?_
   exact sf.tell rfl (by omega) (fun x hx => by have := HT.out x hx; omega) (by rw [List.length_take]; omega) (fun x hx => by have := (HI.out x (List.mem_of_mem_take hx)).2; omega)
  ·skip
   go_wp2
   refine bodyPost_ret (v := .tuple #[.slice (some ⟨gt, 0, none⟩) 4 4, .slice E0 os.length cE]) (by simp [results, Try.results34, go_sem]) rfl ?_
   exact s8.tell rfl (by omega) (fun x hx => by have := HT.out x hx; omega) (by omega) (fun x hx => by have := (HI.out x hx).2; omega)
 by_cases e4 : q = 4
 ·subst e4
  by_cases hL1 : 1 < L.length
  ·obtain ⟨gu, rfl⟩ : ∃ gu, aI = some ⟨gu, 0, none⟩ := by
    rcases (s8.ev hui (fun _ => HLI.out.symm)).2 with ⟨h', h''⟩ | ⟨g, cap, cur, h', _⟩
    ·omega
    ·simp only [Value.slice.injEq, true_and] at h'
     exact ⟨g, h'.1⟩
   have hL0 : 0 < L.length := by omega
   have hrw := s8.ev hui (fun _ => HLI.out.symm)
   obtain ⟨xa0, xa1, xa2⟩ := evc_at hrw (show 0 < L.length by omega)
   simp only [Nat.zero_mul, Nat.zero_add] at xa0 xa1 xa2
   obtain ⟨W2, hW2⟩ : ∃ W, W = w8.alloc (Obj.cells #[Value.int .i64 L[0].k, .int .i64 L[0].a, .int .i64 L[0].v] 81) := ⟨_, rfl⟩
   have s12 : LdS w g A c l gt (.slice E0 os.length cE) t us os uw (k3 + 1 + 1) W2 := by rw [hW2]; exact s8.alloc _
   have kb : Bk W2 w8.heap.size #[Value.int .i64 L[0].k, .int .i64 L[0].a, .int .i64 L[0].v] 81 := by rw [hW2]; exact Bk.new _ _ _
   have hgix : gu < w8.heap.size := (hrw.lt gu rfl).2
   have HW2 := hide hW2
   clear hW2
   go_upto_region 29 with fail
   rw [← HW2.out]
   clear xa0 xa1 xa2 hc8 hrw s8
   have sd := s12.drew
   have kbd : Bk W2.drew w8.heap.size #[Value.int .i64 L[0].k, .int .i64 L[0].a, .int .i64 L[0].v] 81 := kb.drewN 1
   clear s12 kb
   obtain ⟨Z, hZ⟩ : ∃ Z, Z = W2.drew := ⟨_, rfl⟩
   rw [← hZ] at sd kbd
   have hcw := sd.cell hui
   have hrw := sd.ev hui (fun _ => HLI.out.symm)
   obtain ⟨xb0, xb1, xb2⟩ := evc_at hrw hL1
   obtain ⟨xa0, xa1, xa2⟩ := evc_at hrw (show 0 < L.length by omega)
   simp only [Nat.zero_mul, Nat.zero_add, Nat.one_mul] at xa0 xa1 xa2 xb0 xb1 xb2
   have fa0 := hrw.frozenAt 0
   have fa1 := hrw.frozenAt 1
   have fa2 := hrw.frozenAt 2
   refine wp_region_F 11 (fun w' => True) (fun w' => w'.cell? ⟨gt, i, none⟩ = some (.slice (some ⟨gu, 0, none⟩) L.length eI) ∧ w'.cell? ⟨gu, 3, none⟩ = some (.int .i64 L[1].k) ∧ w'.cell? ⟨gu, 4, none⟩ = some (.int .i64 L[1].a) ∧ w'.cell? ⟨gu, 5, none⟩ = some (.int .i64 L[1].v)) (by kernel_rfl) ⟨trivial, (by rw [← hZ]; exact ⟨hcw, xb0, xb1, xb2⟩)⟩ (fun hHeld => ?_)
   try simp only [Act.put, List.setIfInBounds_toArray, List.set_cons_zero, List.set_cons_succ]
   rw [← hZ] at hHeld ⊢
   clear hZ
   refine wpAnyF_take (i := 0) (v := ?_) (by (simp only [List.getElem?_toArray, List.getElem?_cons_zero]; rfl)) (by kernel_rfl) (by kernel_rfl) (by kernel_rfl) (by decide) (by exact fun _ _ _ h => h) ⟨hHeld.1, .inr hHeld.2⟩ (Or.inl ⟨by rfl, ?_⟩) ?_
   rotate_left
   ·(intro w' _; go_simp <;> with_reducible rfl)
   try simp only [Act.put, List.setIfInBounds_toArray, List.set_cons_zero, List.set_cons_succ]
   refine wpAnyF_take (i := 1) (v := ?_) (by (simp only [List.getElem?_toArray, List.getElem?_cons_succ, List.getElem?_cons_zero]; rfl)) (by kernel_rfl) (by kernel_rfl) (by kernel_rfl) (by decide) (by exact fun _ _ _ h => h) ⟨hHeld.1, .inr hHeld.2⟩ (Or.inl ⟨by rfl, ?_⟩) ?_
   rotate_left
   ·(intro w' _; go_simp <;> with_reducible rfl)
   try simp only [Act.put, List.setIfInBounds_toArray, List.set_cons_zero, List.set_cons_succ]
   refine wpAnyF_take (i := 2) (v := ?_) (by (simp only [List.getElem?_toArray, List.getElem?_cons_succ, List.getElem?_cons_zero]; rfl)) (by kernel_rfl) (by kernel_rfl) (by kernel_rfl) (by decide) (by exact fun _ _ _ h => h) ⟨hHeld.1, .inr hHeld.2⟩ (Or.inl ⟨by rfl, ?_⟩) ?_
   rotate_left
   ·(intro w' _; go_simp <;> with_reducible rfl)
   try simp only [Act.put, List.setIfInBounds_toArray, List.set_cons_zero, List.set_cons_succ]
   refine wpAnyF_load (i := 3) (v := ?_) (by (simp only [List.getElem?_toArray, List.getElem?_cons_succ, List.getElem?_cons_zero]; rfl)) (by kernel_rfl) (by kernel_rfl) (by kernel_rfl) (by decide) (by exact fun _ _ _ h => h) hHeld (by kernel_rfl) (by kernel_rfl) (Or.inl ⟨by rfl, ?_⟩) ?_
   rotate_left
   ·(intro w' hSw; (try dsimp only at hSw); obtain ⟨hSb0, hSb1, hSb2, hSb3⟩ := hSw; go_simp <;> with_reducible rfl)
   try simp only [Act.put, List.setIfInBounds_toArray, List.set_cons_zero, List.set_cons_succ]
   refine wpAnyF_take (i := 4) (v := ?_) (by (simp only [List.getElem?_toArray, List.getElem?_cons_succ, List.getElem?_cons_zero]; rfl)) (by kernel_rfl) (by kernel_rfl) (by kernel_rfl) (by decide) (by exact fun _ _ _ h => h) ⟨hHeld.1, .inr hHeld.2⟩ (Or.inl ⟨by rfl, ?_⟩) ?_
   rotate_left
   ·(intro w' _; go_simp <;> with_reducible rfl)
   try simp only [Act.put, List.setIfInBounds_toArray, List.set_cons_zero, List.set_cons_succ]
   refine wpAnyF_take (i := 5) (v := ?_) (by (simp only [List.getElem?_toArray, List.getElem?_cons_succ, List.getElem?_cons_zero]; rfl)) (by kernel_rfl) (by kernel_rfl) (by kernel_rfl) (by decide) (by exact fun _ _ _ h => h) ⟨hHeld.1, .inr hHeld.2⟩ (Or.inl ⟨by rfl, ?_⟩) ?_
   rotate_left
   ·(intro w' _; go_simp <;> with_reducible rfl)
   try simp only [Act.put, List.setIfInBounds_toArray, List.set_cons_zero, List.set_cons_succ]
   refine wpAnyF_take (i := 6) (v := ?_) (by (simp only [List.getElem?_toArray, List.getElem?_cons_succ, List.getElem?_cons_zero]; rfl)) (by kernel_rfl) (by kernel_rfl) (by kernel_rfl) (by decide) (by exact fun _ _ _ h => h) ⟨hHeld.1, .inr hHeld.2⟩ (Or.inl ⟨by rfl, ?_⟩) ?_
   rotate_left
   ·(intro w' _; go_simp <;> with_reducible rfl)
   try simp only [Act.put, List.setIfInBounds_toArray, List.set_cons_zero, List.set_cons_succ]
   refine wpAnyF_load (i := 7) (v := ?_) (by (simp only [List.getElem?_toArray, List.getElem?_cons_succ, List.getElem?_cons_zero]; rfl)) (by kernel_rfl) (by kernel_rfl) (by kernel_rfl) (by decide) (by exact fun _ _ _ h => h) hHeld (by kernel_rfl) (by kernel_rfl) (Or.inl ⟨by rfl, ?_⟩) ?_
   rotate_left
   ·(intro w' hSw; (try dsimp only at hSw); obtain ⟨hSb0, hSb1, hSb2, hSb3⟩ := hSw; go_simp <;> with_reducible rfl)
   try simp only [Act.put, List.setIfInBounds_toArray, List.set_cons_zero, List.set_cons_succ]
   refine wpAnyF_take (i := 8) (v := ?_) (by (simp only [List.getElem?_toArray, List.getElem?_cons_succ, List.getElem?_cons_zero]; rfl)) (by kernel_rfl) (by kernel_rfl) (by kernel_rfl) (by decide) (by exact fun _ _ _ h => h) ⟨hHeld.1, .inr hHeld.2⟩ (Or.inl ⟨by rfl, ?_⟩) ?_
   rotate_left
   ·(intro w' _; go_simp <;> with_reducible rfl)
   try simp only [Act.put, List.setIfInBounds_toArray, List.set_cons_zero, List.set_cons_succ]
   refine wpAnyF_load (i := 9) (v := ?_) (by (simp only [List.getElem?_toArray, List.getElem?_cons_succ, List.getElem?_cons_zero]; rfl)) (by kernel_rfl) (by kernel_rfl) (by kernel_rfl) (by decide) (by exact fun _ _ _ h => h) hHeld (by kernel_rfl) (by kernel_rfl) (Or.inl ⟨by rfl, ?_⟩) ?_
   rotate_left
   ·(intro w' hSw; (try dsimp only at hSw); obtain ⟨hSb0, hSb1, hSb2, hSb3⟩ := hSw; go_simp <;> with_reducible rfl)
   try simp only [Act.put, List.setIfInBounds_toArray, List.set_cons_zero, List.set_cons_succ]
   refine wpAnyF_take (i := 10) (v := ?_) (by (simp only [List.getElem?_toArray, List.getElem?_cons_succ, List.getElem?_cons_zero]; rfl)) (by kernel_rfl) (by kernel_rfl) (by kernel_rfl) (by decide) (by exact fun _ _ _ h => h) ⟨hHeld.1, .inr hHeld.2⟩ (Or.inl ⟨by rfl, ?_⟩) ?_
   rotate_left
   ·(intro w' _; go_simp <;> with_reducible rfl)
   try simp only [Act.put, List.setIfInBounds_toArray, List.set_cons_zero, List.set_cons_succ]
   refine wpAnyF_ready (rs := [11]) (by kernel_rfl) (by simp) ?_
   refine AllReadyF.last (by (simp only [List.getElem?_toArray, List.getElem?_cons_succ, List.getElem?_cons_zero]; rfl)) (by kernel_rfl) (fun K hK => ?_) AllReadyF.nil
   go_simp
   refine hK.out _ _ trivial ?_
   clear hK K
   try simp only [Act.put, List.setIfInBounds_toArray, List.set_cons_zero, List.set_cons_succ]
   refine wpAnyF_done (by kernel_rfl) ?_ _
   have st1 := hrw.stored 0 (.int .i64 L[1].k)
   have st2 := st1.1.stored 1 (.int .i64 L[1].a)
   have st3 := st2.1.stored 2 (.int .i64 L[1].v)
   have hes := evs_set L 0 L[1] (show 0 < L.length by omega)
   simp only [Nat.zero_mul, Nat.zero_add] at hes
   rw [hes] at st3
   have s13 := sd.row hui (es' := L.set 0 L[1]) ((st1.2.trans st2.2).trans st3.2) (by rw [List.length_set]; exact st3.1)
   have kb3 := ((kbd.far (p := ⟨gu, 0, none⟩) (show w8.heap.size ≠ gu by omega) (.int .i64 L[1].k)).far (p := ⟨gu, 1, none⟩) (show w8.heap.size ≠ gu by omega) (.int .i64 L[1].a)).far (p := ⟨gu, 2, none⟩) (show w8.heap.size ≠ gu by omega) (.int .i64 L[1].v)
   have hr3 := st3.1
   have HL3 := hide (List.length_set : (L.set 0 L[1]).length = L.length)
   clear hes st1 st2 st3 hHeld hcw hrw xb0 xb1 xb2 xa0 xa1 xa2 fa0 fa1 fa2 sd kbd
   obtain ⟨L3, hL3⟩ : ∃ L3, L3 = L.set 0 L[1] := ⟨_, rfl⟩
   rw [← hL3] at s13 hr3 HL3
   clear hL3
   obtain ⟨W3, hW3⟩ : ∃ W3, W3 = ((Z.setCell ⟨gu, 0, none⟩ (.int .i64 L[1].k)).setCell ⟨gu, 1, none⟩ (.int .i64 L[1].a)).setCell ⟨gu, 2, none⟩ (.int .i64 L[1].v) := ⟨_, rfl⟩
   rw [← hW3] at s13 kb3 hr3 ⊢
   clear hW3
   go_upto_region 30 with fail
   have sd := s13.drew
   have kbd : Bk W3.drew w8.heap.size #[Value.int .i64 L[0].k, .int .i64 L[0].a, .int .i64 L[0].v] 81 := kb3.drewN 1
   have hrd : W3.drew.ownsRow _ _ _ _ _ _ := own_drew hr3
   obtain ⟨Y, hY⟩ : ∃ Z, Z = W3.drew := ⟨_, rfl⟩
   rw [← hY] at sd kbd hrd
   clear s13 kb3 hr3
   have hb3 : 1 < L3.length := by rw [HL3.out]; exact hL1
   have hcw := sd.cell hui
   obtain ⟨xb0, xb1, xb2⟩ := evc_at' hrd hb3
   simp only [Nat.one_mul] at xb0 xb1 xb2
   have fa0 := hrd.frozenAt 3
   have fa1 := hrd.frozenAt 4
   have fa2 := hrd.frozenAt 5
   have y0 := (kbd.cell 0).trans (rfl : _ = some (Value.int .i64 L[0].k))
   have y1 := (kbd.cell 1).trans (rfl : _ = some (Value.int .i64 L[0].a))
   have y2 := (kbd.cell 2).trans (rfl : _ = some (Value.int .i64 L[0].v))
   refine wp_region_F 6 (fun w' => True) (fun w' => w'.cell? ⟨gt, i, none⟩ = some (.slice (some ⟨gu, 0, none⟩) L.length eI) ∧ w'.cell? ⟨w8.heap.size, 0, none⟩ = some (.int .i64 L[0].k) ∧ w'.cell? ⟨w8.heap.size, 1, none⟩ = some (.int .i64 L[0].a) ∧ w'.cell? ⟨w8.heap.size, 2, none⟩ = some (.int .i64 L[0].v)) (by kernel_rfl) ⟨trivial, (by rw [← hY]; exact ⟨hcw, y0, y1, y2⟩)⟩ (fun hHeld => ?_)
   try simp only [Act.put, List.setIfInBounds_toArray, List.set_cons_zero, List.set_cons_succ]
   rw [← hY] at hHeld ⊢
   clear hY
   refine wpAnyF_take (i := 0) (v := ?_) (by (simp only [List.getElem?_toArray, List.getElem?_cons_zero]; rfl)) (by kernel_rfl) (by kernel_rfl) (by kernel_rfl) (by decide) (by exact fun _ _ _ h => h) ⟨hHeld.1, .inr hHeld.2⟩ (Or.inl ⟨by rfl, ?_⟩) ?_
   rotate_left
   ·(intro w' _; go_simp <;> with_reducible rfl)
   try simp only [Act.put, List.setIfInBounds_toArray, List.set_cons_zero, List.set_cons_succ]
   refine wpAnyF_take (i := 1) (v := ?_) (by (simp only [List.getElem?_toArray, List.getElem?_cons_succ, List.getElem?_cons_zero]; rfl)) (by kernel_rfl) (by kernel_rfl) (by kernel_rfl) (by decide) (by exact fun _ _ _ h => h) ⟨hHeld.1, .inr hHeld.2⟩ (Or.inl ⟨by rfl, ?_⟩) ?_
   rotate_left
   ·(intro w' _; go_simp <;> with_reducible rfl)
   try simp only [Act.put, List.setIfInBounds_toArray, List.set_cons_zero, List.set_cons_succ]
   refine wpAnyF_take (i := 2) (v := ?_) (by (simp only [List.getElem?_toArray, List.getElem?_cons_succ, List.getElem?_cons_zero]; rfl)) (by kernel_rfl) (by kernel_rfl) (by kernel_rfl) (by decide) (by exact fun _ _ _ h => h) ⟨hHeld.1, .inr hHeld.2⟩ (Or.inl ⟨by rfl, ?_⟩) ?_
   rotate_left
   ·(intro w' _; go_simp <;> with_reducible rfl)
   try simp only [Act.put, List.setIfInBounds_toArray, List.set_cons_zero, List.set_cons_succ]
   refine wpAnyF_load (i := 3) (v := ?_) (by (simp only [List.getElem?_toArray, List.getElem?_cons_succ, List.getElem?_cons_zero]; rfl)) (by kernel_rfl) (by kernel_rfl) (by kernel_rfl) (by decide) (by exact fun _ _ _ h => h) hHeld (by kernel_rfl) (by kernel_rfl) (Or.inl ⟨by rfl, ?_⟩) ?_
   rotate_left
   ·(intro w' hSw; (try dsimp only at hSw); obtain ⟨hSb0, hSb1, hSb2, hSb3⟩ := hSw; go_simp <;> with_reducible rfl)
   try simp only [Act.put, List.setIfInBounds_toArray, List.set_cons_zero, List.set_cons_succ]
   refine wpAnyF_load (i := 4) (v := ?_) (by (simp only [List.getElem?_toArray, List.getElem?_cons_succ, List.getElem?_cons_zero]; rfl)) (by kernel_rfl) (by kernel_rfl) (by kernel_rfl) (by decide) (by exact fun _ _ _ h => h) hHeld (by kernel_rfl) (by kernel_rfl) (Or.inl ⟨by rfl, ?_⟩) ?_
   rotate_left
   ·(intro w' hSw; (try dsimp only at hSw); obtain ⟨hSb0, hSb1, hSb2, hSb3⟩ := hSw; go_simp <;> with_reducible rfl)
   try simp only [Act.put, List.setIfInBounds_toArray, List.set_cons_zero, List.set_cons_succ]
   refine wpAnyF_take (i := 5) (v := ?_) (by (simp only [List.getElem?_toArray, List.getElem?_cons_succ, List.getElem?_cons_zero]; rfl)) (by kernel_rfl) (by kernel_rfl) (by kernel_rfl) (by decide) (by exact fun _ _ _ h => h) ⟨hHeld.1, .inr hHeld.2⟩ (Or.inl ⟨by rfl, ?_⟩) ?_
   rotate_left
   ·(intro w' _; go_simp <;> with_reducible rfl)
   try simp only [Act.put, List.setIfInBounds_toArray, List.set_cons_zero, List.set_cons_succ]
   refine wpAnyF_ready (rs := [6]) (by kernel_rfl) (by simp) ?_
   refine AllReadyF.last (by (simp only [List.getElem?_toArray, List.getElem?_cons_succ, List.getElem?_cons_zero]; rfl)) (by kernel_rfl) (fun K hK => ?_) AllReadyF.nil
   go_simp
   refine hK.out _ _ trivial ?_
   clear hK K
   try simp only [Act.put, List.setIfInBounds_toArray, List.set_cons_zero, List.set_cons_succ]
   refine wpAnyF_done (by kernel_rfl) ?_ _
   have st1 := hrd.stored 3 (.int .i64 L[0].k)
   have st2 := st1.1.stored 4 (.int .i64 L[0].a)
   have st3 := st2.1.stored 5 (.int .i64 L[0].v)
   have hes := evs_set L3 1 L[0] hb3
   simp only [Nat.one_mul] at hes
   rw [hes] at st3
   have sf := sd.row hui (es' := L3.set 1 L[0]) ((st1.2.trans st2.2).trans st3.2) (by rw [List.length_set, HL3.out]; exact st3.1)
   go_wp2
   refine bodyPost_ret (v := .tuple #[.slice (some ⟨gt, 0, none⟩) 4 4, .slice E0 os.length cE]) (by simp [results, Try.results34, go_sem]) rfl ?_
   exact sf.tell rfl (by omega) (set_few (set_few (fun x hx => by have := HT.out x hx; omega) (by have := HL3.out; omega)) (by rw [List.length_set]; have := HL3.out; omega)) (by omega) (fun x hx => by have := (HI.out x hx).2; omega)
  ·skip
   go_wp2
   refine bodyPost_ret (v := .tuple #[.slice (some ⟨gt, 0, none⟩) 4 4, .slice E0 os.length cE]) (by simp [results, Try.results34, go_sem]) rfl ?_
   exact s8.tell rfl (by omega) (fun x hx => by have := HT.out x hx; omega) (by omega) (fun x hx => by have := (HI.out x hx).2; omega)
 by_cases e5 : q = 5
 ·subst e5
  go_wp2_with fail
  refine (l1Chance_any g (k3 + 1 + 1) 3 A c l _ s8.src (by omega) (by omega) (by omega)).mono ?_
  rintro e w9 ⟨bo, rfl, S9, g9⟩
  have s9 := s8.went S9 g9
  clear s8 S9 g9 hc8
  cases bo
  ·skip
   go_wp2
   refine bodyPost_ret (v := .tuple #[.slice (some ⟨gt, 0, none⟩) 4 4, .slice E0 os.length cE]) (by simp [results, Try.results34, go_sem]) rfl ?_
   exact s9.tell rfl (by omega) (fun x hx => by have := HT.out x hx; omega) (by omega) (fun x hx => by have := (HI.out x hx).2; omega)
  ·go_wp2_with fail
   refine (bentK g (k3 + 1 + 1 + 1) A c l _ s9.src (by omega)).mono ?_
   rintro e w10 ⟨t', D, d, rfl, ht5, hall, hT, k2, hk2, S10, g10⟩
   have rT := hT w10 (World.grownBy.refl _ _)
   have oW := s9.oW.kept g10 (fun b e => by cases e; exact hgl)
   have G10 := s9.gr.trans g10
   clear hT
   go_wp2
   refine bodyPost_ret (v := .tuple #[.slice D t'.length d, .slice E0 os.length cE]) (by simp [results, Try.results34, go_sem]) rfl ?_
   exact ⟨t', os, D, E0, d, cE, rfl, ht5, fun x hx => by have := hall x hx; omega, by omega, fun x hx => by have := (HI.out x hx).2; omega, rT, oW.rd, k2, by omega, S10, G10⟩
 go_wp2
 refine bodyPost_ret (v := .tuple #[.slice (some ⟨gt, 0, none⟩) 4 4, .slice E0 os.length cE]) (by simp [results, Try.results34, go_sem]) rfl ?_
 exact s8.tell rfl (by omega) (fun x hx => by have := HT.out x hx; omega) (by omega) (fun x hx => by have := (HI.out x hx).2; omega)
end Go.Proofs.Ytnnfkmjhaljplaa
