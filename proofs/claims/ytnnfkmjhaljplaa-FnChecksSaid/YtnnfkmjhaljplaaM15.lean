/- What the laws' walks rest upon, part 15. -/
import Derived.Test.YtnnfkmjhaljplaaM12
import Derived.Test.YtnnfkmjhaljplaaM14
import Derived.Test.YtnnfkmjhaljplaaM11
import Derived.Deep.RegionHeld3
import Derived.Deep.DeepCutAuto
namespace Go.Proofs.Ytnnfkmjhaljplaa
open Go.RowKit
set_option maxRecDepth 100000 in
set_option maxHeartbeats 8000000 in
theorem l2Bent_any (g k : Nat) (A : Option Addr) (c : Nat) (l : List Int) (w : World) (hS : Src w g A c l k) (hk : k ≤ 200) :
  Calls Try.prog 82 #[.pointer (some ⟨g, 0, none⟩)] w (BentPost w g A c l k) := by
 obtain ⟨i0, hi, hz0, hz1, hz2⟩ := info_parts info_event
 obtain ⟨j0, hj, hy0, hy1, hy2⟩ := info_parts info_events
 have hgl := hS.lt
 go_enter Try.func82, Try.ntmps82
 go_wp2_with fail
 refine (l2Trace_any g k 8 A c l _ hS hk (by omega)).mono ?_
 rintro e w1 ⟨t, us, D, d, rfl, ht1, ht4, hall, oT, k1, hk1, S1, G1⟩
 go_wp2_with fail
 refine (l1Next_any g k1 _ A c l _ S1 (by omega) (by omega) (by omega)).mono ?_
 rintro e w2 ⟨r, rfl, h0, h1, S2, g2⟩
 have hr : r < t.length := by omega
 obtain ⟨at_, rfl⟩ := Int.eq_ofNat_of_zero_le h0
 have hat : at_ < t.length := by omega
 have oT2 := oT.kept g2 (fun b e => by simp at e; omega)
 have G2 := G1.trans g2
 clear g2 h1 hr oT G1 S1
 go_wp2_with fail
 refine (l1Next_any g (k1 + 1) 14 A c l _ S2 (by omega) (by omega) (by omega)).mono ?_
 rintro e w3 ⟨s, rfl, hs0, hs1, S3, g3⟩
 have oT3 := oT2.kept g3 (fun b e => by simp at e; omega)
 have G3 := G2.trans g3
 have z3 := G3.size
 clear g3 hs1 oT2 G2 S2
 obtain ⟨gv, rfl⟩ : ∃ gv, D = some ⟨gv, 0, none⟩ := by
  rcases oT3.row.2 with ⟨h', h''⟩ | ⟨g, cap, cur, h', _⟩
  ·omega
  ·simp only [Value.slice.injEq, true_and] at h'
   exact ⟨g, h'.1⟩
 have hgv := oT3.row.lt gv rfl
 obtain ⟨u, hu, hown, hu3⟩ := oT3.rows at_ hat
 have hf := oT3.row.frozenAt at_
 have hc : w3.cell? ⟨gv, at_, none⟩ = some u := by
  rw [oT3.row.cellAt at_ (by omega)]
  exact hu
 have hall20 : ∀ x ∈ t, x.length ≤ 20 := fun x hx => by have := hall x hx; omega
 by_cases e0 : s = 0
 ·subst e0
  obtain ⟨Au, cu, rfl⟩ := own_shape hown
  have hl8 := hall _ (List.getElem_mem hat)
  have M0 : Mid w3 g A c l (k1 + 2) [] w3 := Mid.start S3
  have hk350 : k1 ≤ 450 := by omega
  have mc : ∀ (w' : World) (k' : Nat) (L : List (Nat × List Int)), Mid w3 g A c l k' L w' → w'.cell? ⟨gv, at_, none⟩ = some (.slice Au t[at_].length cu) := fun w' k' L M => M.gr.cell hc (by simp; omega)
  have MC := hide mc
  have ot : ∀ (w' : World) (k' : Nat) (L : List (Nat × List Int)), Mid w3 g A c l k' L w' → w'.ownsRow w.heap.size 81 3 (.slice Au t[at_].length cu) t[at_].length (evs t[at_]) := fun w' k' L M => hown.kept M.gr (own_sep fun b hb e => by have := hown.lt b hb; simp at e; omega)
  have OT := hide ot
  clear ot
  clear mc hc hf
  have hc := MC.out _ _ _ M0
  go_wp2_with fail
  have M := Mid.dr M0
  refine wp_region_E 17 (fun w' => w'.cell? ⟨gv, at_, none⟩ = some (.slice Au t[at_].length cu)) (by kernel_rfl) (MC.out _ _ _ M) (fun hHeld => ?_)
  try simp only [Act.put, List.setIfInBounds_toArray, List.set_cons_zero, List.set_cons_succ]
  refine wpAnyE_take (i := 0) (v := ?_) (by (simp only [List.getElem?_toArray, List.getElem?_cons_zero]; rfl)) (by kernel_rfl) (by kernel_rfl) (by kernel_rfl) (by decide) (by exact fun _ _ _ h => h) (.inr hHeld) (Or.inl ⟨by rfl, ?_⟩) ?_
  rotate_left
  ·(intro w' _; go_simp <;> with_reducible rfl)
  try simp only [Act.put, List.setIfInBounds_toArray, List.set_cons_zero, List.set_cons_succ]
  refine wpAnyE_take (i := 1) (v := ?_) (by (simp only [List.getElem?_toArray, List.getElem?_cons_succ, List.getElem?_cons_zero]; rfl)) (by kernel_rfl) (by kernel_rfl) (by kernel_rfl) (by decide) (by exact fun _ _ _ h => h) (.inr hHeld) (Or.inl ⟨by rfl, ?_⟩) ?_
  rotate_left
  ·(intro w' _; go_simp <;> with_reducible rfl)
  try simp only [Act.put, List.setIfInBounds_toArray, List.set_cons_zero, List.set_cons_succ]
  refine wpAnyE_take (i := 2) (v := ?_) (by (simp only [List.getElem?_toArray, List.getElem?_cons_succ, List.getElem?_cons_zero]; rfl)) (by kernel_rfl) (by kernel_rfl) (by kernel_rfl) (by decide) (by exact fun _ _ _ h => h) (.inr hHeld) (Or.inl ⟨by rfl, ?_⟩) ?_
  rotate_left
  ·(intro w' _; go_simp <;> with_reducible rfl)
  try simp only [Act.put, List.setIfInBounds_toArray, List.set_cons_zero, List.set_cons_succ]
  refine wpAnyE_take (i := 3) (v := ?_) (by (simp only [List.getElem?_toArray, List.getElem?_cons_succ, List.getElem?_cons_zero]; rfl)) (by kernel_rfl) (by kernel_rfl) (by kernel_rfl) (by decide) (by exact fun _ _ _ h => h) (.inr hHeld) (Or.inl ⟨by rfl, ?_⟩) ?_
  rotate_left
  ·(intro w' _; go_simp <;> with_reducible rfl)
  try simp only [Act.put, List.setIfInBounds_toArray, List.set_cons_zero, List.set_cons_succ]
  refine wpAnyE_take (i := 6) (v := ?_) (by (simp only [List.getElem?_toArray, List.getElem?_cons_succ, List.getElem?_cons_zero]; rfl)) (by kernel_rfl) (by kernel_rfl) (by kernel_rfl) (by decide) (by exact fun _ _ _ h => h) (.inr hHeld) (Or.inl ⟨by rfl, ?_⟩) ?_
  rotate_left
  ·(intro w' _; go_simp <;> with_reducible rfl)
  try simp only [Act.put, List.setIfInBounds_toArray, List.set_cons_zero, List.set_cons_succ]
  refine wpAnyE_take (i := 9) (v := ?_) (by (simp only [List.getElem?_toArray, List.getElem?_cons_succ, List.getElem?_cons_zero]; rfl)) (by kernel_rfl) (by kernel_rfl) (by kernel_rfl) (by decide) (by exact fun _ _ _ h => h) (.inr hHeld) (Or.inl ⟨by rfl, ?_⟩) ?_
  rotate_left
  ·(intro w' _; go_simp <;> with_reducible rfl)
  try simp only [Act.put, List.setIfInBounds_toArray, List.set_cons_zero, List.set_cons_succ]
  refine wpAnyE_take (i := 12) (v := ?_) (by (simp only [List.getElem?_toArray, List.getElem?_cons_succ, List.getElem?_cons_zero]; rfl)) (by kernel_rfl) (by kernel_rfl) (by kernel_rfl) (by decide) (by exact fun _ _ _ h => h) (.inr hHeld) (Or.inl ⟨by rfl, ?_⟩) ?_
  rotate_left
  ·(intro w' _; go_simp <;> with_reducible rfl)
  try simp only [Act.put, List.setIfInBounds_toArray, List.set_cons_zero, List.set_cons_succ]
  refine wpAnyE_take (i := 4) (v := ?_) (by (simp only [List.getElem?_toArray, List.getElem?_cons_succ, List.getElem?_cons_zero]; rfl)) (by kernel_rfl) (by kernel_rfl) (by kernel_rfl) (by decide) (by exact fun _ _ _ h => h) (.inr hHeld) (Or.inl ⟨by rfl, ?_⟩) ?_
  rotate_left
  ·(intro w' _; go_simp <;> with_reducible rfl)
  try simp only [Act.put, List.setIfInBounds_toArray, List.set_cons_zero, List.set_cons_succ]
  refine wpAnyE_load (i := 5) (v := ?_) (by (simp only [List.getElem?_toArray, List.getElem?_cons_succ, List.getElem?_cons_zero]; rfl)) (by kernel_rfl) (by kernel_rfl) (by kernel_rfl) (by decide) (by exact fun _ _ _ h => h) hHeld (by kernel_rfl) (by kernel_rfl) (Or.inl ⟨by rfl, ?_⟩) ?_
  rotate_left
  ·(intro w' hSw; (try dsimp only at hSw); go_simp <;> with_reducible rfl)
  try simp only [Act.put, List.setIfInBounds_toArray, List.set_cons_zero, List.set_cons_succ]
  refine wpAnyE_ready (rs := [7, 10, 13]) (by kernel_rfl) (by simp) ?_
  refine AllReadyE.cons (by (simp only [List.getElem?_toArray, List.getElem?_cons_succ, List.getElem?_cons_zero]; rfl)) (fun K hK => ?_) ?_
  ·skip
   go_simp
   replace M := Mid.al M (-1) 2 1
   refine hK.out _ _ (MC.out _ _ _ M) (fun hNew => ?_)
   replace hHeld := hNew
   clear hK K hNew
   try simp only [Act.put, List.setIfInBounds_toArray, List.set_cons_zero, List.set_cons_succ]
   refine wpAnyE_ready (rs := [8, 10, 13]) (by kernel_rfl) (by simp) ?_
   refine AllReadyE.cons (by (simp only [List.getElem?_toArray, List.getElem?_cons_succ, List.getElem?_cons_zero]; rfl)) (fun K hK => ?_) ?_
   ·skip
    go_simp
    go_at_call 50
    refine (pick_mid (w0 := w3) (A := A) (c := c) (l := l) _ [-1, 2, 1] ⟨_, _, M, by omega, by simp⟩ (by simp) (by simp)).mono ?_
    rintro e wa ⟨r1, rfl, N⟩
    replace M := N _ _ M
    clear N
    refine hK.out _ _ (MC.out _ _ _ M) (fun hNew => ?_)
    replace hHeld := hNew
    clear hK K hNew
    try simp only [Act.put, List.setIfInBounds_toArray, List.set_cons_zero, List.set_cons_succ]
    refine wpAnyE_ready (rs := [10, 13]) (by kernel_rfl) (by simp) ?_
    refine AllReadyE.cons (by (simp only [List.getElem?_toArray, List.getElem?_cons_succ, List.getElem?_cons_zero]; rfl)) (fun K hK => ?_) ?_
    ·skip
     go_simp
     replace M := Mid.al M 0 (-1) 1000000
     refine hK.out _ _ (MC.out _ _ _ M) (fun hNew => ?_)
     replace hHeld := hNew
     clear hK K hNew
     try simp only [Act.put, List.setIfInBounds_toArray, List.set_cons_zero, List.set_cons_succ]
     refine wpAnyE_ready (rs := [11, 13]) (by kernel_rfl) (by simp) ?_
     refine AllReadyE.cons (by (simp only [List.getElem?_toArray, List.getElem?_cons_succ, List.getElem?_cons_zero]; rfl)) (fun K hK => ?_) ?_
     ·skip
      go_simp
      go_at_call 50
      refine (pick_mid (w0 := w3) (A := A) (c := c) (l := l) _ [0, -1, 1000000] ⟨_, _, M, by omega, by simp⟩ (by simp) (by simp)).mono ?_
      rintro e wa ⟨r2, rfl, N⟩
      replace M := N _ _ M
      clear N
      refine hK.out _ _ (MC.out _ _ _ M) (fun hNew => ?_)
      replace hHeld := hNew
      clear hK K hNew
      try simp only [Act.put, List.setIfInBounds_toArray, List.set_cons_zero, List.set_cons_succ]
      refine wpAnyE_ready (rs := [13]) (by kernel_rfl) (by simp) ?_
      refine AllReadyE.cons (by (simp only [List.getElem?_toArray, List.getElem?_cons_succ, List.getElem?_cons_zero]; rfl)) (fun K hK => ?_) AllReadyE.nil
      go_simp
      replace M := Mid.al M 0 1000000 (-1)
      refine hK.out _ _ (MC.out _ _ _ M) (fun hNew => ?_)
      replace hHeld := hNew
      clear hK K hNew
      try simp only [Act.put, List.setIfInBounds_toArray, List.set_cons_zero, List.set_cons_succ]
      refine wpAnyE_ready (rs := [14]) (by kernel_rfl) (by simp) ?_
      refine AllReadyE.cons (by (simp only [List.getElem?_toArray, List.getElem?_cons_succ, List.getElem?_cons_zero]; rfl)) (fun K hK => ?_) AllReadyE.nil
      go_simp
      go_at_call 50
      refine (pick_mid (w0 := w3) (A := A) (c := c) (l := l) _ [0, 1000000, -1] ⟨_, _, M, by omega, by simp⟩ (by simp) (by simp)).mono ?_
      rintro e wa ⟨r3, rfl, N⟩
      replace M := N _ _ M
      clear N
      refine hK.out _ _ (MC.out _ _ _ M) (fun hNew => ?_)
      replace hHeld := hNew
      clear hK K hNew
      try simp only [Act.put, List.setIfInBounds_toArray, List.set_cons_zero, List.set_cons_succ]
      refine wpAnyE_take (i := 15) (v := ?_) (by (simp only [List.getElem?_toArray, List.getElem?_cons_succ, List.getElem?_cons_zero]; rfl)) (by kernel_rfl) (by kernel_rfl) (by kernel_rfl) (by decide) (by exact fun _ _ _ h => h) (.inr hHeld) (Or.inl ⟨by rfl, ?_⟩) ?_
      rotate_left
      ·(intro w' _; go_simp <;> with_reducible rfl)
      try simp only [Act.put, List.setIfInBounds_toArray, List.set_cons_zero, List.set_cons_succ]
      refine wpAnyE_ready (rs := [16]) (by kernel_rfl) (by simp) ?_
      refine AllReadyE.cons (by (simp only [List.getElem?_toArray, List.getElem?_cons_succ, List.getElem?_cons_zero]; rfl)) (fun K hK => ?_) AllReadyE.nil
      go_simp
      refine hK.out _ _ (MC.out _ _ _ (Mid.ale M _ _ _)) (fun hNew => ?_)
      clear hK K hNew hHeld
      try simp only [Act.put, List.setIfInBounds_toArray, List.set_cons_zero, List.set_cons_succ]
      refine wpAnyE_ready (rs := [17]) (by kernel_rfl) (by simp) ?_
      refine AllReadyE.last (by (simp only [List.getElem?_toArray, List.getElem?_cons_succ, List.getElem?_cons_zero]; rfl)) (by kernel_rfl) (fun K hK => ?_) AllReadyE.nil
      refine step_append_re _ (by rfl) (.tmp 20) (.tmp 31) 79 (by rfl) w.heap.size 81 i0 (.agg #[.int .i64 0, .int .i64 0, .int .i64 0]) 24 Try.underlying79 hi hz0 hz1 hz2 rfl (.slice Au t[at_].length cu) t[at_].length (evs t[at_]) (by rfl) ((OT.out _ _ _ M).alloc _) (some ⟨wa.heap.size, 0, none⟩) [⟨r1, r2, r3⟩] 1 _ (by rfl) (rdE_new wa ⟨r1, r2, r3⟩ _) (by unfold maxLen; simp only [List.length_singleton]; omega) (by simp only [List.length_singleton]; omega) (by have := M.gr.size; simp; omega) ?_
      intro v5 w5 o5 g5 hat5
      have M4 := M.ale r1 r2 r3
      have ot4 := oT3.kept M4.gr (fun b e => by (simp at e; omega))
      have rk := ot4.row.kept g5 (own_sep fun b hb e => by (simp only [Value.ownBlock, Option.some.injEq] at hb; subst hb; exact hu3 _ e rfl))
      have hf5 := rk.frozenAt at_
      have hc5 : w5.cell? ⟨gv, at_, none⟩ = some (.slice Au t[at_].length cu) := (by rw [rk.cellAt at_ (by omega)]; exact hu)
      obtain ⟨D5, d5, hv5⟩ := own_shape o5
      rw [hv5] at o5 hat5
      rw [hv5]
      have HG := hide g5
      have HAT := hide hat5
      have HO := hide o5
      have OT4 := hide ot4
      clear g5 hat5 hv5 o5 rk ot4
      refine hK.out _ _ ?_
      clear hK K
      try simp only [Act.put, List.setIfInBounds_toArray, List.set_cons_zero, List.set_cons_succ]
      refine wpAnyE_take (i := 18) (v := ?_) (by (simp only [List.getElem?_toArray, List.getElem?_cons_succ, List.getElem?_cons_zero]; rfl)) (by kernel_rfl) (by kernel_rfl) (by kernel_rfl) (by decide) (by exact fun _ _ _ h => h) (.inl (by kernel_rfl)) (Or.inl ⟨by rfl, ?_⟩) ?_
      rotate_left
      ·(intro w' _; go_simp <;> with_reducible rfl)
      try simp only [Act.put, List.setIfInBounds_toArray, List.set_cons_zero, List.set_cons_succ]
      refine wpAnyE_ready (rs := [19]) (by kernel_rfl) (by simp) ?_
      refine AllReadyE.last (by (simp only [List.getElem?_toArray, List.getElem?_cons_succ, List.getElem?_cons_zero]; rfl)) (by kernel_rfl) (fun K hK => ?_) AllReadyE.nil
      go_simp
      refine hK.out _ _ ?_
      clear hK K
      try simp only [Act.put, List.setIfInBounds_toArray, List.set_cons_zero, List.set_cons_succ]
      refine wpAnyE_done (by kernel_rfl) ?_ _
      go_wp2
      go_ret
      have oS := OT4.out.swap (es' := t[at_] ++ [⟨r1, r2, r3⟩]) hu HG.out (fun b e => .inl e) (by rw [List.length_append, evs_append]; exact HO.out) (fun b hb => by
       rcases HAT.out with e | e
       ·exact .inl (e.symm.trans hb)
       ·rw [e] at hb; simp only [Option.some.injEq] at hb; exact .inr (Nat.le_of_eq hb))
      have rw4 := OT.out _ _ _ M4
      have G5 := grown_new (p := ⟨gv, at_, none⟩) hgv.1 (.slice D5 (t[at_].length + 1) d5) ((G3.trans M4.gr).andThen HG.out (fun j hj => .inl (rw4.lt j hj).1))
      have hb5 := grown_below rw4 HG.out (by have := M4.gr.size; omega) (Nat.le_refl _)
      have S5 := (M4.src.below hb5 hgl).below (B := w.heap.size) ((Below.refl _ _).setCell (p := ⟨gv, at_, none⟩) hgv.1 (.slice D5 (t[at_].length + 1) d5)) hgl
      exact ⟨t.set at_ (t[at_] ++ [⟨r1, r2, r3⟩]), some ⟨gv, 0, none⟩, d, (by rw [List.length_set]; rfl), by rw [List.length_set]; omega, set_len hall20 (by rw [List.length_append]; simp; omega), fun w2 hg => (oS.kept hg (fun b e => by simp at e; omega)).rd_ (by rw [List.length_set]), k1 + 2 + 1 + 1 + 1, by omega, S5, G5⟩
     refine AllReadyE.cons (by (simp only [List.getElem?_toArray, List.getElem?_cons_succ, List.getElem?_cons_zero]; rfl)) (fun K hK => ?_) ?_
     ·skip
      go_simp
      replace M := Mid.al M 0 1000000 (-1)
      refine hK.out _ _ (MC.out _ _ _ M) (fun hNew => ?_)
      replace hHeld := hNew
      clear hK K hNew
      try simp only [Act.put, List.setIfInBounds_toArray, List.set_cons_zero, List.set_cons_succ]
      refine wpAnyE_ready (rs := [11]) (by kernel_rfl) (by simp) ?_
      refine AllReadyE.cons (by (simp only [List.getElem?_toArray, List.getElem?_cons_succ, List.getElem?_cons_zero]; rfl)) (fun K hK => ?_) AllReadyE.nil
      go_simp
      go_at_call 50
      refine (pick_mid (w0 := w3) (A := A) (c := c) (l := l) _ [0, -1, 1000000] ⟨_, _, M, by omega, by simp⟩ (by simp) (by simp)).mono ?_
      rintro e wa ⟨r2, rfl, N⟩
      replace M := N _ _ M
      clear N
      refine hK.out _ _ (MC.out _ _ _ M) (fun hNew => ?_)
      replace hHeld := hNew
      clear hK K hNew
      try simp only [Act.put, List.setIfInBounds_toArray, List.set_cons_zero, List.set_cons_succ]
      refine wpAnyE_ready (rs := [14]) (by kernel_rfl) (by simp) ?_
      refine AllReadyE.cons (by (simp only [List.getElem?_toArray, List.getElem?_cons_succ, List.getElem?_cons_zero]; rfl)) (fun K hK => ?_) AllReadyE.nil
      go_simp
      go_at_call 50
      refine (pick_mid (w0 := w3) (A := A) (c := c) (l := l) _ [0, 1000000, -1] ⟨_, _, M, by omega, by simp⟩ (by simp) (by simp)).mono ?_
      rintro e wa ⟨r3, rfl, N⟩
      replace M := N _ _ M
      clear N
      refine hK.out _ _ (MC.out _ _ _ M) (fun hNew => ?_)
      replace hHeld := hNew
      clear hK K hNew
      try simp only [Act.put, List.setIfInBounds_toArray, List.set_cons_zero, List.set_cons_succ]
      refine wpAnyE_take (i := 15) (v := ?_) (by (simp only [List.getElem?_toArray, List.getElem?_cons_succ, List.getElem?_cons_zero]; rfl)) (by kernel_rfl) (by kernel_rfl) (by kernel_rfl) (by decide) (by exact fun _ _ _ h => h) (.inr hHeld) (Or.inl ⟨by rfl, ?_⟩) ?_
      rotate_left
      ·(intro w' _; go_simp <;> with_reducible rfl)
      try simp only [Act.put, List.setIfInBounds_toArray, List.set_cons_zero, List.set_cons_succ]
      refine wpAnyE_ready (rs := [16]) (by kernel_rfl) (by simp) ?_
      refine AllReadyE.cons (by (simp only [List.getElem?_toArray, List.getElem?_cons_succ, List.getElem?_cons_zero]; rfl)) (fun K hK => ?_) AllReadyE.nil
      go_simp
      refine hK.out _ _ (MC.out _ _ _ (Mid.ale M _ _ _)) (fun hNew => ?_)
      clear hK K hNew hHeld
      try simp only [Act.put, List.setIfInBounds_toArray, List.set_cons_zero, List.set_cons_succ]
      refine wpAnyE_ready (rs := [17]) (by kernel_rfl) (by simp) ?_
      refine AllReadyE.last (by (simp only [List.getElem?_toArray, List.getElem?_cons_succ, List.getElem?_cons_zero]; rfl)) (by kernel_rfl) (fun K hK => ?_) AllReadyE.nil
      refine step_append_re _ (by rfl) (.tmp 20) (.tmp 31) 79 (by rfl) w.heap.size 81 i0 (.agg #[.int .i64 0, .int .i64 0, .int .i64 0]) 24 Try.underlying79 hi hz0 hz1 hz2 rfl (.slice Au t[at_].length cu) t[at_].length (evs t[at_]) (by rfl) ((OT.out _ _ _ M).alloc _) (some ⟨wa.heap.size, 0, none⟩) [⟨r1, r2, r3⟩] 1 _ (by rfl) (rdE_new wa ⟨r1, r2, r3⟩ _) (by unfold maxLen; simp only [List.length_singleton]; omega) (by simp only [List.length_singleton]; omega) (by have := M.gr.size; simp; omega) ?_
      intro v5 w5 o5 g5 hat5
      have M4 := M.ale r1 r2 r3
      have ot4 := oT3.kept M4.gr (fun b e => by (simp at e; omega))
      have rk := ot4.row.kept g5 (own_sep fun b hb e => by (simp only [Value.ownBlock, Option.some.injEq] at hb; subst hb; exact hu3 _ e rfl))
      have hf5 := rk.frozenAt at_
      have hc5 : w5.cell? ⟨gv, at_, none⟩ = some (.slice Au t[at_].length cu) := (by rw [rk.cellAt at_ (by omega)]; exact hu)
      obtain ⟨D5, d5, hv5⟩ := own_shape o5
      rw [hv5] at o5 hat5
      rw [hv5]
      have HG := hide g5
      have HAT := hide hat5
      have HO := hide o5
      have OT4 := hide ot4
      clear g5 hat5 hv5 o5 rk ot4
      refine hK.out _ _ ?_
      clear hK K
      try simp only [Act.put, List.setIfInBounds_toArray, List.set_cons_zero, List.set_cons_succ]
      refine wpAnyE_take (i := 18) (v := ?_) (by (simp only [List.getElem?_toArray, List.getElem?_cons_succ, List.getElem?_cons_zero]; rfl)) (by kernel_rfl) (by kernel_rfl) (by kernel_rfl) (by decide) (by exact fun _ _ _ h => h) (.inl (by kernel_rfl)) (Or.inl ⟨by rfl, ?_⟩) ?_
      rotate_left
      ·(intro w' _; go_simp <;> with_reducible rfl)
      try simp only [Act.put, List.setIfInBounds_toArray, List.set_cons_zero, List.set_cons_succ]
      refine wpAnyE_ready (rs := [19]) (by kernel_rfl) (by simp) ?_
      refine AllReadyE.last (by (simp only [List.getElem?_toArray, List.getElem?_cons_succ, List.getElem?_cons_zero]; rfl)) (by kernel_rfl) (fun K hK => ?_) AllReadyE.nil
      go_simp
      refine hK.out _ _ ?_
      clear hK K
      try simp only [Act.put, List.setIfInBounds_toArray, List.set_cons_zero, List.set_cons_succ]
      refine wpAnyE_done (by kernel_rfl) ?_ _
      go_wp2
      go_ret
      have oS := OT4.out.swap (es' := t[at_] ++ [⟨r1, r2, r3⟩]) hu HG.out (fun b e => .inl e) (by rw [List.length_append, evs_append]; exact HO.out) (fun b hb => by
       rcases HAT.out with e | e
       ·exact .inl (e.symm.trans hb)
       ·rw [e] at hb; simp only [Option.some.injEq] at hb; exact .inr (Nat.le_of_eq hb))
      have rw4 := OT.out _ _ _ M4
      have G5 := grown_new (p := ⟨gv, at_, none⟩) hgv.1 (.slice D5 (t[at_].length + 1) d5) ((G3.trans M4.gr).andThen HG.out (fun j hj => .inl (rw4.lt j hj).1))
      have hb5 := grown_below rw4 HG.out (by have := M4.gr.size; omega) (Nat.le_refl _)
      have S5 := (M4.src.below hb5 hgl).below (B := w.heap.size) ((Below.refl _ _).setCell (p := ⟨gv, at_, none⟩) hgv.1 (.slice D5 (t[at_].length + 1) d5)) hgl
      exact ⟨t.set at_ (t[at_] ++ [⟨r1, r2, r3⟩]), some ⟨gv, 0, none⟩, d, (by rw [List.length_set]; rfl), by rw [List.length_set]; omega, set_len hall20 (by rw [List.length_append]; simp; omega), fun w2 hg => (oS.kept hg (fun b e => by simp at e; omega)).rd_ (by rw [List.length_set]), k1 + 2 + 1 + 1 + 1, by omega, S5, G5⟩
     exact AllReadyE.nil
    refine AllReadyE.cons (by (simp only [List.getElem?_toArray, List.getElem?_cons_succ, List.getElem?_cons_zero]; rfl)) (fun K hK => ?_) ?_
    ·skip
     go_simp
     replace M := Mid.al M 0 1000000 (-1)
     refine hK.out _ _ (MC.out _ _ _ M) (fun hNew => ?_)
     replace hHeld := hNew
     clear hK K hNew
     try simp only [Act.put, List.setIfInBounds_toArray, List.set_cons_zero, List.set_cons_succ]
     refine wpAnyE_ready (rs := [10]) (by kernel_rfl) (by simp) ?_
     refine AllReadyE.cons (by (simp only [List.getElem?_toArray, List.getElem?_cons_succ, List.getElem?_cons_zero]; rfl)) (fun K hK => ?_) AllReadyE.nil
     go_simp
     replace M := Mid.al M 0 (-1) 1000000
     refine hK.out _ _ (MC.out _ _ _ M) (fun hNew => ?_)
     replace hHeld := hNew
     clear hK K hNew
     try simp only [Act.put, List.setIfInBounds_toArray, List.set_cons_zero, List.set_cons_succ]
     refine wpAnyE_ready (rs := [11]) (by kernel_rfl) (by simp) ?_
     refine AllReadyE.cons (by (simp only [List.getElem?_toArray, List.getElem?_cons_succ, List.getElem?_cons_zero]; rfl)) (fun K hK => ?_) AllReadyE.nil
     go_simp
     go_at_call 50
     refine (pick_mid (w0 := w3) (A := A) (c := c) (l := l) _ [0, -1, 1000000] ⟨_, _, M, by omega, by simp⟩ (by simp) (by simp)).mono ?_
     rintro e wa ⟨r2, rfl, N⟩
     replace M := N _ _ M
     clear N
     refine hK.out _ _ (MC.out _ _ _ M) (fun hNew => ?_)
     replace hHeld := hNew
     clear hK K hNew
     try simp only [Act.put, List.setIfInBounds_toArray, List.set_cons_zero, List.set_cons_succ]
     refine wpAnyE_ready (rs := [14]) (by kernel_rfl) (by simp) ?_
     refine AllReadyE.cons (by (simp only [List.getElem?_toArray, List.getElem?_cons_succ, List.getElem?_cons_zero]; rfl)) (fun K hK => ?_) AllReadyE.nil
     go_simp
     go_at_call 50
     refine (pick_mid (w0 := w3) (A := A) (c := c) (l := l) _ [0, 1000000, -1] ⟨_, _, M, by omega, by simp⟩ (by simp) (by simp)).mono ?_
     rintro e wa ⟨r3, rfl, N⟩
     replace M := N _ _ M
     clear N
     refine hK.out _ _ (MC.out _ _ _ M) (fun hNew => ?_)
     replace hHeld := hNew
     clear hK K hNew
     try simp only [Act.put, List.setIfInBounds_toArray, List.set_cons_zero, List.set_cons_succ]
     refine wpAnyE_take (i := 15) (v := ?_) (by (simp only [List.getElem?_toArray, List.getElem?_cons_succ, List.getElem?_cons_zero]; rfl)) (by kernel_rfl) (by kernel_rfl) (by kernel_rfl) (by decide) (by exact fun _ _ _ h => h) (.inr hHeld) (Or.inl ⟨by rfl, ?_⟩) ?_
     rotate_left
     ·(intro w' _; go_simp <;> with_reducible rfl)
     try simp only [Act.put, List.setIfInBounds_toArray, List.set_cons_zero, List.set_cons_succ]
     refine wpAnyE_ready (rs := [16]) (by kernel_rfl) (by simp) ?_
     refine AllReadyE.cons (by (simp only [List.getElem?_toArray, List.getElem?_cons_succ, List.getElem?_cons_zero]; rfl)) (fun K hK => ?_) AllReadyE.nil
     go_simp
     refine hK.out _ _ (MC.out _ _ _ (Mid.ale M _ _ _)) (fun hNew => ?_)
     clear hK K hNew hHeld
     try simp only [Act.put, List.setIfInBounds_toArray, List.set_cons_zero, List.set_cons_succ]
     refine wpAnyE_ready (rs := [17]) (by kernel_rfl) (by simp) ?_
     refine AllReadyE.last (by (simp only [List.getElem?_toArray, List.getElem?_cons_succ, List.getElem?_cons_zero]; rfl)) (by kernel_rfl) (fun K hK => ?_) AllReadyE.nil
     refine step_append_re _ (by rfl) (.tmp 20) (.tmp 31) 79 (by rfl) w.heap.size 81 i0 (.agg #[.int .i64 0, .int .i64 0, .int .i64 0]) 24 Try.underlying79 hi hz0 hz1 hz2 rfl (.slice Au t[at_].length cu) t[at_].length (evs t[at_]) (by rfl) ((OT.out _ _ _ M).alloc _) (some ⟨wa.heap.size, 0, none⟩) [⟨r1, r2, r3⟩] 1 _ (by rfl) (rdE_new wa ⟨r1, r2, r3⟩ _) (by unfold maxLen; simp only [List.length_singleton]; omega) (by simp only [List.length_singleton]; omega) (by have := M.gr.size; simp; omega) ?_
     intro v5 w5 o5 g5 hat5
     have M4 := M.ale r1 r2 r3
     have ot4 := oT3.kept M4.gr (fun b e => by (simp at e; omega))
     have rk := ot4.row.kept g5 (own_sep fun b hb e => by (simp only [Value.ownBlock, Option.some.injEq] at hb; subst hb; exact hu3 _ e rfl))
     have hf5 := rk.frozenAt at_
     have hc5 : w5.cell? ⟨gv, at_, none⟩ = some (.slice Au t[at_].length cu) := (by rw [rk.cellAt at_ (by omega)]; exact hu)
     obtain ⟨D5, d5, hv5⟩ := own_shape o5
     rw [hv5] at o5 hat5
     rw [hv5]
     have HG := hide g5
     have HAT := hide hat5
     have HO := hide o5
     have OT4 := hide ot4
     clear g5 hat5 hv5 o5 rk ot4
     refine hK.out _ _ ?_
     clear hK K
     try simp only [Act.put, List.setIfInBounds_toArray, List.set_cons_zero, List.set_cons_succ]
     refine wpAnyE_take (i := 18) (v := ?_) (by (simp only [List.getElem?_toArray, List.getElem?_cons_succ, List.getElem?_cons_zero]; rfl)) (by kernel_rfl) (by kernel_rfl) (by kernel_rfl) (by decide) (by exact fun _ _ _ h => h) (.inl (by kernel_rfl)) (Or.inl ⟨by rfl, ?_⟩) ?_
     rotate_left
     ·(intro w' _; go_simp <;> with_reducible rfl)
     try simp only [Act.put, List.setIfInBounds_toArray, List.set_cons_zero, List.set_cons_succ]
     refine wpAnyE_ready (rs := [19]) (by kernel_rfl) (by simp) ?_
     refine AllReadyE.last (by (simp only [List.getElem?_toArray, List.getElem?_cons_succ, List.getElem?_cons_zero]; rfl)) (by kernel_rfl) (fun K hK => ?_) AllReadyE.nil
     go_simp
     refine hK.out _ _ ?_
     clear hK K
     try simp only [Act.put, List.setIfInBounds_toArray, List.set_cons_zero, List.set_cons_succ]
     refine wpAnyE_done (by kernel_rfl) ?_ _
     go_wp2
     go_ret
     have oS := OT4.out.swap (es' := t[at_] ++ [⟨r1, r2, r3⟩]) hu HG.out (fun b e => .inl e) (by rw [List.length_append, evs_append]; exact HO.out) (fun b hb => by
      rcases HAT.out with e | e
      ·exact .inl (e.symm.trans hb)
      ·rw [e] at hb; simp only [Option.some.injEq] at hb; exact .inr (Nat.le_of_eq hb))
     have rw4 := OT.out _ _ _ M4
     have G5 := grown_new (p := ⟨gv, at_, none⟩) hgv.1 (.slice D5 (t[at_].length + 1) d5) ((G3.trans M4.gr).andThen HG.out (fun j hj => .inl (rw4.lt j hj).1))
     have hb5 := grown_below rw4 HG.out (by have := M4.gr.size; omega) (Nat.le_refl _)
     have S5 := (M4.src.below hb5 hgl).below (B := w.heap.size) ((Below.refl _ _).setCell (p := ⟨gv, at_, none⟩) hgv.1 (.slice D5 (t[at_].length + 1) d5)) hgl
     exact ⟨t.set at_ (t[at_] ++ [⟨r1, r2, r3⟩]), some ⟨gv, 0, none⟩, d, (by rw [List.length_set]; rfl), by rw [List.length_set]; omega, set_len hall20 (by rw [List.length_append]; simp; omega), fun w2 hg => (oS.kept hg (fun b e => by simp at e; omega)).rd_ (by rw [List.length_set]), k1 + 2 + 1 + 1 + 1, by omega, S5, G5⟩
    exact AllReadyE.nil
   refine AllReadyE.cons (by (simp only [List.getElem?_toArray, List.getElem?_cons_succ, List.getElem?_cons_zero]; rfl)) (fun K hK => ?_) ?_
   ·skip
    go_simp
    replace M := Mid.al M 0 (-1) 1000000
    refine hK.out _ _ (MC.out _ _ _ M) (fun hNew => ?_)
    replace hHeld := hNew
    clear hK K hNew
    try simp only [Act.put, List.setIfInBounds_toArray, List.set_cons_zero, List.set_cons_succ]
    refine wpAnyE_ready (rs := [8, 13]) (by kernel_rfl) (by simp) ?_
    refine AllReadyE.cons (by (simp only [List.getElem?_toArray, List.getElem?_cons_succ, List.getElem?_cons_zero]; rfl)) (fun K hK => ?_) ?_
    ·skip
     go_simp
     go_at_call 50
     refine (pick_mid (w0 := w3) (A := A) (c := c) (l := l) _ [-1, 2, 1] ⟨_, _, M, by omega, by simp⟩ (by simp) (by simp)).mono ?_
     rintro e wa ⟨r1, rfl, N⟩
     replace M := N _ _ M
     clear N
     refine hK.out _ _ (MC.out _ _ _ M) (fun hNew => ?_)
     replace hHeld := hNew
     clear hK K hNew
     try simp only [Act.put, List.setIfInBounds_toArray, List.set_cons_zero, List.set_cons_succ]
     refine wpAnyE_ready (rs := [11, 13]) (by kernel_rfl) (by simp) ?_
     refine AllReadyE.cons (by (simp only [List.getElem?_toArray, List.getElem?_cons_succ, List.getElem?_cons_zero]; rfl)) (fun K hK => ?_) ?_
     ·skip
      go_simp
      go_at_call 50
      refine (pick_mid (w0 := w3) (A := A) (c := c) (l := l) _ [0, -1, 1000000] ⟨_, _, M, by omega, by simp⟩ (by simp) (by simp)).mono ?_
      rintro e wa ⟨r2, rfl, N⟩
      replace M := N _ _ M
      clear N
      refine hK.out _ _ (MC.out _ _ _ M) (fun hNew => ?_)
      replace hHeld := hNew
      clear hK K hNew
      try simp only [Act.put, List.setIfInBounds_toArray, List.set_cons_zero, List.set_cons_succ]
      refine wpAnyE_ready (rs := [13]) (by kernel_rfl) (by simp) ?_
      refine AllReadyE.cons (by (simp only [List.getElem?_toArray, List.getElem?_cons_succ, List.getElem?_cons_zero]; rfl)) (fun K hK => ?_) AllReadyE.nil
      go_simp
      replace M := Mid.al M 0 1000000 (-1)
      refine hK.out _ _ (MC.out _ _ _ M) (fun hNew => ?_)
      replace hHeld := hNew
      clear hK K hNew
      try simp only [Act.put, List.setIfInBounds_toArray, List.set_cons_zero, List.set_cons_succ]
      refine wpAnyE_ready (rs := [14]) (by kernel_rfl) (by simp) ?_
      refine AllReadyE.cons (by (simp only [List.getElem?_toArray, List.getElem?_cons_succ, List.getElem?_cons_zero]; rfl)) (fun K hK => ?_) AllReadyE.nil
      go_simp
      go_at_call 50
      refine (pick_mid (w0 := w3) (A := A) (c := c) (l := l) _ [0, 1000000, -1] ⟨_, _, M, by omega, by simp⟩ (by simp) (by simp)).mono ?_
      rintro e wa ⟨r3, rfl, N⟩
      replace M := N _ _ M
      clear N
      refine hK.out _ _ (MC.out _ _ _ M) (fun hNew => ?_)
      replace hHeld := hNew
      clear hK K hNew
      try simp only [Act.put, List.setIfInBounds_toArray, List.set_cons_zero, List.set_cons_succ]
      refine wpAnyE_take (i := 15) (v := ?_) (by (simp only [List.getElem?_toArray, List.getElem?_cons_succ, List.getElem?_cons_zero]; rfl)) (by kernel_rfl) (by kernel_rfl) (by kernel_rfl) (by decide) (by exact fun _ _ _ h => h) (.inr hHeld) (Or.inl ⟨by rfl, ?_⟩) ?_
      rotate_left
      ·(intro w' _; go_simp <;> with_reducible rfl)
      try simp only [Act.put, List.setIfInBounds_toArray, List.set_cons_zero, List.set_cons_succ]
      refine wpAnyE_ready (rs := [16]) (by kernel_rfl) (by simp) ?_
      refine AllReadyE.cons (by (simp only [List.getElem?_toArray, List.getElem?_cons_succ, List.getElem?_cons_zero]; rfl)) (fun K hK => ?_) AllReadyE.nil
      go_simp
      refine hK.out _ _ (MC.out _ _ _ (Mid.ale M _ _ _)) (fun hNew => ?_)
      clear hK K hNew hHeld
      try simp only [Act.put, List.setIfInBounds_toArray, List.set_cons_zero, List.set_cons_succ]
      refine wpAnyE_ready (rs := [17]) (by kernel_rfl) (by simp) ?_
      refine AllReadyE.last (by (simp only [List.getElem?_toArray, List.getElem?_cons_succ, List.getElem?_cons_zero]; rfl)) (by kernel_rfl) (fun K hK => ?_) AllReadyE.nil
      refine step_append_re _ (by rfl) (.tmp 20) (.tmp 31) 79 (by rfl) w.heap.size 81 i0 (.agg #[.int .i64 0, .int .i64 0, .int .i64 0]) 24 Try.underlying79 hi hz0 hz1 hz2 rfl (.slice Au t[at_].length cu) t[at_].length (evs t[at_]) (by rfl) ((OT.out _ _ _ M).alloc _) (some ⟨wa.heap.size, 0, none⟩) [⟨r1, r2, r3⟩] 1 _ (by rfl) (rdE_new wa ⟨r1, r2, r3⟩ _) (by unfold maxLen; simp only [List.length_singleton]; omega) (by simp only [List.length_singleton]; omega) (by have := M.gr.size; simp; omega) ?_
      intro v5 w5 o5 g5 hat5
      have M4 := M.ale r1 r2 r3
      have ot4 := oT3.kept M4.gr (fun b e => by (simp at e; omega))
      have rk := ot4.row.kept g5 (own_sep fun b hb e => by (simp only [Value.ownBlock, Option.some.injEq] at hb; subst hb; exact hu3 _ e rfl))
      have hf5 := rk.frozenAt at_
      have hc5 : w5.cell? ⟨gv, at_, none⟩ = some (.slice Au t[at_].length cu) := (by rw [rk.cellAt at_ (by omega)]; exact hu)
      obtain ⟨D5, d5, hv5⟩ := own_shape o5
      rw [hv5] at o5 hat5
      rw [hv5]
      have HG := hide g5
      have HAT := hide hat5
      have HO := hide o5
      have OT4 := hide ot4
      clear g5 hat5 hv5 o5 rk ot4
      refine hK.out _ _ ?_
      clear hK K
      try simp only [Act.put, List.setIfInBounds_toArray, List.set_cons_zero, List.set_cons_succ]
      refine wpAnyE_take (i := 18) (v := ?_) (by (simp only [List.getElem?_toArray, List.getElem?_cons_succ, List.getElem?_cons_zero]; rfl)) (by kernel_rfl) (by kernel_rfl) (by kernel_rfl) (by decide) (by exact fun _ _ _ h => h) (.inl (by kernel_rfl)) (Or.inl ⟨by rfl, ?_⟩) ?_
      rotate_left
      ·(intro w' _; go_simp <;> with_reducible rfl)
      try simp only [Act.put, List.setIfInBounds_toArray, List.set_cons_zero, List.set_cons_succ]
      refine wpAnyE_ready (rs := [19]) (by kernel_rfl) (by simp) ?_
      refine AllReadyE.last (by (simp only [List.getElem?_toArray, List.getElem?_cons_succ, List.getElem?_cons_zero]; rfl)) (by kernel_rfl) (fun K hK => ?_) AllReadyE.nil
      go_simp
      refine hK.out _ _ ?_
      clear hK K
      try simp only [Act.put, List.setIfInBounds_toArray, List.set_cons_zero, List.set_cons_succ]
      refine wpAnyE_done (by kernel_rfl) ?_ _
      go_wp2
      go_ret
      have oS := OT4.out.swap (es' := t[at_] ++ [⟨r1, r2, r3⟩]) hu HG.out (fun b e => .inl e) (by rw [List.length_append, evs_append]; exact HO.out) (fun b hb => by
       rcases HAT.out with e | e
       ·exact .inl (e.symm.trans hb)
       ·rw [e] at hb; simp only [Option.some.injEq] at hb; exact .inr (Nat.le_of_eq hb))
      have rw4 := OT.out _ _ _ M4
      have G5 := grown_new (p := ⟨gv, at_, none⟩) hgv.1 (.slice D5 (t[at_].length + 1) d5) ((G3.trans M4.gr).andThen HG.out (fun j hj => .inl (rw4.lt j hj).1))
      have hb5 := grown_below rw4 HG.out (by have := M4.gr.size; omega) (Nat.le_refl _)
      have S5 := (M4.src.below hb5 hgl).below (B := w.heap.size) ((Below.refl _ _).setCell (p := ⟨gv, at_, none⟩) hgv.1 (.slice D5 (t[at_].length + 1) d5)) hgl
      exact ⟨t.set at_ (t[at_] ++ [⟨r1, r2, r3⟩]), some ⟨gv, 0, none⟩, d, (by rw [List.length_set]; rfl), by rw [List.length_set]; omega, set_len hall20 (by rw [List.length_append]; simp; omega), fun w2 hg => (oS.kept hg (fun b e => by simp at e; omega)).rd_ (by rw [List.length_set]), k1 + 2 + 1 + 1 + 1, by omega, S5, G5⟩
     refine AllReadyE.cons (by (simp only [List.getElem?_toArray, List.getElem?_cons_succ, List.getElem?_cons_zero]; rfl)) (fun K hK => ?_) ?_
     ·skip
      go_simp
      replace M := Mid.al M 0 1000000 (-1)
      refine hK.out _ _ (MC.out _ _ _ M) (fun hNew => ?_)
      replace hHeld := hNew
      clear hK K hNew
      try simp only [Act.put, List.setIfInBounds_toArray, List.set_cons_zero, List.set_cons_succ]
      refine wpAnyE_ready (rs := [11]) (by kernel_rfl) (by simp) ?_
      refine AllReadyE.cons (by (simp only [List.getElem?_toArray, List.getElem?_cons_succ, List.getElem?_cons_zero]; rfl)) (fun K hK => ?_) AllReadyE.nil
      go_simp
      go_at_call 50
      refine (pick_mid (w0 := w3) (A := A) (c := c) (l := l) _ [0, -1, 1000000] ⟨_, _, M, by omega, by simp⟩ (by simp) (by simp)).mono ?_
      rintro e wa ⟨r2, rfl, N⟩
      replace M := N _ _ M
      clear N
      refine hK.out _ _ (MC.out _ _ _ M) (fun hNew => ?_)
      replace hHeld := hNew
      clear hK K hNew
      try simp only [Act.put, List.setIfInBounds_toArray, List.set_cons_zero, List.set_cons_succ]
      refine wpAnyE_ready (rs := [14]) (by kernel_rfl) (by simp) ?_
      refine AllReadyE.cons (by (simp only [List.getElem?_toArray, List.getElem?_cons_succ, List.getElem?_cons_zero]; rfl)) (fun K hK => ?_) AllReadyE.nil
      go_simp
      go_at_call 50
      refine (pick_mid (w0 := w3) (A := A) (c := c) (l := l) _ [0, 1000000, -1] ⟨_, _, M, by omega, by simp⟩ (by simp) (by simp)).mono ?_
      rintro e wa ⟨r3, rfl, N⟩
      replace M := N _ _ M
      clear N
      refine hK.out _ _ (MC.out _ _ _ M) (fun hNew => ?_)
      replace hHeld := hNew
      clear hK K hNew
      try simp only [Act.put, List.setIfInBounds_toArray, List.set_cons_zero, List.set_cons_succ]
      refine wpAnyE_take (i := 15) (v := ?_) (by (simp only [List.getElem?_toArray, List.getElem?_cons_succ, List.getElem?_cons_zero]; rfl)) (by kernel_rfl) (by kernel_rfl) (by kernel_rfl) (by decide) (by exact fun _ _ _ h => h) (.inr hHeld) (Or.inl ⟨by rfl, ?_⟩) ?_
      rotate_left
      ·(intro w' _; go_simp <;> with_reducible rfl)
      try simp only [Act.put, List.setIfInBounds_toArray, List.set_cons_zero, List.set_cons_succ]
      refine wpAnyE_ready (rs := [16]) (by kernel_rfl) (by simp) ?_
      refine AllReadyE.cons (by (simp only [List.getElem?_toArray, List.getElem?_cons_succ, List.getElem?_cons_zero]; rfl)) (fun K hK => ?_) AllReadyE.nil
      go_simp
      refine hK.out _ _ (MC.out _ _ _ (Mid.ale M _ _ _)) (fun hNew => ?_)
      clear hK K hNew hHeld
      try simp only [Act.put, List.setIfInBounds_toArray, List.set_cons_zero, List.set_cons_succ]
      refine wpAnyE_ready (rs := [17]) (by kernel_rfl) (by simp) ?_
      refine AllReadyE.last (by (simp only [List.getElem?_toArray, List.getElem?_cons_succ, List.getElem?_cons_zero]; rfl)) (by kernel_rfl) (fun K hK => ?_) AllReadyE.nil
      refine step_append_re _ (by rfl) (.tmp 20) (.tmp 31) 79 (by rfl) w.heap.size 81 i0 (.agg #[.int .i64 0, .int .i64 0, .int .i64 0]) 24 Try.underlying79 hi hz0 hz1 hz2 rfl (.slice Au t[at_].length cu) t[at_].length (evs t[at_]) (by rfl) ((OT.out _ _ _ M).alloc _) (some ⟨wa.heap.size, 0, none⟩) [⟨r1, r2, r3⟩] 1 _ (by rfl) (rdE_new wa ⟨r1, r2, r3⟩ _) (by unfold maxLen; simp only [List.length_singleton]; omega) (by simp only [List.length_singleton]; omega) (by have := M.gr.size; simp; omega) ?_
      intro v5 w5 o5 g5 hat5
      have M4 := M.ale r1 r2 r3
      have ot4 := oT3.kept M4.gr (fun b e => by (simp at e; omega))
      have rk := ot4.row.kept g5 (own_sep fun b hb e => by (simp only [Value.ownBlock, Option.some.injEq] at hb; subst hb; exact hu3 _ e rfl))
      have hf5 := rk.frozenAt at_
      have hc5 : w5.cell? ⟨gv, at_, none⟩ = some (.slice Au t[at_].length cu) := (by rw [rk.cellAt at_ (by omega)]; exact hu)
      obtain ⟨D5, d5, hv5⟩ := own_shape o5
      rw [hv5] at o5 hat5
      rw [hv5]
      have HG := hide g5
      have HAT := hide hat5
      have HO := hide o5
      have OT4 := hide ot4
      clear g5 hat5 hv5 o5 rk ot4
      refine hK.out _ _ ?_
      clear hK K
      try simp only [Act.put, List.setIfInBounds_toArray, List.set_cons_zero, List.set_cons_succ]
      refine wpAnyE_take (i := 18) (v := ?_) (by (simp only [List.getElem?_toArray, List.getElem?_cons_succ, List.getElem?_cons_zero]; rfl)) (by kernel_rfl) (by kernel_rfl) (by kernel_rfl) (by decide) (by exact fun _ _ _ h => h) (.inl (by kernel_rfl)) (Or.inl ⟨by rfl, ?_⟩) ?_
      rotate_left
      ·(intro w' _; go_simp <;> with_reducible rfl)
      try simp only [Act.put, List.setIfInBounds_toArray, List.set_cons_zero, List.set_cons_succ]
      refine wpAnyE_ready (rs := [19]) (by kernel_rfl) (by simp) ?_
      refine AllReadyE.last (by (simp only [List.getElem?_toArray, List.getElem?_cons_succ, List.getElem?_cons_zero]; rfl)) (by kernel_rfl) (fun K hK => ?_) AllReadyE.nil
      go_simp
      refine hK.out _ _ ?_
      clear hK K
      try simp only [Act.put, List.setIfInBounds_toArray, List.set_cons_zero, List.set_cons_succ]
      refine wpAnyE_done (by kernel_rfl) ?_ _
      go_wp2
      go_ret
      have oS := OT4.out.swap (es' := t[at_] ++ [⟨r1, r2, r3⟩]) hu HG.out (fun b e => .inl e) (by rw [List.length_append, evs_append]; exact HO.out) (fun b hb => by
       rcases HAT.out with e | e
       ·exact .inl (e.symm.trans hb)
       ·rw [e] at hb; simp only [Option.some.injEq] at hb; exact .inr (Nat.le_of_eq hb))
      have rw4 := OT.out _ _ _ M4
      have G5 := grown_new (p := ⟨gv, at_, none⟩) hgv.1 (.slice D5 (t[at_].length + 1) d5) ((G3.trans M4.gr).andThen HG.out (fun j hj => .inl (rw4.lt j hj).1))
      have hb5 := grown_below rw4 HG.out (by have := M4.gr.size; omega) (Nat.le_refl _)
      have S5 := (M4.src.below hb5 hgl).below (B := w.heap.size) ((Below.refl _ _).setCell (p := ⟨gv, at_, none⟩) hgv.1 (.slice D5 (t[at_].length + 1) d5)) hgl
      exact ⟨t.set at_ (t[at_] ++ [⟨r1, r2, r3⟩]), some ⟨gv, 0, none⟩, d, (by rw [List.length_set]; rfl), by rw [List.length_set]; omega, set_len hall20 (by rw [List.length_append]; simp; omega), fun w2 hg => (oS.kept hg (fun b e => by simp at e; omega)).rd_ (by rw [List.length_set]), k1 + 2 + 1 + 1 + 1, by omega, S5, G5⟩
     exact AllReadyE.nil
    refine AllReadyE.cons (by (simp only [List.getElem?_toArray, List.getElem?_cons_succ, List.getElem?_cons_zero]; rfl)) (fun K hK => ?_) ?_
    ·skip
     go_simp
     replace M := Mid.al M 0 1000000 (-1)
     refine hK.out _ _ (MC.out _ _ _ M) (fun hNew => ?_)
     replace hHeld := hNew
     clear hK K hNew
     try simp only [Act.put, List.setIfInBounds_toArray, List.set_cons_zero, List.set_cons_succ]
     refine wpAnyE_ready (rs := [8]) (by kernel_rfl) (by simp) ?_
     refine AllReadyE.cons (by (simp only [List.getElem?_toArray, List.getElem?_cons_succ, List.getElem?_cons_zero]; rfl)) (fun K hK => ?_) AllReadyE.nil
     go_simp
     go_at_call 50
     refine (pick_mid (w0 := w3) (A := A) (c := c) (l := l) _ [-1, 2, 1] ⟨_, _, M, by omega, by simp⟩ (by simp) (by simp)).mono ?_
     rintro e wa ⟨r1, rfl, N⟩
     replace M := N _ _ M
     clear N
     refine hK.out _ _ (MC.out _ _ _ M) (fun hNew => ?_)
     replace hHeld := hNew
     clear hK K hNew
     try simp only [Act.put, List.setIfInBounds_toArray, List.set_cons_zero, List.set_cons_succ]
     refine wpAnyE_ready (rs := [11]) (by kernel_rfl) (by simp) ?_
     refine AllReadyE.cons (by (simp only [List.getElem?_toArray, List.getElem?_cons_succ, List.getElem?_cons_zero]; rfl)) (fun K hK => ?_) AllReadyE.nil
     go_simp
     go_at_call 50
     refine (pick_mid (w0 := w3) (A := A) (c := c) (l := l) _ [0, -1, 1000000] ⟨_, _, M, by omega, by simp⟩ (by simp) (by simp)).mono ?_
     rintro e wa ⟨r2, rfl, N⟩
     replace M := N _ _ M
     clear N
     refine hK.out _ _ (MC.out _ _ _ M) (fun hNew => ?_)
     replace hHeld := hNew
     clear hK K hNew
     try simp only [Act.put, List.setIfInBounds_toArray, List.set_cons_zero, List.set_cons_succ]
     refine wpAnyE_ready (rs := [14]) (by kernel_rfl) (by simp) ?_
     refine AllReadyE.cons (by (simp only [List.getElem?_toArray, List.getElem?_cons_succ, List.getElem?_cons_zero]; rfl)) (fun K hK => ?_) AllReadyE.nil
     go_simp
     go_at_call 50
     refine (pick_mid (w0 := w3) (A := A) (c := c) (l := l) _ [0, 1000000, -1] ⟨_, _, M, by omega, by simp⟩ (by simp) (by simp)).mono ?_
     rintro e wa ⟨r3, rfl, N⟩
     replace M := N _ _ M
     clear N
     refine hK.out _ _ (MC.out _ _ _ M) (fun hNew => ?_)
     replace hHeld := hNew
     clear hK K hNew
     try simp only [Act.put, List.setIfInBounds_toArray, List.set_cons_zero, List.set_cons_succ]
     refine wpAnyE_take (i := 15) (v := ?_) (by (simp only [List.getElem?_toArray, List.getElem?_cons_succ, List.getElem?_cons_zero]; rfl)) (by kernel_rfl) (by kernel_rfl) (by kernel_rfl) (by decide) (by exact fun _ _ _ h => h) (.inr hHeld) (Or.inl ⟨by rfl, ?_⟩) ?_
     rotate_left
     ·(intro w' _; go_simp <;> with_reducible rfl)
     try simp only [Act.put, List.setIfInBounds_toArray, List.set_cons_zero, List.set_cons_succ]
     refine wpAnyE_ready (rs := [16]) (by kernel_rfl) (by simp) ?_
     refine AllReadyE.cons (by (simp only [List.getElem?_toArray, List.getElem?_cons_succ, List.getElem?_cons_zero]; rfl)) (fun K hK => ?_) AllReadyE.nil
     go_simp
     refine hK.out _ _ (MC.out _ _ _ (Mid.ale M _ _ _)) (fun hNew => ?_)
     clear hK K hNew hHeld
     try simp only [Act.put, List.setIfInBounds_toArray, List.set_cons_zero, List.set_cons_succ]
     refine wpAnyE_ready (rs := [17]) (by kernel_rfl) (by simp) ?_
     refine AllReadyE.last (by (simp only [List.getElem?_toArray, List.getElem?_cons_succ, List.getElem?_cons_zero]; rfl)) (by kernel_rfl) (fun K hK => ?_) AllReadyE.nil
     refine step_append_re _ (by rfl) (.tmp 20) (.tmp 31) 79 (by rfl) w.heap.size 81 i0 (.agg #[.int .i64 0, .int .i64 0, .int .i64 0]) 24 Try.underlying79 hi hz0 hz1 hz2 rfl (.slice Au t[at_].length cu) t[at_].length (evs t[at_]) (by rfl) ((OT.out _ _ _ M).alloc _) (some ⟨wa.heap.size, 0, none⟩) [⟨r1, r2, r3⟩] 1 _ (by rfl) (rdE_new wa ⟨r1, r2, r3⟩ _) (by unfold maxLen; simp only [List.length_singleton]; omega) (by simp only [List.length_singleton]; omega) (by have := M.gr.size; simp; omega) ?_
     intro v5 w5 o5 g5 hat5
     have M4 := M.ale r1 r2 r3
     have ot4 := oT3.kept M4.gr (fun b e => by (simp at e; omega))
     have rk := ot4.row.kept g5 (own_sep fun b hb e => by (simp only [Value.ownBlock, Option.some.injEq] at hb; subst hb; exact hu3 _ e rfl))
     have hf5 := rk.frozenAt at_
     have hc5 : w5.cell? ⟨gv, at_, none⟩ = some (.slice Au t[at_].length cu) := (by rw [rk.cellAt at_ (by omega)]; exact hu)
     obtain ⟨D5, d5, hv5⟩ := own_shape o5
     rw [hv5] at o5 hat5
     rw [hv5]
     have HG := hide g5
     have HAT := hide hat5
     have HO := hide o5
     have OT4 := hide ot4
     clear g5 hat5 hv5 o5 rk ot4
     refine hK.out _ _ ?_
     clear hK K
     try simp only [Act.put, List.setIfInBounds_toArray, List.set_cons_zero, List.set_cons_succ]
     refine wpAnyE_take (i := 18) (v := ?_) (by (simp only [List.getElem?_toArray, List.getElem?_cons_succ, List.getElem?_cons_zero]; rfl)) (by kernel_rfl) (by kernel_rfl) (by kernel_rfl) (by decide) (by exact fun _ _ _ h => h) (.inl (by kernel_rfl)) (Or.inl ⟨by rfl, ?_⟩) ?_
     rotate_left
     ·(intro w' _; go_simp <;> with_reducible rfl)
     try simp only [Act.put, List.setIfInBounds_toArray, List.set_cons_zero, List.set_cons_succ]
     refine wpAnyE_ready (rs := [19]) (by kernel_rfl) (by simp) ?_
     refine AllReadyE.last (by (simp only [List.getElem?_toArray, List.getElem?_cons_succ, List.getElem?_cons_zero]; rfl)) (by kernel_rfl) (fun K hK => ?_) AllReadyE.nil
     go_simp
     refine hK.out _ _ ?_
     clear hK K
     try simp only [Act.put, List.setIfInBounds_toArray, List.set_cons_zero, List.set_cons_succ]
     refine wpAnyE_done (by kernel_rfl) ?_ _
     go_wp2
     go_ret
     have oS := OT4.out.swap (es' := t[at_] ++ [⟨r1, r2, r3⟩]) hu HG.out (fun b e => .inl e) (by rw [List.length_append, evs_append]; exact HO.out) (fun b hb => by
      rcases HAT.out with e | e
      ·exact .inl (e.symm.trans hb)
      ·rw [e] at hb; simp only [Option.some.injEq] at hb; exact .inr (Nat.le_of_eq hb))
     have rw4 := OT.out _ _ _ M4
     have G5 := grown_new (p := ⟨gv, at_, none⟩) hgv.1 (.slice D5 (t[at_].length + 1) d5) ((G3.trans M4.gr).andThen HG.out (fun j hj => .inl (rw4.lt j hj).1))
     have hb5 := grown_below rw4 HG.out (by have := M4.gr.size; omega) (Nat.le_refl _)
     have S5 := (M4.src.below hb5 hgl).below (B := w.heap.size) ((Below.refl _ _).setCell (p := ⟨gv, at_, none⟩) hgv.1 (.slice D5 (t[at_].length + 1) d5)) hgl
     exact ⟨t.set at_ (t[at_] ++ [⟨r1, r2, r3⟩]), some ⟨gv, 0, none⟩, d, (by rw [List.length_set]; rfl), by rw [List.length_set]; omega, set_len hall20 (by rw [List.length_append]; simp; omega), fun w2 hg => (oS.kept hg (fun b e => by simp at e; omega)).rd_ (by rw [List.length_set]), k1 + 2 + 1 + 1 + 1, by omega, S5, G5⟩
    exact AllReadyE.nil
   refine AllReadyE.cons (by (simp only [List.getElem?_toArray, List.getElem?_cons_succ, List.getElem?_cons_zero]; rfl)) (fun K hK => ?_) ?_
   ·skip
    go_simp
    replace M := Mid.al M 0 1000000 (-1)
    refine hK.out _ _ (MC.out _ _ _ M) (fun hNew => ?_)
    replace hHeld := hNew
    clear hK K hNew
    try simp only [Act.put, List.setIfInBounds_toArray, List.set_cons_zero, List.set_cons_succ]
    refine wpAnyE_ready (rs := [8, 10]) (by kernel_rfl) (by simp) ?_
    refine AllReadyE.cons (by (simp only [List.getElem?_toArray, List.getElem?_cons_succ, List.getElem?_cons_zero]; rfl)) (fun K hK => ?_) ?_
    ·skip
     go_simp
     go_at_call 50
     refine (pick_mid (w0 := w3) (A := A) (c := c) (l := l) _ [-1, 2, 1] ⟨_, _, M, by omega, by simp⟩ (by simp) (by simp)).mono ?_
     rintro e wa ⟨r1, rfl, N⟩
     replace M := N _ _ M
     clear N
     refine hK.out _ _ (MC.out _ _ _ M) (fun hNew => ?_)
     replace hHeld := hNew
     clear hK K hNew
     try simp only [Act.put, List.setIfInBounds_toArray, List.set_cons_zero, List.set_cons_succ]
     refine wpAnyE_ready (rs := [10]) (by kernel_rfl) (by simp) ?_
     refine AllReadyE.cons (by (simp only [List.getElem?_toArray, List.getElem?_cons_succ, List.getElem?_cons_zero]; rfl)) (fun K hK => ?_) AllReadyE.nil
     go_simp
     replace M := Mid.al M 0 (-1) 1000000
     refine hK.out _ _ (MC.out _ _ _ M) (fun hNew => ?_)
     replace hHeld := hNew
     clear hK K hNew
     try simp only [Act.put, List.setIfInBounds_toArray, List.set_cons_zero, List.set_cons_succ]
     refine wpAnyE_ready (rs := [11]) (by kernel_rfl) (by simp) ?_
     refine AllReadyE.cons (by (simp only [List.getElem?_toArray, List.getElem?_cons_succ, List.getElem?_cons_zero]; rfl)) (fun K hK => ?_) AllReadyE.nil
     go_simp
     go_at_call 50
     refine (pick_mid (w0 := w3) (A := A) (c := c) (l := l) _ [0, -1, 1000000] ⟨_, _, M, by omega, by simp⟩ (by simp) (by simp)).mono ?_
     rintro e wa ⟨r2, rfl, N⟩
     replace M := N _ _ M
     clear N
     refine hK.out _ _ (MC.out _ _ _ M) (fun hNew => ?_)
     replace hHeld := hNew
     clear hK K hNew
     try simp only [Act.put, List.setIfInBounds_toArray, List.set_cons_zero, List.set_cons_succ]
     refine wpAnyE_ready (rs := [14]) (by kernel_rfl) (by simp) ?_
     refine AllReadyE.cons (by (simp only [List.getElem?_toArray, List.getElem?_cons_succ, List.getElem?_cons_zero]; rfl)) (fun K hK => ?_) AllReadyE.nil
     go_simp
     go_at_call 50
     refine (pick_mid (w0 := w3) (A := A) (c := c) (l := l) _ [0, 1000000, -1] ⟨_, _, M, by omega, by simp⟩ (by simp) (by simp)).mono ?_
     rintro e wa ⟨r3, rfl, N⟩
     replace M := N _ _ M
     clear N
     refine hK.out _ _ (MC.out _ _ _ M) (fun hNew => ?_)
     replace hHeld := hNew
     clear hK K hNew
     try simp only [Act.put, List.setIfInBounds_toArray, List.set_cons_zero, List.set_cons_succ]
     refine wpAnyE_take (i := 15) (v := ?_) (by (simp only [List.getElem?_toArray, List.getElem?_cons_succ, List.getElem?_cons_zero]; rfl)) (by kernel_rfl) (by kernel_rfl) (by kernel_rfl) (by decide) (by exact fun _ _ _ h => h) (.inr hHeld) (Or.inl ⟨by rfl, ?_⟩) ?_
     rotate_left
     ·(intro w' _; go_simp <;> with_reducible rfl)
     try simp only [Act.put, List.setIfInBounds_toArray, List.set_cons_zero, List.set_cons_succ]
     refine wpAnyE_ready (rs := [16]) (by kernel_rfl) (by simp) ?_
     refine AllReadyE.cons (by (simp only [List.getElem?_toArray, List.getElem?_cons_succ, List.getElem?_cons_zero]; rfl)) (fun K hK => ?_) AllReadyE.nil
     go_simp
     refine hK.out _ _ (MC.out _ _ _ (Mid.ale M _ _ _)) (fun hNew => ?_)
     clear hK K hNew hHeld
     try simp only [Act.put, List.setIfInBounds_toArray, List.set_cons_zero, List.set_cons_succ]
     refine wpAnyE_ready (rs := [17]) (by kernel_rfl) (by simp) ?_
     refine AllReadyE.last (by (simp only [List.getElem?_toArray, List.getElem?_cons_succ, List.getElem?_cons_zero]; rfl)) (by kernel_rfl) (fun K hK => ?_) AllReadyE.nil
     refine step_append_re _ (by rfl) (.tmp 20) (.tmp 31) 79 (by rfl) w.heap.size 81 i0 (.agg #[.int .i64 0, .int .i64 0, .int .i64 0]) 24 Try.underlying79 hi hz0 hz1 hz2 rfl (.slice Au t[at_].length cu) t[at_].length (evs t[at_]) (by rfl) ((OT.out _ _ _ M).alloc _) (some ⟨wa.heap.size, 0, none⟩) [⟨r1, r2, r3⟩] 1 _ (by rfl) (rdE_new wa ⟨r1, r2, r3⟩ _) (by unfold maxLen; simp only [List.length_singleton]; omega) (by simp only [List.length_singleton]; omega) (by have := M.gr.size; simp; omega) ?_
     intro v5 w5 o5 g5 hat5
     have M4 := M.ale r1 r2 r3
     have ot4 := oT3.kept M4.gr (fun b e => by (simp at e; omega))
     have rk := ot4.row.kept g5 (own_sep fun b hb e => by (simp only [Value.ownBlock, Option.some.injEq] at hb; subst hb; exact hu3 _ e rfl))
     have hf5 := rk.frozenAt at_
     have hc5 : w5.cell? ⟨gv, at_, none⟩ = some (.slice Au t[at_].length cu) := (by rw [rk.cellAt at_ (by omega)]; exact hu)
     obtain ⟨D5, d5, hv5⟩ := own_shape o5
     rw [hv5] at o5 hat5
     rw [hv5]
     have HG := hide g5
     have HAT := hide hat5
     have HO := hide o5
     have OT4 := hide ot4
     clear g5 hat5 hv5 o5 rk ot4
     refine hK.out _ _ ?_
     clear hK K
     try simp only [Act.put, List.setIfInBounds_toArray, List.set_cons_zero, List.set_cons_succ]
     refine wpAnyE_take (i := 18) (v := ?_) (by (simp only [List.getElem?_toArray, List.getElem?_cons_succ, List.getElem?_cons_zero]; rfl)) (by kernel_rfl) (by kernel_rfl) (by kernel_rfl) (by decide) (by exact fun _ _ _ h => h) (.inl (by kernel_rfl)) (Or.inl ⟨by rfl, ?_⟩) ?_
     rotate_left
     ·(intro w' _; go_simp <;> with_reducible rfl)
     try simp only [Act.put, List.setIfInBounds_toArray, List.set_cons_zero, List.set_cons_succ]
     refine wpAnyE_ready (rs := [19]) (by kernel_rfl) (by simp) ?_
     refine AllReadyE.last (by (simp only [List.getElem?_toArray, List.getElem?_cons_succ, List.getElem?_cons_zero]; rfl)) (by kernel_rfl) (fun K hK => ?_) AllReadyE.nil
     go_simp
     refine hK.out _ _ ?_
     clear hK K
     try simp only [Act.put, List.setIfInBounds_toArray, List.set_cons_zero, List.set_cons_succ]
     refine wpAnyE_done (by kernel_rfl) ?_ _
     go_wp2
     go_ret
     have oS := OT4.out.swap (es' := t[at_] ++ [⟨r1, r2, r3⟩]) hu HG.out (fun b e => .inl e) (by rw [List.length_append, evs_append]; exact HO.out) (fun b hb => by
      rcases HAT.out with e | e
      ·exact .inl (e.symm.trans hb)
      ·rw [e] at hb; simp only [Option.some.injEq] at hb; exact .inr (Nat.le_of_eq hb))
     have rw4 := OT.out _ _ _ M4
     have G5 := grown_new (p := ⟨gv, at_, none⟩) hgv.1 (.slice D5 (t[at_].length + 1) d5) ((G3.trans M4.gr).andThen HG.out (fun j hj => .inl (rw4.lt j hj).1))
     have hb5 := grown_below rw4 HG.out (by have := M4.gr.size; omega) (Nat.le_refl _)
     have S5 := (M4.src.below hb5 hgl).below (B := w.heap.size) ((Below.refl _ _).setCell (p := ⟨gv, at_, none⟩) hgv.1 (.slice D5 (t[at_].length + 1) d5)) hgl
     exact ⟨t.set at_ (t[at_] ++ [⟨r1, r2, r3⟩]), some ⟨gv, 0, none⟩, d, (by rw [List.length_set]; rfl), by rw [List.length_set]; omega, set_len hall20 (by rw [List.length_append]; simp; omega), fun w2 hg => (oS.kept hg (fun b e => by simp at e; omega)).rd_ (by rw [List.length_set]), k1 + 2 + 1 + 1 + 1, by omega, S5, G5⟩
    refine AllReadyE.cons (by (simp only [List.getElem?_toArray, List.getElem?_cons_succ, List.getElem?_cons_zero]; rfl)) (fun K hK => ?_) ?_
    ·skip
     go_simp
     replace M := Mid.al M 0 (-1) 1000000
     refine hK.out _ _ (MC.out _ _ _ M) (fun hNew => ?_)
     replace hHeld := hNew
     clear hK K hNew
     try simp only [Act.put, List.setIfInBounds_toArray, List.set_cons_zero, List.set_cons_succ]
     refine wpAnyE_ready (rs := [8]) (by kernel_rfl) (by simp) ?_
     refine AllReadyE.cons (by (simp only [List.getElem?_toArray, List.getElem?_cons_succ, List.getElem?_cons_zero]; rfl)) (fun K hK => ?_) AllReadyE.nil
     go_simp
     go_at_call 50
     refine (pick_mid (w0 := w3) (A := A) (c := c) (l := l) _ [-1, 2, 1] ⟨_, _, M, by omega, by simp⟩ (by simp) (by simp)).mono ?_
     rintro e wa ⟨r1, rfl, N⟩
     replace M := N _ _ M
     clear N
     refine hK.out _ _ (MC.out _ _ _ M) (fun hNew => ?_)
     replace hHeld := hNew
     clear hK K hNew
     try simp only [Act.put, List.setIfInBounds_toArray, List.set_cons_zero, List.set_cons_succ]
     refine wpAnyE_ready (rs := [11]) (by kernel_rfl) (by simp) ?_
     refine AllReadyE.cons (by (simp only [List.getElem?_toArray, List.getElem?_cons_succ, List.getElem?_cons_zero]; rfl)) (fun K hK => ?_) AllReadyE.nil
     go_simp
     go_at_call 50
     refine (pick_mid (w0 := w3) (A := A) (c := c) (l := l) _ [0, -1, 1000000] ⟨_, _, M, by omega, by simp⟩ (by simp) (by simp)).mono ?_
     rintro e wa ⟨r2, rfl, N⟩
     replace M := N _ _ M
     clear N
     refine hK.out _ _ (MC.out _ _ _ M) (fun hNew => ?_)
     replace hHeld := hNew
     clear hK K hNew
     try simp only [Act.put, List.setIfInBounds_toArray, List.set_cons_zero, List.set_cons_succ]
     refine wpAnyE_ready (rs := [14]) (by kernel_rfl) (by simp) ?_
     refine AllReadyE.cons (by (simp only [List.getElem?_toArray, List.getElem?_cons_succ, List.getElem?_cons_zero]; rfl)) (fun K hK => ?_) AllReadyE.nil
     go_simp
     go_at_call 50
     refine (pick_mid (w0 := w3) (A := A) (c := c) (l := l) _ [0, 1000000, -1] ⟨_, _, M, by omega, by simp⟩ (by simp) (by simp)).mono ?_
     rintro e wa ⟨r3, rfl, N⟩
     replace M := N _ _ M
     clear N
     refine hK.out _ _ (MC.out _ _ _ M) (fun hNew => ?_)
     replace hHeld := hNew
     clear hK K hNew
     try simp only [Act.put, List.setIfInBounds_toArray, List.set_cons_zero, List.set_cons_succ]
     refine wpAnyE_take (i := 15) (v := ?_) (by (simp only [List.getElem?_toArray, List.getElem?_cons_succ, List.getElem?_cons_zero]; rfl)) (by kernel_rfl) (by kernel_rfl) (by kernel_rfl) (by decide) (by exact fun _ _ _ h => h) (.inr hHeld) (Or.inl ⟨by rfl, ?_⟩) ?_
     rotate_left
     ·(intro w' _; go_simp <;> with_reducible rfl)
     try simp only [Act.put, List.setIfInBounds_toArray, List.set_cons_zero, List.set_cons_succ]
     refine wpAnyE_ready (rs := [16]) (by kernel_rfl) (by simp) ?_
     refine AllReadyE.cons (by (simp only [List.getElem?_toArray, List.getElem?_cons_succ, List.getElem?_cons_zero]; rfl)) (fun K hK => ?_) AllReadyE.nil
     go_simp
     refine hK.out _ _ (MC.out _ _ _ (Mid.ale M _ _ _)) (fun hNew => ?_)
     clear hK K hNew hHeld
     try simp only [Act.put, List.setIfInBounds_toArray, List.set_cons_zero, List.set_cons_succ]
     refine wpAnyE_ready (rs := [17]) (by kernel_rfl) (by simp) ?_
     refine AllReadyE.last (by (simp only [List.getElem?_toArray, List.getElem?_cons_succ, List.getElem?_cons_zero]; rfl)) (by kernel_rfl) (fun K hK => ?_) AllReadyE.nil
     refine step_append_re _ (by rfl) (.tmp 20) (.tmp 31) 79 (by rfl) w.heap.size 81 i0 (.agg #[.int .i64 0, .int .i64 0, .int .i64 0]) 24 Try.underlying79 hi hz0 hz1 hz2 rfl (.slice Au t[at_].length cu) t[at_].length (evs t[at_]) (by rfl) ((OT.out _ _ _ M).alloc _) (some ⟨wa.heap.size, 0, none⟩) [⟨r1, r2, r3⟩] 1 _ (by rfl) (rdE_new wa ⟨r1, r2, r3⟩ _) (by unfold maxLen; simp only [List.length_singleton]; omega) (by simp only [List.length_singleton]; omega) (by have := M.gr.size; simp; omega) ?_
     intro v5 w5 o5 g5 hat5
     have M4 := M.ale r1 r2 r3
     have ot4 := oT3.kept M4.gr (fun b e => by (simp at e; omega))
     have rk := ot4.row.kept g5 (own_sep fun b hb e => by (simp only [Value.ownBlock, Option.some.injEq] at hb; subst hb; exact hu3 _ e rfl))
     have hf5 := rk.frozenAt at_
     have hc5 : w5.cell? ⟨gv, at_, none⟩ = some (.slice Au t[at_].length cu) := (by rw [rk.cellAt at_ (by omega)]; exact hu)
     obtain ⟨D5, d5, hv5⟩ := own_shape o5
     rw [hv5] at o5 hat5
     rw [hv5]
     have HG := hide g5
     have HAT := hide hat5
     have HO := hide o5
     have OT4 := hide ot4
     clear g5 hat5 hv5 o5 rk ot4
     refine hK.out _ _ ?_
     clear hK K
     try simp only [Act.put, List.setIfInBounds_toArray, List.set_cons_zero, List.set_cons_succ]
     refine wpAnyE_take (i := 18) (v := ?_) (by (simp only [List.getElem?_toArray, List.getElem?_cons_succ, List.getElem?_cons_zero]; rfl)) (by kernel_rfl) (by kernel_rfl) (by kernel_rfl) (by decide) (by exact fun _ _ _ h => h) (.inl (by kernel_rfl)) (Or.inl ⟨by rfl, ?_⟩) ?_
     rotate_left
     ·(intro w' _; go_simp <;> with_reducible rfl)
     try simp only [Act.put, List.setIfInBounds_toArray, List.set_cons_zero, List.set_cons_succ]
     refine wpAnyE_ready (rs := [19]) (by kernel_rfl) (by simp) ?_
     refine AllReadyE.last (by (simp only [List.getElem?_toArray, List.getElem?_cons_succ, List.getElem?_cons_zero]; rfl)) (by kernel_rfl) (fun K hK => ?_) AllReadyE.nil
     go_simp
     refine hK.out _ _ ?_
     clear hK K
     try simp only [Act.put, List.setIfInBounds_toArray, List.set_cons_zero, List.set_cons_succ]
     refine wpAnyE_done (by kernel_rfl) ?_ _
     go_wp2
     go_ret
     have oS := OT4.out.swap (es' := t[at_] ++ [⟨r1, r2, r3⟩]) hu HG.out (fun b e => .inl e) (by rw [List.length_append, evs_append]; exact HO.out) (fun b hb => by
      rcases HAT.out with e | e
      ·exact .inl (e.symm.trans hb)
      ·rw [e] at hb; simp only [Option.some.injEq] at hb; exact .inr (Nat.le_of_eq hb))
     have rw4 := OT.out _ _ _ M4
     have G5 := grown_new (p := ⟨gv, at_, none⟩) hgv.1 (.slice D5 (t[at_].length + 1) d5) ((G3.trans M4.gr).andThen HG.out (fun j hj => .inl (rw4.lt j hj).1))
     have hb5 := grown_below rw4 HG.out (by have := M4.gr.size; omega) (Nat.le_refl _)
     have S5 := (M4.src.below hb5 hgl).below (B := w.heap.size) ((Below.refl _ _).setCell (p := ⟨gv, at_, none⟩) hgv.1 (.slice D5 (t[at_].length + 1) d5)) hgl
     exact ⟨t.set at_ (t[at_] ++ [⟨r1, r2, r3⟩]), some ⟨gv, 0, none⟩, d, (by rw [List.length_set]; rfl), by rw [List.length_set]; omega, set_len hall20 (by rw [List.length_append]; simp; omega), fun w2 hg => (oS.kept hg (fun b e => by simp at e; omega)).rd_ (by rw [List.length_set]), k1 + 2 + 1 + 1 + 1, by omega, S5, G5⟩
    exact AllReadyE.nil
   exact AllReadyE.nil
  refine AllReadyE.cons (by (simp only [List.getElem?_toArray, List.getElem?_cons_succ, List.getElem?_cons_zero]; rfl)) (fun K hK => ?_) ?_
  ·skip
   go_simp
   replace M := Mid.al M 0 (-1) 1000000
   refine hK.out _ _ (MC.out _ _ _ M) (fun hNew => ?_)
   replace hHeld := hNew
   clear hK K hNew
   try simp only [Act.put, List.setIfInBounds_toArray, List.set_cons_zero, List.set_cons_succ]
   refine wpAnyE_ready (rs := [7, 13]) (by kernel_rfl) (by simp) ?_
   refine AllReadyE.cons (by (simp only [List.getElem?_toArray, List.getElem?_cons_succ, List.getElem?_cons_zero]; rfl)) (fun K hK => ?_) ?_
   ·skip
    go_simp
    replace M := Mid.al M (-1) 2 1
    refine hK.out _ _ (MC.out _ _ _ M) (fun hNew => ?_)
    replace hHeld := hNew
    clear hK K hNew
    try simp only [Act.put, List.setIfInBounds_toArray, List.set_cons_zero, List.set_cons_succ]
    refine wpAnyE_ready (rs := [8, 13]) (by kernel_rfl) (by simp) ?_
    refine AllReadyE.cons (by (simp only [List.getElem?_toArray, List.getElem?_cons_succ, List.getElem?_cons_zero]; rfl)) (fun K hK => ?_) ?_
    ·skip
     go_simp
     go_at_call 50
     refine (pick_mid (w0 := w3) (A := A) (c := c) (l := l) _ [-1, 2, 1] ⟨_, _, M, by omega, by simp⟩ (by simp) (by simp)).mono ?_
     rintro e wa ⟨r1, rfl, N⟩
     replace M := N _ _ M
     clear N
     refine hK.out _ _ (MC.out _ _ _ M) (fun hNew => ?_)
     replace hHeld := hNew
     clear hK K hNew
     try simp only [Act.put, List.setIfInBounds_toArray, List.set_cons_zero, List.set_cons_succ]
     refine wpAnyE_ready (rs := [11, 13]) (by kernel_rfl) (by simp) ?_
     refine AllReadyE.cons (by (simp only [List.getElem?_toArray, List.getElem?_cons_succ, List.getElem?_cons_zero]; rfl)) (fun K hK => ?_) ?_
     ·skip
      go_simp
      go_at_call 50
      refine (pick_mid (w0 := w3) (A := A) (c := c) (l := l) _ [0, -1, 1000000] ⟨_, _, M, by omega, by simp⟩ (by simp) (by simp)).mono ?_
      rintro e wa ⟨r2, rfl, N⟩
      replace M := N _ _ M
      clear N
      refine hK.out _ _ (MC.out _ _ _ M) (fun hNew => ?_)
      replace hHeld := hNew
      clear hK K hNew
      try simp only [Act.put, List.setIfInBounds_toArray, List.set_cons_zero, List.set_cons_succ]
      refine wpAnyE_ready (rs := [13]) (by kernel_rfl) (by simp) ?_
      refine AllReadyE.cons (by (simp only [List.getElem?_toArray, List.getElem?_cons_succ, List.getElem?_cons_zero]; rfl)) (fun K hK => ?_) AllReadyE.nil
      go_simp
      replace M := Mid.al M 0 1000000 (-1)
      refine hK.out _ _ (MC.out _ _ _ M) (fun hNew => ?_)
      replace hHeld := hNew
      clear hK K hNew
      try simp only [Act.put, List.setIfInBounds_toArray, List.set_cons_zero, List.set_cons_succ]
      refine wpAnyE_ready (rs := [14]) (by kernel_rfl) (by simp) ?_
      refine AllReadyE.cons (by (simp only [List.getElem?_toArray, List.getElem?_cons_succ, List.getElem?_cons_zero]; rfl)) (fun K hK => ?_) AllReadyE.nil
      go_simp
      go_at_call 50
      refine (pick_mid (w0 := w3) (A := A) (c := c) (l := l) _ [0, 1000000, -1] ⟨_, _, M, by omega, by simp⟩ (by simp) (by simp)).mono ?_
      rintro e wa ⟨r3, rfl, N⟩
      replace M := N _ _ M
      clear N
      refine hK.out _ _ (MC.out _ _ _ M) (fun hNew => ?_)
      replace hHeld := hNew
      clear hK K hNew
      try simp only [Act.put, List.setIfInBounds_toArray, List.set_cons_zero, List.set_cons_succ]
      refine wpAnyE_take (i := 15) (v := ?_) (by (simp only [List.getElem?_toArray, List.getElem?_cons_succ, List.getElem?_cons_zero]; rfl)) (by kernel_rfl) (by kernel_rfl) (by kernel_rfl) (by decide) (by exact fun _ _ _ h => h) (.inr hHeld) (Or.inl ⟨by rfl, ?_⟩) ?_
      rotate_left
      ·(intro w' _; go_simp <;> with_reducible rfl)
      try simp only [Act.put, List.setIfInBounds_toArray, List.set_cons_zero, List.set_cons_succ]
      refine wpAnyE_ready (rs := [16]) (by kernel_rfl) (by simp) ?_
      refine AllReadyE.cons (by (simp only [List.getElem?_toArray, List.getElem?_cons_succ, List.getElem?_cons_zero]; rfl)) (fun K hK => ?_) AllReadyE.nil
      go_simp
      refine hK.out _ _ (MC.out _ _ _ (Mid.ale M _ _ _)) (fun hNew => ?_)
      clear hK K hNew hHeld
      try simp only [Act.put, List.setIfInBounds_toArray, List.set_cons_zero, List.set_cons_succ]
      refine wpAnyE_ready (rs := [17]) (by kernel_rfl) (by simp) ?_
      refine AllReadyE.last (by (simp only [List.getElem?_toArray, List.getElem?_cons_succ, List.getElem?_cons_zero]; rfl)) (by kernel_rfl) (fun K hK => ?_) AllReadyE.nil
      refine step_append_re _ (by rfl) (.tmp 20) (.tmp 31) 79 (by rfl) w.heap.size 81 i0 (.agg #[.int .i64 0, .int .i64 0, .int .i64 0]) 24 Try.underlying79 hi hz0 hz1 hz2 rfl (.slice Au t[at_].length cu) t[at_].length (evs t[at_]) (by rfl) ((OT.out _ _ _ M).alloc _) (some ⟨wa.heap.size, 0, none⟩) [⟨r1, r2, r3⟩] 1 _ (by rfl) (rdE_new wa ⟨r1, r2, r3⟩ _) (by unfold maxLen; simp only [List.length_singleton]; omega) (by simp only [List.length_singleton]; omega) (by have := M.gr.size; simp; omega) ?_
      intro v5 w5 o5 g5 hat5
      have M4 := M.ale r1 r2 r3
      have ot4 := oT3.kept M4.gr (fun b e => by (simp at e; omega))
      have rk := ot4.row.kept g5 (own_sep fun b hb e => by (simp only [Value.ownBlock, Option.some.injEq] at hb; subst hb; exact hu3 _ e rfl))
      have hf5 := rk.frozenAt at_
      have hc5 : w5.cell? ⟨gv, at_, none⟩ = some (.slice Au t[at_].length cu) := (by rw [rk.cellAt at_ (by omega)]; exact hu)
      obtain ⟨D5, d5, hv5⟩ := own_shape o5
      rw [hv5] at o5 hat5
      rw [hv5]
      have HG := hide g5
      have HAT := hide hat5
      have HO := hide o5
      have OT4 := hide ot4
      clear g5 hat5 hv5 o5 rk ot4
      refine hK.out _ _ ?_
      clear hK K
      try simp only [Act.put, List.setIfInBounds_toArray, List.set_cons_zero, List.set_cons_succ]
      refine wpAnyE_take (i := 18) (v := ?_) (by (simp only [List.getElem?_toArray, List.getElem?_cons_succ, List.getElem?_cons_zero]; rfl)) (by kernel_rfl) (by kernel_rfl) (by kernel_rfl) (by decide) (by exact fun _ _ _ h => h) (.inl (by kernel_rfl)) (Or.inl ⟨by rfl, ?_⟩) ?_
      rotate_left
      ·(intro w' _; go_simp <;> with_reducible rfl)
      try simp only [Act.put, List.setIfInBounds_toArray, List.set_cons_zero, List.set_cons_succ]
      refine wpAnyE_ready (rs := [19]) (by kernel_rfl) (by simp) ?_
      refine AllReadyE.last (by (simp only [List.getElem?_toArray, List.getElem?_cons_succ, List.getElem?_cons_zero]; rfl)) (by kernel_rfl) (fun K hK => ?_) AllReadyE.nil
      go_simp
      refine hK.out _ _ ?_
      clear hK K
      try simp only [Act.put, List.setIfInBounds_toArray, List.set_cons_zero, List.set_cons_succ]
      refine wpAnyE_done (by kernel_rfl) ?_ _
      go_wp2
      go_ret
      have oS := OT4.out.swap (es' := t[at_] ++ [⟨r1, r2, r3⟩]) hu HG.out (fun b e => .inl e) (by rw [List.length_append, evs_append]; exact HO.out) (fun b hb => by
       rcases HAT.out with e | e
       ·exact .inl (e.symm.trans hb)
       ·rw [e] at hb; simp only [Option.some.injEq] at hb; exact .inr (Nat.le_of_eq hb))
      have rw4 := OT.out _ _ _ M4
      have G5 := grown_new (p := ⟨gv, at_, none⟩) hgv.1 (.slice D5 (t[at_].length + 1) d5) ((G3.trans M4.gr).andThen HG.out (fun j hj => .inl (rw4.lt j hj).1))
      have hb5 := grown_below rw4 HG.out (by have := M4.gr.size; omega) (Nat.le_refl _)
      have S5 := (M4.src.below hb5 hgl).below (B := w.heap.size) ((Below.refl _ _).setCell (p := ⟨gv, at_, none⟩) hgv.1 (.slice D5 (t[at_].length + 1) d5)) hgl
      exact ⟨t.set at_ (t[at_] ++ [⟨r1, r2, r3⟩]), some ⟨gv, 0, none⟩, d, (by rw [List.length_set]; rfl), by rw [List.length_set]; omega, set_len hall20 (by rw [List.length_append]; simp; omega), fun w2 hg => (oS.kept hg (fun b e => by simp at e; omega)).rd_ (by rw [List.length_set]), k1 + 2 + 1 + 1 + 1, by omega, S5, G5⟩
     refine AllReadyE.cons (by (simp only [List.getElem?_toArray, List.getElem?_cons_succ, List.getElem?_cons_zero]; rfl)) (fun K hK => ?_) ?_
     ·skip
      go_simp
      replace M := Mid.al M 0 1000000 (-1)
      refine hK.out _ _ (MC.out _ _ _ M) (fun hNew => ?_)
      replace hHeld := hNew
      clear hK K hNew
      try simp only [Act.put, List.setIfInBounds_toArray, List.set_cons_zero, List.set_cons_succ]
      refine wpAnyE_ready (rs := [11]) (by kernel_rfl) (by simp) ?_
      refine AllReadyE.cons (by (simp only [List.getElem?_toArray, List.getElem?_cons_succ, List.getElem?_cons_zero]; rfl)) (fun K hK => ?_) AllReadyE.nil
      go_simp
      go_at_call 50
      refine (pick_mid (w0 := w3) (A := A) (c := c) (l := l) _ [0, -1, 1000000] ⟨_, _, M, by omega, by simp⟩ (by simp) (by simp)).mono ?_
      rintro e wa ⟨r2, rfl, N⟩
      replace M := N _ _ M
      clear N
      refine hK.out _ _ (MC.out _ _ _ M) (fun hNew => ?_)
      replace hHeld := hNew
      clear hK K hNew
      try simp only [Act.put, List.setIfInBounds_toArray, List.set_cons_zero, List.set_cons_succ]
      refine wpAnyE_ready (rs := [14]) (by kernel_rfl) (by simp) ?_
      refine AllReadyE.cons (by (simp only [List.getElem?_toArray, List.getElem?_cons_succ, List.getElem?_cons_zero]; rfl)) (fun K hK => ?_) AllReadyE.nil
      go_simp
      go_at_call 50
      refine (pick_mid (w0 := w3) (A := A) (c := c) (l := l) _ [0, 1000000, -1] ⟨_, _, M, by omega, by simp⟩ (by simp) (by simp)).mono ?_
      rintro e wa ⟨r3, rfl, N⟩
      replace M := N _ _ M
      clear N
      refine hK.out _ _ (MC.out _ _ _ M) (fun hNew => ?_)
      replace hHeld := hNew
      clear hK K hNew
      try simp only [Act.put, List.setIfInBounds_toArray, List.set_cons_zero, List.set_cons_succ]
      refine wpAnyE_take (i := 15) (v := ?_) (by (simp only [List.getElem?_toArray, List.getElem?_cons_succ, List.getElem?_cons_zero]; rfl)) (by kernel_rfl) (by kernel_rfl) (by kernel_rfl) (by decide) (by exact fun _ _ _ h => h) (.inr hHeld) (Or.inl ⟨by rfl, ?_⟩) ?_
      rotate_left
      ·(intro w' _; go_simp <;> with_reducible rfl)
      try simp only [Act.put, List.setIfInBounds_toArray, List.set_cons_zero, List.set_cons_succ]
      refine wpAnyE_ready (rs := [16]) (by kernel_rfl) (by simp) ?_
      refine AllReadyE.cons (by (simp only [List.getElem?_toArray, List.getElem?_cons_succ, List.getElem?_cons_zero]; rfl)) (fun K hK => ?_) AllReadyE.nil
      go_simp
      refine hK.out _ _ (MC.out _ _ _ (Mid.ale M _ _ _)) (fun hNew => ?_)
      clear hK K hNew hHeld
      try simp only [Act.put, List.setIfInBounds_toArray, List.set_cons_zero, List.set_cons_succ]
      refine wpAnyE_ready (rs := [17]) (by kernel_rfl) (by simp) ?_
      refine AllReadyE.last (by (simp only [List.getElem?_toArray, List.getElem?_cons_succ, List.getElem?_cons_zero]; rfl)) (by kernel_rfl) (fun K hK => ?_) AllReadyE.nil
      refine step_append_re _ (by rfl) (.tmp 20) (.tmp 31) 79 (by rfl) w.heap.size 81 i0 (.agg #[.int .i64 0, .int .i64 0, .int .i64 0]) 24 Try.underlying79 hi hz0 hz1 hz2 rfl (.slice Au t[at_].length cu) t[at_].length (evs t[at_]) (by rfl) ((OT.out _ _ _ M).alloc _) (some ⟨wa.heap.size, 0, none⟩) [⟨r1, r2, r3⟩] 1 _ (by rfl) (rdE_new wa ⟨r1, r2, r3⟩ _) (by unfold maxLen; simp only [List.length_singleton]; omega) (by simp only [List.length_singleton]; omega) (by have := M.gr.size; simp; omega) ?_
      intro v5 w5 o5 g5 hat5
      have M4 := M.ale r1 r2 r3
      have ot4 := oT3.kept M4.gr (fun b e => by (simp at e; omega))
      have rk := ot4.row.kept g5 (own_sep fun b hb e => by (simp only [Value.ownBlock, Option.some.injEq] at hb; subst hb; exact hu3 _ e rfl))
      have hf5 := rk.frozenAt at_
      have hc5 : w5.cell? ⟨gv, at_, none⟩ = some (.slice Au t[at_].length cu) := (by rw [rk.cellAt at_ (by omega)]; exact hu)
      obtain ⟨D5, d5, hv5⟩ := own_shape o5
      rw [hv5] at o5 hat5
      rw [hv5]
      have HG := hide g5
      have HAT := hide hat5
      have HO := hide o5
      have OT4 := hide ot4
      clear g5 hat5 hv5 o5 rk ot4
      refine hK.out _ _ ?_
      clear hK K
      try simp only [Act.put, List.setIfInBounds_toArray, List.set_cons_zero, List.set_cons_succ]
      refine wpAnyE_take (i := 18) (v := ?_) (by (simp only [List.getElem?_toArray, List.getElem?_cons_succ, List.getElem?_cons_zero]; rfl)) (by kernel_rfl) (by kernel_rfl) (by kernel_rfl) (by decide) (by exact fun _ _ _ h => h) (.inl (by kernel_rfl)) (Or.inl ⟨by rfl, ?_⟩) ?_
      rotate_left
      ·(intro w' _; go_simp <;> with_reducible rfl)
      try simp only [Act.put, List.setIfInBounds_toArray, List.set_cons_zero, List.set_cons_succ]
      refine wpAnyE_ready (rs := [19]) (by kernel_rfl) (by simp) ?_
      refine AllReadyE.last (by (simp only [List.getElem?_toArray, List.getElem?_cons_succ, List.getElem?_cons_zero]; rfl)) (by kernel_rfl) (fun K hK => ?_) AllReadyE.nil
      go_simp
      refine hK.out _ _ ?_
      clear hK K
      try simp only [Act.put, List.setIfInBounds_toArray, List.set_cons_zero, List.set_cons_succ]
      refine wpAnyE_done (by kernel_rfl) ?_ _
      go_wp2
      go_ret
      have oS := OT4.out.swap (es' := t[at_] ++ [⟨r1, r2, r3⟩]) hu HG.out (fun b e => .inl e) (by rw [List.length_append, evs_append]; exact HO.out) (fun b hb => by
       rcases HAT.out with e | e
       ·exact .inl (e.symm.trans hb)
       ·rw [e] at hb; simp only [Option.some.injEq] at hb; exact .inr (Nat.le_of_eq hb))
      have rw4 := OT.out _ _ _ M4
      have G5 := grown_new (p := ⟨gv, at_, none⟩) hgv.1 (.slice D5 (t[at_].length + 1) d5) ((G3.trans M4.gr).andThen HG.out (fun j hj => .inl (rw4.lt j hj).1))
      have hb5 := grown_below rw4 HG.out (by have := M4.gr.size; omega) (Nat.le_refl _)
      have S5 := (M4.src.below hb5 hgl).below (B := w.heap.size) ((Below.refl _ _).setCell (p := ⟨gv, at_, none⟩) hgv.1 (.slice D5 (t[at_].length + 1) d5)) hgl
      exact ⟨t.set at_ (t[at_] ++ [⟨r1, r2, r3⟩]), some ⟨gv, 0, none⟩, d, (by rw [List.length_set]; rfl), by rw [List.length_set]; omega, set_len hall20 (by rw [List.length_append]; simp; omega), fun w2 hg => (oS.kept hg (fun b e => by simp at e; omega)).rd_ (by rw [List.length_set]), k1 + 2 + 1 + 1 + 1, by omega, S5, G5⟩
     exact AllReadyE.nil
    refine AllReadyE.cons (by (simp only [List.getElem?_toArray, List.getElem?_cons_succ, List.getElem?_cons_zero]; rfl)) (fun K hK => ?_) ?_
    ·skip
     go_simp
     replace M := Mid.al M 0 1000000 (-1)
     refine hK.out _ _ (MC.out _ _ _ M) (fun hNew => ?_)
     replace hHeld := hNew
     clear hK K hNew
     try simp only [Act.put, List.setIfInBounds_toArray, List.set_cons_zero, List.set_cons_succ]
     refine wpAnyE_ready (rs := [8]) (by kernel_rfl) (by simp) ?_
     refine AllReadyE.cons (by (simp only [List.getElem?_toArray, List.getElem?_cons_succ, List.getElem?_cons_zero]; rfl)) (fun K hK => ?_) AllReadyE.nil
     go_simp
     go_at_call 50
     refine (pick_mid (w0 := w3) (A := A) (c := c) (l := l) _ [-1, 2, 1] ⟨_, _, M, by omega, by simp⟩ (by simp) (by simp)).mono ?_
     rintro e wa ⟨r1, rfl, N⟩
     replace M := N _ _ M
     clear N
     refine hK.out _ _ (MC.out _ _ _ M) (fun hNew => ?_)
     replace hHeld := hNew
     clear hK K hNew
     try simp only [Act.put, List.setIfInBounds_toArray, List.set_cons_zero, List.set_cons_succ]
     refine wpAnyE_ready (rs := [11]) (by kernel_rfl) (by simp) ?_
     refine AllReadyE.cons (by (simp only [List.getElem?_toArray, List.getElem?_cons_succ, List.getElem?_cons_zero]; rfl)) (fun K hK => ?_) AllReadyE.nil
     go_simp
     go_at_call 50
     refine (pick_mid (w0 := w3) (A := A) (c := c) (l := l) _ [0, -1, 1000000] ⟨_, _, M, by omega, by simp⟩ (by simp) (by simp)).mono ?_
     rintro e wa ⟨r2, rfl, N⟩
     replace M := N _ _ M
     clear N
     refine hK.out _ _ (MC.out _ _ _ M) (fun hNew => ?_)
     replace hHeld := hNew
     clear hK K hNew
     try simp only [Act.put, List.setIfInBounds_toArray, List.set_cons_zero, List.set_cons_succ]
     refine wpAnyE_ready (rs := [14]) (by kernel_rfl) (by simp) ?_
     refine AllReadyE.cons (by (simp only [List.getElem?_toArray, List.getElem?_cons_succ, List.getElem?_cons_zero]; rfl)) (fun K hK => ?_) AllReadyE.nil
     go_simp
     go_at_call 50
     refine (pick_mid (w0 := w3) (A := A) (c := c) (l := l) _ [0, 1000000, -1] ⟨_, _, M, by omega, by simp⟩ (by simp) (by simp)).mono ?_
     rintro e wa ⟨r3, rfl, N⟩
     replace M := N _ _ M
     clear N
     refine hK.out _ _ (MC.out _ _ _ M) (fun hNew => ?_)
     replace hHeld := hNew
     clear hK K hNew
     try simp only [Act.put, List.setIfInBounds_toArray, List.set_cons_zero, List.set_cons_succ]
     refine wpAnyE_take (i := 15) (v := ?_) (by (simp only [List.getElem?_toArray, List.getElem?_cons_succ, List.getElem?_cons_zero]; rfl)) (by kernel_rfl) (by kernel_rfl) (by kernel_rfl) (by decide) (by exact fun _ _ _ h => h) (.inr hHeld) (Or.inl ⟨by rfl, ?_⟩) ?_
     rotate_left
     ·(intro w' _; go_simp <;> with_reducible rfl)
     try simp only [Act.put, List.setIfInBounds_toArray, List.set_cons_zero, List.set_cons_succ]
     refine wpAnyE_ready (rs := [16]) (by kernel_rfl) (by simp) ?_
     refine AllReadyE.cons (by (simp only [List.getElem?_toArray, List.getElem?_cons_succ, List.getElem?_cons_zero]; rfl)) (fun K hK => ?_) AllReadyE.nil
     go_simp
     refine hK.out _ _ (MC.out _ _ _ (Mid.ale M _ _ _)) (fun hNew => ?_)
     clear hK K hNew hHeld
     try simp only [Act.put, List.setIfInBounds_toArray, List.set_cons_zero, List.set_cons_succ]
     refine wpAnyE_ready (rs := [17]) (by kernel_rfl) (by simp) ?_
     refine AllReadyE.last (by (simp only [List.getElem?_toArray, List.getElem?_cons_succ, List.getElem?_cons_zero]; rfl)) (by kernel_rfl) (fun K hK => ?_) AllReadyE.nil
     refine step_append_re _ (by rfl) (.tmp 20) (.tmp 31) 79 (by rfl) w.heap.size 81 i0 (.agg #[.int .i64 0, .int .i64 0, .int .i64 0]) 24 Try.underlying79 hi hz0 hz1 hz2 rfl (.slice Au t[at_].length cu) t[at_].length (evs t[at_]) (by rfl) ((OT.out _ _ _ M).alloc _) (some ⟨wa.heap.size, 0, none⟩) [⟨r1, r2, r3⟩] 1 _ (by rfl) (rdE_new wa ⟨r1, r2, r3⟩ _) (by unfold maxLen; simp only [List.length_singleton]; omega) (by simp only [List.length_singleton]; omega) (by have := M.gr.size; simp; omega) ?_
     intro v5 w5 o5 g5 hat5
     have M4 := M.ale r1 r2 r3
     have ot4 := oT3.kept M4.gr (fun b e => by (simp at e; omega))
     have rk := ot4.row.kept g5 (own_sep fun b hb e => by (simp only [Value.ownBlock, Option.some.injEq] at hb; subst hb; exact hu3 _ e rfl))
     have hf5 := rk.frozenAt at_
     have hc5 : w5.cell? ⟨gv, at_, none⟩ = some (.slice Au t[at_].length cu) := (by rw [rk.cellAt at_ (by omega)]; exact hu)
     obtain ⟨D5, d5, hv5⟩ := own_shape o5
     rw [hv5] at o5 hat5
     rw [hv5]
     have HG := hide g5
     have HAT := hide hat5
     have HO := hide o5
     have OT4 := hide ot4
     clear g5 hat5 hv5 o5 rk ot4
     refine hK.out _ _ ?_
     clear hK K
     try simp only [Act.put, List.setIfInBounds_toArray, List.set_cons_zero, List.set_cons_succ]
     refine wpAnyE_take (i := 18) (v := ?_) (by (simp only [List.getElem?_toArray, List.getElem?_cons_succ, List.getElem?_cons_zero]; rfl)) (by kernel_rfl) (by kernel_rfl) (by kernel_rfl) (by decide) (by exact fun _ _ _ h => h) (.inl (by kernel_rfl)) (Or.inl ⟨by rfl, ?_⟩) ?_
     rotate_left
     ·(intro w' _; go_simp <;> with_reducible rfl)
     try simp only [Act.put, List.setIfInBounds_toArray, List.set_cons_zero, List.set_cons_succ]
     refine wpAnyE_ready (rs := [19]) (by kernel_rfl) (by simp) ?_
     refine AllReadyE.last (by (simp only [List.getElem?_toArray, List.getElem?_cons_succ, List.getElem?_cons_zero]; rfl)) (by kernel_rfl) (fun K hK => ?_) AllReadyE.nil
     go_simp
     refine hK.out _ _ ?_
     clear hK K
     try simp only [Act.put, List.setIfInBounds_toArray, List.set_cons_zero, List.set_cons_succ]
     refine wpAnyE_done (by kernel_rfl) ?_ _
     go_wp2
     go_ret
     have oS := OT4.out.swap (es' := t[at_] ++ [⟨r1, r2, r3⟩]) hu HG.out (fun b e => .inl e) (by rw [List.length_append, evs_append]; exact HO.out) (fun b hb => by
      rcases HAT.out with e | e
      ·exact .inl (e.symm.trans hb)
      ·rw [e] at hb; simp only [Option.some.injEq] at hb; exact .inr (Nat.le_of_eq hb))
     have rw4 := OT.out _ _ _ M4
     have G5 := grown_new (p := ⟨gv, at_, none⟩) hgv.1 (.slice D5 (t[at_].length + 1) d5) ((G3.trans M4.gr).andThen HG.out (fun j hj => .inl (rw4.lt j hj).1))
     have hb5 := grown_below rw4 HG.out (by have := M4.gr.size; omega) (Nat.le_refl _)
     have S5 := (M4.src.below hb5 hgl).below (B := w.heap.size) ((Below.refl _ _).setCell (p := ⟨gv, at_, none⟩) hgv.1 (.slice D5 (t[at_].length + 1) d5)) hgl
     exact ⟨t.set at_ (t[at_] ++ [⟨r1, r2, r3⟩]), some ⟨gv, 0, none⟩, d, (by rw [List.length_set]; rfl), by rw [List.length_set]; omega, set_len hall20 (by rw [List.length_append]; simp; omega), fun w2 hg => (oS.kept hg (fun b e => by simp at e; omega)).rd_ (by rw [List.length_set]), k1 + 2 + 1 + 1 + 1, by omega, S5, G5⟩
    exact AllReadyE.nil
   refine AllReadyE.cons (by (simp only [List.getElem?_toArray, List.getElem?_cons_succ, List.getElem?_cons_zero]; rfl)) (fun K hK => ?_) ?_
   ·skip
    go_simp
    replace M := Mid.al M 0 1000000 (-1)
    refine hK.out _ _ (MC.out _ _ _ M) (fun hNew => ?_)
    replace hHeld := hNew
    clear hK K hNew
    try simp only [Act.put, List.setIfInBounds_toArray, List.set_cons_zero, List.set_cons_succ]
    refine wpAnyE_ready (rs := [7]) (by kernel_rfl) (by simp) ?_
    refine AllReadyE.cons (by (simp only [List.getElem?_toArray, List.getElem?_cons_succ, List.getElem?_cons_zero]; rfl)) (fun K hK => ?_) AllReadyE.nil
    go_simp
    replace M := Mid.al M (-1) 2 1
    refine hK.out _ _ (MC.out _ _ _ M) (fun hNew => ?_)
    replace hHeld := hNew
    clear hK K hNew
    try simp only [Act.put, List.setIfInBounds_toArray, List.set_cons_zero, List.set_cons_succ]
    refine wpAnyE_ready (rs := [8]) (by kernel_rfl) (by simp) ?_
    refine AllReadyE.cons (by (simp only [List.getElem?_toArray, List.getElem?_cons_succ, List.getElem?_cons_zero]; rfl)) (fun K hK => ?_) AllReadyE.nil
    go_simp
    go_at_call 50
    refine (pick_mid (w0 := w3) (A := A) (c := c) (l := l) _ [-1, 2, 1] ⟨_, _, M, by omega, by simp⟩ (by simp) (by simp)).mono ?_
    rintro e wa ⟨r1, rfl, N⟩
    replace M := N _ _ M
    clear N
    refine hK.out _ _ (MC.out _ _ _ M) (fun hNew => ?_)
    replace hHeld := hNew
    clear hK K hNew
    try simp only [Act.put, List.setIfInBounds_toArray, List.set_cons_zero, List.set_cons_succ]
    refine wpAnyE_ready (rs := [11]) (by kernel_rfl) (by simp) ?_
    refine AllReadyE.cons (by (simp only [List.getElem?_toArray, List.getElem?_cons_succ, List.getElem?_cons_zero]; rfl)) (fun K hK => ?_) AllReadyE.nil
    go_simp
    go_at_call 50
    refine (pick_mid (w0 := w3) (A := A) (c := c) (l := l) _ [0, -1, 1000000] ⟨_, _, M, by omega, by simp⟩ (by simp) (by simp)).mono ?_
    rintro e wa ⟨r2, rfl, N⟩
    replace M := N _ _ M
    clear N
    refine hK.out _ _ (MC.out _ _ _ M) (fun hNew => ?_)
    replace hHeld := hNew
    clear hK K hNew
    try simp only [Act.put, List.setIfInBounds_toArray, List.set_cons_zero, List.set_cons_succ]
    refine wpAnyE_ready (rs := [14]) (by kernel_rfl) (by simp) ?_
    refine AllReadyE.cons (by (simp only [List.getElem?_toArray, List.getElem?_cons_succ, List.getElem?_cons_zero]; rfl)) (fun K hK => ?_) AllReadyE.nil
    go_simp
    go_at_call 50
    refine (pick_mid (w0 := w3) (A := A) (c := c) (l := l) _ [0, 1000000, -1] ⟨_, _, M, by omega, by simp⟩ (by simp) (by simp)).mono ?_
    rintro e wa ⟨r3, rfl, N⟩
    replace M := N _ _ M
    clear N
    refine hK.out _ _ (MC.out _ _ _ M) (fun hNew => ?_)
    replace hHeld := hNew
    clear hK K hNew
    try simp only [Act.put, List.setIfInBounds_toArray, List.set_cons_zero, List.set_cons_succ]
    refine wpAnyE_take (i := 15) (v := ?_) (by (simp only [List.getElem?_toArray, List.getElem?_cons_succ, List.getElem?_cons_zero]; rfl)) (by kernel_rfl) (by kernel_rfl) (by kernel_rfl) (by decide) (by exact fun _ _ _ h => h) (.inr hHeld) (Or.inl ⟨by rfl, ?_⟩) ?_
    rotate_left
    ·(intro w' _; go_simp <;> with_reducible rfl)
    try simp only [Act.put, List.setIfInBounds_toArray, List.set_cons_zero, List.set_cons_succ]
    refine wpAnyE_ready (rs := [16]) (by kernel_rfl) (by simp) ?_
    refine AllReadyE.cons (by (simp only [List.getElem?_toArray, List.getElem?_cons_succ, List.getElem?_cons_zero]; rfl)) (fun K hK => ?_) AllReadyE.nil
    go_simp
    refine hK.out _ _ (MC.out _ _ _ (Mid.ale M _ _ _)) (fun hNew => ?_)
    clear hK K hNew hHeld
    try simp only [Act.put, List.setIfInBounds_toArray, List.set_cons_zero, List.set_cons_succ]
    refine wpAnyE_ready (rs := [17]) (by kernel_rfl) (by simp) ?_
    refine AllReadyE.last (by (simp only [List.getElem?_toArray, List.getElem?_cons_succ, List.getElem?_cons_zero]; rfl)) (by kernel_rfl) (fun K hK => ?_) AllReadyE.nil
    refine step_append_re _ (by rfl) (.tmp 20) (.tmp 31) 79 (by rfl) w.heap.size 81 i0 (.agg #[.int .i64 0, .int .i64 0, .int .i64 0]) 24 Try.underlying79 hi hz0 hz1 hz2 rfl (.slice Au t[at_].length cu) t[at_].length (evs t[at_]) (by rfl) ((OT.out _ _ _ M).alloc _) (some ⟨wa.heap.size, 0, none⟩) [⟨r1, r2, r3⟩] 1 _ (by rfl) (rdE_new wa ⟨r1, r2, r3⟩ _) (by unfold maxLen; simp only [List.length_singleton]; omega) (by simp only [List.length_singleton]; omega) (by have := M.gr.size; simp; omega) ?_
    intro v5 w5 o5 g5 hat5
    have M4 := M.ale r1 r2 r3
    have ot4 := oT3.kept M4.gr (fun b e => by (simp at e; omega))
    have rk := ot4.row.kept g5 (own_sep fun b hb e => by (simp only [Value.ownBlock, Option.some.injEq] at hb; subst hb; exact hu3 _ e rfl))
    have hf5 := rk.frozenAt at_
    have hc5 : w5.cell? ⟨gv, at_, none⟩ = some (.slice Au t[at_].length cu) := (by rw [rk.cellAt at_ (by omega)]; exact hu)
    obtain ⟨D5, d5, hv5⟩ := own_shape o5
    rw [hv5] at o5 hat5
    rw [hv5]
    have HG := hide g5
    have HAT := hide hat5
    have HO := hide o5
    have OT4 := hide ot4
    clear g5 hat5 hv5 o5 rk ot4
    refine hK.out _ _ ?_
    clear hK K
    try simp only [Act.put, List.setIfInBounds_toArray, List.set_cons_zero, List.set_cons_succ]
    refine wpAnyE_take (i := 18) (v := ?_) (by (simp only [List.getElem?_toArray, List.getElem?_cons_succ, List.getElem?_cons_zero]; rfl)) (by kernel_rfl) (by kernel_rfl) (by kernel_rfl) (by decide) (by exact fun _ _ _ h => h) (.inl (by kernel_rfl)) (Or.inl ⟨by rfl, ?_⟩) ?_
    rotate_left
    ·(intro w' _; go_simp <;> with_reducible rfl)
    try simp only [Act.put, List.setIfInBounds_toArray, List.set_cons_zero, List.set_cons_succ]
    refine wpAnyE_ready (rs := [19]) (by kernel_rfl) (by simp) ?_
    refine AllReadyE.last (by (simp only [List.getElem?_toArray, List.getElem?_cons_succ, List.getElem?_cons_zero]; rfl)) (by kernel_rfl) (fun K hK => ?_) AllReadyE.nil
    go_simp
    refine hK.out _ _ ?_
    clear hK K
    try simp only [Act.put, List.setIfInBounds_toArray, List.set_cons_zero, List.set_cons_succ]
    refine wpAnyE_done (by kernel_rfl) ?_ _
    go_wp2
    go_ret
    have oS := OT4.out.swap (es' := t[at_] ++ [⟨r1, r2, r3⟩]) hu HG.out (fun b e => .inl e) (by rw [List.length_append, evs_append]; exact HO.out) (fun b hb => by
     rcases HAT.out with e | e
     ·exact .inl (e.symm.trans hb)
     ·rw [e] at hb; simp only [Option.some.injEq] at hb; exact .inr (Nat.le_of_eq hb))
    have rw4 := OT.out _ _ _ M4
    have G5 := grown_new (p := ⟨gv, at_, none⟩) hgv.1 (.slice D5 (t[at_].length + 1) d5) ((G3.trans M4.gr).andThen HG.out (fun j hj => .inl (rw4.lt j hj).1))
    have hb5 := grown_below rw4 HG.out (by have := M4.gr.size; omega) (Nat.le_refl _)
    have S5 := (M4.src.below hb5 hgl).below (B := w.heap.size) ((Below.refl _ _).setCell (p := ⟨gv, at_, none⟩) hgv.1 (.slice D5 (t[at_].length + 1) d5)) hgl
    exact ⟨t.set at_ (t[at_] ++ [⟨r1, r2, r3⟩]), some ⟨gv, 0, none⟩, d, (by rw [List.length_set]; rfl), by rw [List.length_set]; omega, set_len hall20 (by rw [List.length_append]; simp; omega), fun w2 hg => (oS.kept hg (fun b e => by simp at e; omega)).rd_ (by rw [List.length_set]), k1 + 2 + 1 + 1 + 1, by omega, S5, G5⟩
   exact AllReadyE.nil
  refine AllReadyE.cons (by (simp only [List.getElem?_toArray, List.getElem?_cons_succ, List.getElem?_cons_zero]; rfl)) (fun K hK => ?_) ?_
  ·skip
   go_simp
   replace M := Mid.al M 0 1000000 (-1)
   refine hK.out _ _ (MC.out _ _ _ M) (fun hNew => ?_)
   replace hHeld := hNew
   clear hK K hNew
   try simp only [Act.put, List.setIfInBounds_toArray, List.set_cons_zero, List.set_cons_succ]
   refine wpAnyE_ready (rs := [7, 10]) (by kernel_rfl) (by simp) ?_
   refine AllReadyE.cons (by (simp only [List.getElem?_toArray, List.getElem?_cons_succ, List.getElem?_cons_zero]; rfl)) (fun K hK => ?_) ?_
   ·skip
    go_simp
    replace M := Mid.al M (-1) 2 1
    refine hK.out _ _ (MC.out _ _ _ M) (fun hNew => ?_)
    replace hHeld := hNew
    clear hK K hNew
    try simp only [Act.put, List.setIfInBounds_toArray, List.set_cons_zero, List.set_cons_succ]
    refine wpAnyE_ready (rs := [8, 10]) (by kernel_rfl) (by simp) ?_
    refine AllReadyE.cons (by (simp only [List.getElem?_toArray, List.getElem?_cons_succ, List.getElem?_cons_zero]; rfl)) (fun K hK => ?_) ?_
    ·skip
     go_simp
     go_at_call 50
     refine (pick_mid (w0 := w3) (A := A) (c := c) (l := l) _ [-1, 2, 1] ⟨_, _, M, by omega, by simp⟩ (by simp) (by simp)).mono ?_
     rintro e wa ⟨r1, rfl, N⟩
     replace M := N _ _ M
     clear N
     refine hK.out _ _ (MC.out _ _ _ M) (fun hNew => ?_)
     replace hHeld := hNew
     clear hK K hNew
     try simp only [Act.put, List.setIfInBounds_toArray, List.set_cons_zero, List.set_cons_succ]
     refine wpAnyE_ready (rs := [10]) (by kernel_rfl) (by simp) ?_
     refine AllReadyE.cons (by (simp only [List.getElem?_toArray, List.getElem?_cons_succ, List.getElem?_cons_zero]; rfl)) (fun K hK => ?_) AllReadyE.nil
     go_simp
     replace M := Mid.al M 0 (-1) 1000000
     refine hK.out _ _ (MC.out _ _ _ M) (fun hNew => ?_)
     replace hHeld := hNew
     clear hK K hNew
     try simp only [Act.put, List.setIfInBounds_toArray, List.set_cons_zero, List.set_cons_succ]
     refine wpAnyE_ready (rs := [11]) (by kernel_rfl) (by simp) ?_
     refine AllReadyE.cons (by (simp only [List.getElem?_toArray, List.getElem?_cons_succ, List.getElem?_cons_zero]; rfl)) (fun K hK => ?_) AllReadyE.nil
     go_simp
     go_at_call 50
     refine (pick_mid (w0 := w3) (A := A) (c := c) (l := l) _ [0, -1, 1000000] ⟨_, _, M, by omega, by simp⟩ (by simp) (by simp)).mono ?_
     rintro e wa ⟨r2, rfl, N⟩
     replace M := N _ _ M
     clear N
     refine hK.out _ _ (MC.out _ _ _ M) (fun hNew => ?_)
     replace hHeld := hNew
     clear hK K hNew
     try simp only [Act.put, List.setIfInBounds_toArray, List.set_cons_zero, List.set_cons_succ]
     refine wpAnyE_ready (rs := [14]) (by kernel_rfl) (by simp) ?_
     refine AllReadyE.cons (by (simp only [List.getElem?_toArray, List.getElem?_cons_succ, List.getElem?_cons_zero]; rfl)) (fun K hK => ?_) AllReadyE.nil
     go_simp
     go_at_call 50
     refine (pick_mid (w0 := w3) (A := A) (c := c) (l := l) _ [0, 1000000, -1] ⟨_, _, M, by omega, by simp⟩ (by simp) (by simp)).mono ?_
     rintro e wa ⟨r3, rfl, N⟩
     replace M := N _ _ M
     clear N
     refine hK.out _ _ (MC.out _ _ _ M) (fun hNew => ?_)
     replace hHeld := hNew
     clear hK K hNew
     try simp only [Act.put, List.setIfInBounds_toArray, List.set_cons_zero, List.set_cons_succ]
     refine wpAnyE_take (i := 15) (v := ?_) (by (simp only [List.getElem?_toArray, List.getElem?_cons_succ, List.getElem?_cons_zero]; rfl)) (by kernel_rfl) (by kernel_rfl) (by kernel_rfl) (by decide) (by exact fun _ _ _ h => h) (.inr hHeld) (Or.inl ⟨by rfl, ?_⟩) ?_
     rotate_left
     ·(intro w' _; go_simp <;> with_reducible rfl)
     try simp only [Act.put, List.setIfInBounds_toArray, List.set_cons_zero, List.set_cons_succ]
     refine wpAnyE_ready (rs := [16]) (by kernel_rfl) (by simp) ?_
     refine AllReadyE.cons (by (simp only [List.getElem?_toArray, List.getElem?_cons_succ, List.getElem?_cons_zero]; rfl)) (fun K hK => ?_) AllReadyE.nil
     go_simp
     refine hK.out _ _ (MC.out _ _ _ (Mid.ale M _ _ _)) (fun hNew => ?_)
     clear hK K hNew hHeld
     try simp only [Act.put, List.setIfInBounds_toArray, List.set_cons_zero, List.set_cons_succ]
     refine wpAnyE_ready (rs := [17]) (by kernel_rfl) (by simp) ?_
     refine AllReadyE.last (by (simp only [List.getElem?_toArray, List.getElem?_cons_succ, List.getElem?_cons_zero]; rfl)) (by kernel_rfl) (fun K hK => ?_) AllReadyE.nil
     refine step_append_re _ (by rfl) (.tmp 20) (.tmp 31) 79 (by rfl) w.heap.size 81 i0 (.agg #[.int .i64 0, .int .i64 0, .int .i64 0]) 24 Try.underlying79 hi hz0 hz1 hz2 rfl (.slice Au t[at_].length cu) t[at_].length (evs t[at_]) (by rfl) ((OT.out _ _ _ M).alloc _) (some ⟨wa.heap.size, 0, none⟩) [⟨r1, r2, r3⟩] 1 _ (by rfl) (rdE_new wa ⟨r1, r2, r3⟩ _) (by unfold maxLen; simp only [List.length_singleton]; omega) (by simp only [List.length_singleton]; omega) (by have := M.gr.size; simp; omega) ?_
     intro v5 w5 o5 g5 hat5
     have M4 := M.ale r1 r2 r3
     have ot4 := oT3.kept M4.gr (fun b e => by (simp at e; omega))
     have rk := ot4.row.kept g5 (own_sep fun b hb e => by (simp only [Value.ownBlock, Option.some.injEq] at hb; subst hb; exact hu3 _ e rfl))
     have hf5 := rk.frozenAt at_
     have hc5 : w5.cell? ⟨gv, at_, none⟩ = some (.slice Au t[at_].length cu) := (by rw [rk.cellAt at_ (by omega)]; exact hu)
     obtain ⟨D5, d5, hv5⟩ := own_shape o5
     rw [hv5] at o5 hat5
     rw [hv5]
     have HG := hide g5
     have HAT := hide hat5
     have HO := hide o5
     have OT4 := hide ot4
     clear g5 hat5 hv5 o5 rk ot4
     refine hK.out _ _ ?_
     clear hK K
     try simp only [Act.put, List.setIfInBounds_toArray, List.set_cons_zero, List.set_cons_succ]
     refine wpAnyE_take (i := 18) (v := ?_) (by (simp only [List.getElem?_toArray, List.getElem?_cons_succ, List.getElem?_cons_zero]; rfl)) (by kernel_rfl) (by kernel_rfl) (by kernel_rfl) (by decide) (by exact fun _ _ _ h => h) (.inl (by kernel_rfl)) (Or.inl ⟨by rfl, ?_⟩) ?_
     rotate_left
     ·(intro w' _; go_simp <;> with_reducible rfl)
     try simp only [Act.put, List.setIfInBounds_toArray, List.set_cons_zero, List.set_cons_succ]
     refine wpAnyE_ready (rs := [19]) (by kernel_rfl) (by simp) ?_
     refine AllReadyE.last (by (simp only [List.getElem?_toArray, List.getElem?_cons_succ, List.getElem?_cons_zero]; rfl)) (by kernel_rfl) (fun K hK => ?_) AllReadyE.nil
     go_simp
     refine hK.out _ _ ?_
     clear hK K
     try simp only [Act.put, List.setIfInBounds_toArray, List.set_cons_zero, List.set_cons_succ]
     refine wpAnyE_done (by kernel_rfl) ?_ _
     go_wp2
     go_ret
     have oS := OT4.out.swap (es' := t[at_] ++ [⟨r1, r2, r3⟩]) hu HG.out (fun b e => .inl e) (by rw [List.length_append, evs_append]; exact HO.out) (fun b hb => by
      rcases HAT.out with e | e
      ·exact .inl (e.symm.trans hb)
      ·rw [e] at hb; simp only [Option.some.injEq] at hb; exact .inr (Nat.le_of_eq hb))
     have rw4 := OT.out _ _ _ M4
     have G5 := grown_new (p := ⟨gv, at_, none⟩) hgv.1 (.slice D5 (t[at_].length + 1) d5) ((G3.trans M4.gr).andThen HG.out (fun j hj => .inl (rw4.lt j hj).1))
     have hb5 := grown_below rw4 HG.out (by have := M4.gr.size; omega) (Nat.le_refl _)
     have S5 := (M4.src.below hb5 hgl).below (B := w.heap.size) ((Below.refl _ _).setCell (p := ⟨gv, at_, none⟩) hgv.1 (.slice D5 (t[at_].length + 1) d5)) hgl
     exact ⟨t.set at_ (t[at_] ++ [⟨r1, r2, r3⟩]), some ⟨gv, 0, none⟩, d, (by rw [List.length_set]; rfl), by rw [List.length_set]; omega, set_len hall20 (by rw [List.length_append]; simp; omega), fun w2 hg => (oS.kept hg (fun b e => by simp at e; omega)).rd_ (by rw [List.length_set]), k1 + 2 + 1 + 1 + 1, by omega, S5, G5⟩
    refine AllReadyE.cons (by (simp only [List.getElem?_toArray, List.getElem?_cons_succ, List.getElem?_cons_zero]; rfl)) (fun K hK => ?_) ?_
    ·skip
     go_simp
     replace M := Mid.al M 0 (-1) 1000000
     refine hK.out _ _ (MC.out _ _ _ M) (fun hNew => ?_)
     replace hHeld := hNew
     clear hK K hNew
     try simp only [Act.put, List.setIfInBounds_toArray, List.set_cons_zero, List.set_cons_succ]
     refine wpAnyE_ready (rs := [8]) (by kernel_rfl) (by simp) ?_
     refine AllReadyE.cons (by (simp only [List.getElem?_toArray, List.getElem?_cons_succ, List.getElem?_cons_zero]; rfl)) (fun K hK => ?_) AllReadyE.nil
     go_simp
     go_at_call 50
     refine (pick_mid (w0 := w3) (A := A) (c := c) (l := l) _ [-1, 2, 1] ⟨_, _, M, by omega, by simp⟩ (by simp) (by simp)).mono ?_
     rintro e wa ⟨r1, rfl, N⟩
     replace M := N _ _ M
     clear N
     refine hK.out _ _ (MC.out _ _ _ M) (fun hNew => ?_)
     replace hHeld := hNew
     clear hK K hNew
     try simp only [Act.put, List.setIfInBounds_toArray, List.set_cons_zero, List.set_cons_succ]
     refine wpAnyE_ready (rs := [11]) (by kernel_rfl) (by simp) ?_
     refine AllReadyE.cons (by (simp only [List.getElem?_toArray, List.getElem?_cons_succ, List.getElem?_cons_zero]; rfl)) (fun K hK => ?_) AllReadyE.nil
     go_simp
     go_at_call 50
     refine (pick_mid (w0 := w3) (A := A) (c := c) (l := l) _ [0, -1, 1000000] ⟨_, _, M, by omega, by simp⟩ (by simp) (by simp)).mono ?_
     rintro e wa ⟨r2, rfl, N⟩
     replace M := N _ _ M
     clear N
     refine hK.out _ _ (MC.out _ _ _ M) (fun hNew => ?_)
     replace hHeld := hNew
     clear hK K hNew
     try simp only [Act.put, List.setIfInBounds_toArray, List.set_cons_zero, List.set_cons_succ]
     refine wpAnyE_ready (rs := [14]) (by kernel_rfl) (by simp) ?_
     refine AllReadyE.cons (by (simp only [List.getElem?_toArray, List.getElem?_cons_succ, List.getElem?_cons_zero]; rfl)) (fun K hK => ?_) AllReadyE.nil
     go_simp
     go_at_call 50
     refine (pick_mid (w0 := w3) (A := A) (c := c) (l := l) _ [0, 1000000, -1] ⟨_, _, M, by omega, by simp⟩ (by simp) (by simp)).mono ?_
     rintro e wa ⟨r3, rfl, N⟩
     replace M := N _ _ M
     clear N
     refine hK.out _ _ (MC.out _ _ _ M) (fun hNew => ?_)
     replace hHeld := hNew
     clear hK K hNew
     try simp only [Act.put, List.setIfInBounds_toArray, List.set_cons_zero, List.set_cons_succ]
     refine wpAnyE_take (i := 15) (v := ?_) (by (simp only [List.getElem?_toArray, List.getElem?_cons_succ, List.getElem?_cons_zero]; rfl)) (by kernel_rfl) (by kernel_rfl) (by kernel_rfl) (by decide) (by exact fun _ _ _ h => h) (.inr hHeld) (Or.inl ⟨by rfl, ?_⟩) ?_
     rotate_left
     ·(intro w' _; go_simp <;> with_reducible rfl)
     try simp only [Act.put, List.setIfInBounds_toArray, List.set_cons_zero, List.set_cons_succ]
     refine wpAnyE_ready (rs := [16]) (by kernel_rfl) (by simp) ?_
     refine AllReadyE.cons (by (simp only [List.getElem?_toArray, List.getElem?_cons_succ, List.getElem?_cons_zero]; rfl)) (fun K hK => ?_) AllReadyE.nil
     go_simp
     refine hK.out _ _ (MC.out _ _ _ (Mid.ale M _ _ _)) (fun hNew => ?_)
     clear hK K hNew hHeld
     try simp only [Act.put, List.setIfInBounds_toArray, List.set_cons_zero, List.set_cons_succ]
     refine wpAnyE_ready (rs := [17]) (by kernel_rfl) (by simp) ?_
     refine AllReadyE.last (by (simp only [List.getElem?_toArray, List.getElem?_cons_succ, List.getElem?_cons_zero]; rfl)) (by kernel_rfl) (fun K hK => ?_) AllReadyE.nil
     refine step_append_re _ (by rfl) (.tmp 20) (.tmp 31) 79 (by rfl) w.heap.size 81 i0 (.agg #[.int .i64 0, .int .i64 0, .int .i64 0]) 24 Try.underlying79 hi hz0 hz1 hz2 rfl (.slice Au t[at_].length cu) t[at_].length (evs t[at_]) (by rfl) ((OT.out _ _ _ M).alloc _) (some ⟨wa.heap.size, 0, none⟩) [⟨r1, r2, r3⟩] 1 _ (by rfl) (rdE_new wa ⟨r1, r2, r3⟩ _) (by unfold maxLen; simp only [List.length_singleton]; omega) (by simp only [List.length_singleton]; omega) (by have := M.gr.size; simp; omega) ?_
     intro v5 w5 o5 g5 hat5
     have M4 := M.ale r1 r2 r3
     have ot4 := oT3.kept M4.gr (fun b e => by (simp at e; omega))
     have rk := ot4.row.kept g5 (own_sep fun b hb e => by (simp only [Value.ownBlock, Option.some.injEq] at hb; subst hb; exact hu3 _ e rfl))
     have hf5 := rk.frozenAt at_
     have hc5 : w5.cell? ⟨gv, at_, none⟩ = some (.slice Au t[at_].length cu) := (by rw [rk.cellAt at_ (by omega)]; exact hu)
     obtain ⟨D5, d5, hv5⟩ := own_shape o5
     rw [hv5] at o5 hat5
     rw [hv5]
     have HG := hide g5
     have HAT := hide hat5
     have HO := hide o5
     have OT4 := hide ot4
     clear g5 hat5 hv5 o5 rk ot4
     refine hK.out _ _ ?_
     clear hK K
     try simp only [Act.put, List.setIfInBounds_toArray, List.set_cons_zero, List.set_cons_succ]
     refine wpAnyE_take (i := 18) (v := ?_) (by (simp only [List.getElem?_toArray, List.getElem?_cons_succ, List.getElem?_cons_zero]; rfl)) (by kernel_rfl) (by kernel_rfl) (by kernel_rfl) (by decide) (by exact fun _ _ _ h => h) (.inl (by kernel_rfl)) (Or.inl ⟨by rfl, ?_⟩) ?_
     rotate_left
     ·(intro w' _; go_simp <;> with_reducible rfl)
     try simp only [Act.put, List.setIfInBounds_toArray, List.set_cons_zero, List.set_cons_succ]
     refine wpAnyE_ready (rs := [19]) (by kernel_rfl) (by simp) ?_
     refine AllReadyE.last (by (simp only [List.getElem?_toArray, List.getElem?_cons_succ, List.getElem?_cons_zero]; rfl)) (by kernel_rfl) (fun K hK => ?_) AllReadyE.nil
     go_simp
     refine hK.out _ _ ?_
     clear hK K
     try simp only [Act.put, List.setIfInBounds_toArray, List.set_cons_zero, List.set_cons_succ]
     refine wpAnyE_done (by kernel_rfl) ?_ _
     go_wp2
     go_ret
     have oS := OT4.out.swap (es' := t[at_] ++ [⟨r1, r2, r3⟩]) hu HG.out (fun b e => .inl e) (by rw [List.length_append, evs_append]; exact HO.out) (fun b hb => by
      rcases HAT.out with e | e
      ·exact .inl (e.symm.trans hb)
      ·rw [e] at hb; simp only [Option.some.injEq] at hb; exact .inr (Nat.le_of_eq hb))
     have rw4 := OT.out _ _ _ M4
     have G5 := grown_new (p := ⟨gv, at_, none⟩) hgv.1 (.slice D5 (t[at_].length + 1) d5) ((G3.trans M4.gr).andThen HG.out (fun j hj => .inl (rw4.lt j hj).1))
     have hb5 := grown_below rw4 HG.out (by have := M4.gr.size; omega) (Nat.le_refl _)
     have S5 := (M4.src.below hb5 hgl).below (B := w.heap.size) ((Below.refl _ _).setCell (p := ⟨gv, at_, none⟩) hgv.1 (.slice D5 (t[at_].length + 1) d5)) hgl
     exact ⟨t.set at_ (t[at_] ++ [⟨r1, r2, r3⟩]), some ⟨gv, 0, none⟩, d, (by rw [List.length_set]; rfl), by rw [List.length_set]; omega, set_len hall20 (by rw [List.length_append]; simp; omega), fun w2 hg => (oS.kept hg (fun b e => by simp at e; omega)).rd_ (by rw [List.length_set]), k1 + 2 + 1 + 1 + 1, by omega, S5, G5⟩
    exact AllReadyE.nil
   refine AllReadyE.cons (by (simp only [List.getElem?_toArray, List.getElem?_cons_succ, List.getElem?_cons_zero]; rfl)) (fun K hK => ?_) ?_
   ·skip
    go_simp
    replace M := Mid.al M 0 (-1) 1000000
    refine hK.out _ _ (MC.out _ _ _ M) (fun hNew => ?_)
    replace hHeld := hNew
    clear hK K hNew
    try simp only [Act.put, List.setIfInBounds_toArray, List.set_cons_zero, List.set_cons_succ]
    refine wpAnyE_ready (rs := [7]) (by kernel_rfl) (by simp) ?_
    refine AllReadyE.cons (by (simp only [List.getElem?_toArray, List.getElem?_cons_succ, List.getElem?_cons_zero]; rfl)) (fun K hK => ?_) AllReadyE.nil
    go_simp
    replace M := Mid.al M (-1) 2 1
    refine hK.out _ _ (MC.out _ _ _ M) (fun hNew => ?_)
    replace hHeld := hNew
    clear hK K hNew
    try simp only [Act.put, List.setIfInBounds_toArray, List.set_cons_zero, List.set_cons_succ]
    refine wpAnyE_ready (rs := [8]) (by kernel_rfl) (by simp) ?_
    refine AllReadyE.cons (by (simp only [List.getElem?_toArray, List.getElem?_cons_succ, List.getElem?_cons_zero]; rfl)) (fun K hK => ?_) AllReadyE.nil
    go_simp
    go_at_call 50
    refine (pick_mid (w0 := w3) (A := A) (c := c) (l := l) _ [-1, 2, 1] ⟨_, _, M, by omega, by simp⟩ (by simp) (by simp)).mono ?_
    rintro e wa ⟨r1, rfl, N⟩
    replace M := N _ _ M
    clear N
    refine hK.out _ _ (MC.out _ _ _ M) (fun hNew => ?_)
    replace hHeld := hNew
    clear hK K hNew
    try simp only [Act.put, List.setIfInBounds_toArray, List.set_cons_zero, List.set_cons_succ]
    refine wpAnyE_ready (rs := [11]) (by kernel_rfl) (by simp) ?_
    refine AllReadyE.cons (by (simp only [List.getElem?_toArray, List.getElem?_cons_succ, List.getElem?_cons_zero]; rfl)) (fun K hK => ?_) AllReadyE.nil
    go_simp
    go_at_call 50
    refine (pick_mid (w0 := w3) (A := A) (c := c) (l := l) _ [0, -1, 1000000] ⟨_, _, M, by omega, by simp⟩ (by simp) (by simp)).mono ?_
    rintro e wa ⟨r2, rfl, N⟩
    replace M := N _ _ M
    clear N
    refine hK.out _ _ (MC.out _ _ _ M) (fun hNew => ?_)
    replace hHeld := hNew
    clear hK K hNew
    try simp only [Act.put, List.setIfInBounds_toArray, List.set_cons_zero, List.set_cons_succ]
    refine wpAnyE_ready (rs := [14]) (by kernel_rfl) (by simp) ?_
    refine AllReadyE.cons (by (simp only [List.getElem?_toArray, List.getElem?_cons_succ, List.getElem?_cons_zero]; rfl)) (fun K hK => ?_) AllReadyE.nil
    go_simp
    go_at_call 50
    refine (pick_mid (w0 := w3) (A := A) (c := c) (l := l) _ [0, 1000000, -1] ⟨_, _, M, by omega, by simp⟩ (by simp) (by simp)).mono ?_
    rintro e wa ⟨r3, rfl, N⟩
    replace M := N _ _ M
    clear N
    refine hK.out _ _ (MC.out _ _ _ M) (fun hNew => ?_)
    replace hHeld := hNew
    clear hK K hNew
    try simp only [Act.put, List.setIfInBounds_toArray, List.set_cons_zero, List.set_cons_succ]
    refine wpAnyE_take (i := 15) (v := ?_) (by (simp only [List.getElem?_toArray, List.getElem?_cons_succ, List.getElem?_cons_zero]; rfl)) (by kernel_rfl) (by kernel_rfl) (by kernel_rfl) (by decide) (by exact fun _ _ _ h => h) (.inr hHeld) (Or.inl ⟨by rfl, ?_⟩) ?_
    rotate_left
    ·(intro w' _; go_simp <;> with_reducible rfl)
    try simp only [Act.put, List.setIfInBounds_toArray, List.set_cons_zero, List.set_cons_succ]
    refine wpAnyE_ready (rs := [16]) (by kernel_rfl) (by simp) ?_
    refine AllReadyE.cons (by (simp only [List.getElem?_toArray, List.getElem?_cons_succ, List.getElem?_cons_zero]; rfl)) (fun K hK => ?_) AllReadyE.nil
    go_simp
    refine hK.out _ _ (MC.out _ _ _ (Mid.ale M _ _ _)) (fun hNew => ?_)
    clear hK K hNew hHeld
    try simp only [Act.put, List.setIfInBounds_toArray, List.set_cons_zero, List.set_cons_succ]
    refine wpAnyE_ready (rs := [17]) (by kernel_rfl) (by simp) ?_
    refine AllReadyE.last (by (simp only [List.getElem?_toArray, List.getElem?_cons_succ, List.getElem?_cons_zero]; rfl)) (by kernel_rfl) (fun K hK => ?_) AllReadyE.nil
    refine step_append_re _ (by rfl) (.tmp 20) (.tmp 31) 79 (by rfl) w.heap.size 81 i0 (.agg #[.int .i64 0, .int .i64 0, .int .i64 0]) 24 Try.underlying79 hi hz0 hz1 hz2 rfl (.slice Au t[at_].length cu) t[at_].length (evs t[at_]) (by rfl) ((OT.out _ _ _ M).alloc _) (some ⟨wa.heap.size, 0, none⟩) [⟨r1, r2, r3⟩] 1 _ (by rfl) (rdE_new wa ⟨r1, r2, r3⟩ _) (by unfold maxLen; simp only [List.length_singleton]; omega) (by simp only [List.length_singleton]; omega) (by have := M.gr.size; simp; omega) ?_
    intro v5 w5 o5 g5 hat5
    have M4 := M.ale r1 r2 r3
    have ot4 := oT3.kept M4.gr (fun b e => by (simp at e; omega))
    have rk := ot4.row.kept g5 (own_sep fun b hb e => by (simp only [Value.ownBlock, Option.some.injEq] at hb; subst hb; exact hu3 _ e rfl))
    have hf5 := rk.frozenAt at_
    have hc5 : w5.cell? ⟨gv, at_, none⟩ = some (.slice Au t[at_].length cu) := (by rw [rk.cellAt at_ (by omega)]; exact hu)
    obtain ⟨D5, d5, hv5⟩ := own_shape o5
    rw [hv5] at o5 hat5
    rw [hv5]
    have HG := hide g5
    have HAT := hide hat5
    have HO := hide o5
    have OT4 := hide ot4
    clear g5 hat5 hv5 o5 rk ot4
    refine hK.out _ _ ?_
    clear hK K
    try simp only [Act.put, List.setIfInBounds_toArray, List.set_cons_zero, List.set_cons_succ]
    refine wpAnyE_take (i := 18) (v := ?_) (by (simp only [List.getElem?_toArray, List.getElem?_cons_succ, List.getElem?_cons_zero]; rfl)) (by kernel_rfl) (by kernel_rfl) (by kernel_rfl) (by decide) (by exact fun _ _ _ h => h) (.inl (by kernel_rfl)) (Or.inl ⟨by rfl, ?_⟩) ?_
    rotate_left
    ·(intro w' _; go_simp <;> with_reducible rfl)
    try simp only [Act.put, List.setIfInBounds_toArray, List.set_cons_zero, List.set_cons_succ]
    refine wpAnyE_ready (rs := [19]) (by kernel_rfl) (by simp) ?_
    refine AllReadyE.last (by (simp only [List.getElem?_toArray, List.getElem?_cons_succ, List.getElem?_cons_zero]; rfl)) (by kernel_rfl) (fun K hK => ?_) AllReadyE.nil
    go_simp
    refine hK.out _ _ ?_
    clear hK K
    try simp only [Act.put, List.setIfInBounds_toArray, List.set_cons_zero, List.set_cons_succ]
    refine wpAnyE_done (by kernel_rfl) ?_ _
    go_wp2
    go_ret
    have oS := OT4.out.swap (es' := t[at_] ++ [⟨r1, r2, r3⟩]) hu HG.out (fun b e => .inl e) (by rw [List.length_append, evs_append]; exact HO.out) (fun b hb => by
     rcases HAT.out with e | e
     ·exact .inl (e.symm.trans hb)
     ·rw [e] at hb; simp only [Option.some.injEq] at hb; exact .inr (Nat.le_of_eq hb))
    have rw4 := OT.out _ _ _ M4
    have G5 := grown_new (p := ⟨gv, at_, none⟩) hgv.1 (.slice D5 (t[at_].length + 1) d5) ((G3.trans M4.gr).andThen HG.out (fun j hj => .inl (rw4.lt j hj).1))
    have hb5 := grown_below rw4 HG.out (by have := M4.gr.size; omega) (Nat.le_refl _)
    have S5 := (M4.src.below hb5 hgl).below (B := w.heap.size) ((Below.refl _ _).setCell (p := ⟨gv, at_, none⟩) hgv.1 (.slice D5 (t[at_].length + 1) d5)) hgl
    exact ⟨t.set at_ (t[at_] ++ [⟨r1, r2, r3⟩]), some ⟨gv, 0, none⟩, d, (by rw [List.length_set]; rfl), by rw [List.length_set]; omega, set_len hall20 (by rw [List.length_append]; simp; omega), fun w2 hg => (oS.kept hg (fun b e => by simp at e; omega)).rd_ (by rw [List.length_set]), k1 + 2 + 1 + 1 + 1, by omega, S5, G5⟩
   exact AllReadyE.nil
  exact AllReadyE.nil
 ·by_cases e1 : s = 1
  ·subst e1
   clear e0
   go_wp2_with fail
   refine (l1Pick_any g (k1 + 2) _ [8, 9] A c l _ _ (S3.alloc _) (by omega) (by simp) (by simp) (Bk.new _ _ _) (by have := S3.lt; omega)).mono ?_
   rintro e w4 ⟨r, rfl, hm, S4, g4⟩
   have oT4 := (oT3.alloc (.cells #[.int .i64 8, .int .i64 9] 2)).kept g4 (fun b e => by simp at e; omega)
   have G4 := G3.trans (grown_alloc g4)
   have hm' : r = 8 ∨ r = 9 := by simpa using hm
   obtain ⟨n, rfl⟩ := Int.eq_ofNat_of_zero_le (show 0 ≤ r by omega)
   have hn : n ≤ 9 := by omega
   have z4 := G4.size
   have hf4 := oT4.row.frozenAt at_
   have hc4 : w4.cell? ⟨gv, at_, none⟩ = some u := by
    rw [oT4.row.cellAt at_ (by omega)]
    exact hu
   clear hm hm' g4 hc hf S3 oT3 G3
   go_wp2_with (at_make; refine wpList_make_full _ rfl _ _ 79 rfl w4.heap.size 81 i0 (.agg #[.int .i64 0, .int .i64 0, .int .i64 0]) 3 Try.underlying79 hi hz0 hz1 .i64 .i64 _ _ n rfl rfl rfl rfl (by rw [hz2]; omega) (by unfold maxLen; omega) (Nat.le_refl _) ?_; intro w5 hown5 g5; have hf5 : w5.frozen? ⟨gv, at_, none⟩ = false := (oT4.kept g5 (fun b e => by cases e)).row.frozenAt at_; have hc5 : w5.cell? ⟨gv, at_, none⟩ = some u := by (rw [(oT4.kept g5 (fun b e => by cases e)).row.cellAt at_ (by omega)]; exact hu))
   rw [made_event, ← evs_zero] at hown5
   have hl5 : (List.replicate n zeroE).length = n := List.length_replicate
   have oT5 := oT4.swap hu g5 (fun b e => by cases e) (u' := .slice (some ⟨w4.heap.size, 0, none⟩) n n) (es' := List.replicate n zeroE) (by rw [hl5]; exact own_mono hown5 z4) (fun b hb => by simp [Value.ownBlock] at hb; omega)
   have hb5 : Below w4.heap.size w4 w5 := (Below.refl _ _).grown g5 (Nat.le_refl _) (by simp)
   have S5 := (S4.below hb5 S4.lt).below (B := g + 1) ((Below.refl _ _).setCell (p := ⟨gv, at_, none⟩) (by simp only; omega) (.slice (some ⟨w4.heap.size, 0, none⟩) n n)) (Nat.lt_succ_self _)
   have G5 := grown_new (p := ⟨gv, at_, none⟩) (by simp only; omega) (.slice (some ⟨w4.heap.size, 0, none⟩) n n) (G4.trans (grown_of_below (some g) hb5))
   clear g5 hown5 hb5
   go_wp2
   go_ret
   exact ⟨t.set at_ (List.replicate n zeroE), some ⟨gv, 0, none⟩, d, (by rw [List.length_set]; rfl), by rw [List.length_set]; omega, set_len hall20 (by rw [hl5]; omega), fun w2 hg => (oT5.kept hg (fun b e => by simp at e; omega)).rd_ (by rw [List.length_set]), k1 + 3, by omega, S5, G5⟩
  ·by_cases e2 : s = 2
   ·subst e2
    clear e0 e1
    go_wp2_with fail
    refine (l1Pick_any g (k1 + 2) _ [0, 4, 5] A c l _ _ (S3.alloc _) (by omega) (by simp) (by simp) (Bk.new _ _ _) (by have := S3.lt; omega)).mono ?_
    rintro e w4 ⟨r, rfl, hm, S4, g4⟩
    have G4 := G3.trans (grown_alloc g4)
    have hm' : r = 0 ∨ r = 4 ∨ r = 5 := by simpa using hm
    obtain ⟨n, rfl⟩ := Int.eq_ofNat_of_zero_le (show 0 ≤ r by omega)
    have hn : n ≤ 5 := by omega
    clear hm hm' g4
    go_wp2_with (at_make; refine wpList_make_full _ rfl _ _ 31 rfl w4.heap.size 79 j0 (.slice none 0 0) 1 Try.underlying31 hj hy0 hy1 .i64 .i64 _ _ n rfl rfl rfl rfl (by rw [hy2]; omega) (by unfold maxLen; omega) (Nat.le_refl _) ?_; intro w5 hown5 g5)
    rw [made_nil] at hown5
    have hb5 : Below w4.heap.size w4 w5 := (Below.refl _ _).grown g5 (Nat.le_refl _) (by simp)
    go_ret
    refine ⟨List.replicate n [], some ⟨w4.heap.size, 0, none⟩, n, by simp, by simpa using hn, by intro x hx; rw [List.eq_of_mem_replicate hx]; simp, fun w2 hg => rdT_nils (hown5.kept hg (own_sep fun b hb e => by simp [Value.ownBlock] at hb e; have := S4.lt; omega)), k1 + 3, by omega, S4.below hb5 S4.lt, G4.trans (grown_of_below (some g) hb5)⟩
   ·have b0 : (s == 0) = false := beq_eq_false_iff_ne.2 e0
    have b1 : (s == 1) = false := beq_eq_false_iff_ne.2 e1
    have b2 : (s == 2) = false := beq_eq_false_iff_ne.2 e2
    clear e0 e1 e2
    go_wp2
    go_ret
    exact ⟨t, _, _, rfl, by omega, hall20, fun w2 hg => (oT3.kept hg (fun b e => by simp at e; omega)).rd, k1 + 2, by omega, S3, G3⟩
end Go.Proofs.Ytnnfkmjhaljplaa
