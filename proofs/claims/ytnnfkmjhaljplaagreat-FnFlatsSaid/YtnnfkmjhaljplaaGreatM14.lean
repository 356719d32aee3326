/- What the laws' walks rest upon, part 14. -/
import Derived.Test.YtnnfkmjhaljplaaGreatM05
import Derived.Test.YtnnfkmjhaljplaaGreatM10
import Derived.Test.YtnnfkmjhaljplaaGreatM04
import Derived.Test.YtnnfkmjhaljplaaGreatM13
namespace Go.Proofs.YtnnfkmjhaljplaaGreat
open Go.RowKit
section
variable {w0 w w' : World} {g k : Nat} {A : Option Addr} {c : Nat} {l : List Int} {L : List (Nat × List Int)}
theorem Mid.alo (h : Mid w0 g A c l k L w) (o : Obj) : Mid w0 g A c l k L (w.alloc o) :=
  ⟨h.src.alloc _, h.gr.trans (World.grownBy_alloc _ _ _), fun p hp => ⟨(h.arr p hp).1.alloc _, (h.arr p hp).2⟩⟩
end
/-- Where the draw stands: the log in a row of the call's own, its variable in block q. -/
structure LgS (w : World) (g q k : Nat) (A : Option Addr) (c : Nat) (l : List Int) (cd : Int) (L : List Stp) (v : Value) (w' : World) : Prop where
  box : Bk w' q #[.int .i64 cd, v] 75
  row : w'.ownsRow w.heap.size 66 4 v L.length (stps L)
  sep : ∀ b, v.ownBlock = some b → b ≠ q
  src : Src w' g A c l k
  gr : w.grownBy w' (some g)
  hg : g < w.heap.size
  hq : w.heap.size ≤ q
section
variable {w w1 w2 : World} {g q k k' : Nat} {A : Option Addr} {c : Nat} {l : List Int} {cd : Int} {L : List Stp} {v v5 : Value} {x : Stp}
theorem LgS.went (h : LgS w g q k A c l cd L v w1) (hS : Src w2 g A c l k') (hg : w1.grownBy w2 (some g)) : LgS w g q k' A c l cd L v w2 :=
  ⟨h.box.grown hg (by have := h.hg; have := h.hq; simp; omega), h.row.kept hg (own_sep fun b hb e => by have := h.row.lt b hb; have := h.hg; simp at e; omega), h.sep, hS, h.gr.trans hg, h.hg, h.hq⟩
/-- Another row in the log's place. -/
theorem LgS.put (h : LgS w g q k A c l cd L v w1) {L' : List Stp} (hg : w1.grownBy w2 v.ownBlock ∨ w1.grownBy w2 none) (ho : w2.ownsRow w.heap.size 66 4 v5 L'.length (stps L')) (hat : v5.ownBlock = v.ownBlock ∨ ∃ b, v5.ownBlock = some b ∧ w1.heap.size ≤ b) :
    (w2.cell? ⟨q, 1, none⟩ = some v ∧ w2.frozen? ⟨q, 1, none⟩ = false) ∧ LgS w g q k A c l cd L' v5 (w2.setCell ⟨q, 1, none⟩ v5) := by
  have hgl := h.hg
  have hql := h.hq
  have hqz := h.box.lt
  obtain ⟨row, hg', hr⟩ : ∃ row, w1.grownBy w2 row ∧ ∀ b, row = some b → b ≠ q ∧ w.heap.size ≤ b := by
    rcases hg with hg | hg
    · exact ⟨_, hg, fun b hb => ⟨h.sep b hb, (h.row.lt b hb).1⟩⟩
    · exact ⟨_, hg, fun b hb => by cases hb⟩
  have kq := h.box.grown hg' (fun e => (hr q e.symm).1 rfl)
  have hne : ∀ b, v5.ownBlock = some b → b ≠ q := fun b hb => by
    rcases hat with e | ⟨b', e, hz⟩
    · exact h.sep b (by rw [← e]; exact hb)
    · rw [e] at hb; simp at hb; omega
  refine ⟨⟨(kq.cell 1).trans rfl, kq.frozen 1⟩, ?_, ?_, hne, ?_, ?_, hgl, hql⟩
  · have := kq.set_ 1 v5
    exact this
  · exact ho.kept (grown_set w2 q 1 v5) (own_sep fun b hb e => hne b hb (by simpa using e.symm))
  · exact h.src.below (B := g + 1) (((Below.refl _ _).grown hg' (by have := h.src.lt; omega) (fun b hb => by have := (hr b hb).2; omega)).setCell (by simp only; omega) _) (Nat.lt_succ_self _)
  · exact grown_row (grown_row h.gr hg' (fun b hb => (hr b hb).2)) (grown_set w2 q 1 v5) (fun b hb => by cases hb; exact hql)
end
/-- What is drawn: a log in a row of the call's own, and a number of cores. -/
def LogPost (w : World) (g : Nat) (A : Option Addr) (c : Nat) (l : List Int) (k : Nat) (e : Ending) (w' : World) : Prop :=
  ∃ (ss : List Stp) (D : Option Addr) (d : Nat) (n : Int), e = .returned (.tuple #[.slice D ss.length d, .int .i64 n]) ∧ ss.length ≤ 200 ∧ w'.ownsRow w.heap.size 66 4 (.slice D ss.length d) ss.length (stps ss) ∧ Went w g A c l k 400 w'
set_option maxRecDepth 100000 in
set_option maxHeartbeats 4000000 in
theorem l6Log_any (g k : Nat) (A : Option Addr) (c : Nat) (l : List Int) (w : World) (hS : Src w g A c l k) (hk : k ≤ 100) :
    Calls Tryz.prog 18 #[.pointer (some ⟨g, 0, none⟩)] w (LogPost w g A c l k) := by
  unfold LogPost
  obtain ⟨i0, hi, hz0, hz1, hz2⟩ := info_parts info_step
  have hgl := hS.lt
  go_enter Tryz.func18, Tryz.ntmps18
  go_wp2_with fail
  refine (l2Trace_any g k 6 A c l _ hS (by omega) (by omega)).mono ?_
  rintro e w1 ⟨t, us, Dt, dt, rfl, ht1, ht4, hall, oT, k1, hk1, S1, g1⟩
  go_wp2_with fail
  refine (l6Picks_any g k1 A c l _ S1 (by omega)).mono ?_
  rintro e w2 ⟨ps, Dp, dp, rfl, hps, hpI, oP, k2, hk2, S2, g2⟩
  have oT2 := oT.kept g2 (fun b e => by cases e; exact hgl)
  have rT := oT2.rd
  have rP := Rd.of_own (k := .i64) oP
  have G2 := g1.trans g2
  clear oT oT2 oP g1 g2 S1
  go_wp2_with fail
  refine (specMg_any t ps Dt Dp dt dp w2 (by unfold maxLen; omega) (by unfold maxLen; omega) rT rP).mono ?_
  rintro e w3 ⟨DL, dL, rfl, oL, b3⟩
  have hLl := mgL_len t ps
  obtain ⟨L, hL⟩ : ∃ L, L = mgL t ps := ⟨_, rfl⟩
  obtain ⟨cd, hcd⟩ : ∃ cd, cd = mgC t ps := ⟨_, rfl⟩
  rw [← hL] at oL hLl ⊢
  rw [← hcd]
  have z2 := G2.size
  have s0 : LgS w g w3.heap.size k2 A c l cd L (.slice DL L.length dL) (w3.alloc (Obj.cells #[.int .i64 cd, .slice DL L.length dL] 75)) :=
    ⟨Bk.new _ _ _, (own_mono oL z2).alloc _, fun b hb e => by have := (oL.lt b hb).2; omega, (S2.below b3 S2.lt).alloc _, (grown_row (row := none) G2 ⟨b3.os, b3.tape, b3.output, b3.size, fun k hk _ => b3.block k hk⟩ (fun b hb => by cases hb)).trans (World.grownBy_alloc _ _ _), hgl, by have := b3.size; omega⟩
  obtain ⟨q, hq⟩ : ∃ q, q = w3.heap.size := ⟨_, rfl⟩
  rw [← hq] at s0
  have HQ := hide hq
  clear hq oL rT rP hL hcd G2 S2 b3
  go_wp2_with fail
  rw [← HQ.out]
  refine (l1Next_any g k2 12 A c l _ s0.src (by omega) (by omega) (by omega)).mono ?_
  rintro e w4 ⟨r, rfl, hr0, hr1, S4, g4⟩
  have s4 := s0.went S4 g4
  clear s0 S4 g4 hr1
  by_cases e0 : r = 0
  · subst e0
    go_wp2_with fail
    have M0 := Mid.start s4.src
    have MC : ∀ j Z w', Mid w4 g A c l j Z w' → w'.cell? ⟨q, 1, none⟩ = some (.slice DL L.length dL) := fun j Z w' M => ((s4.went M.src M.gr).box.cell 1).trans rfl
    have SM : ∀ j Z w', Mid w4 g A c l j Z w' → LgS w g q j A c l cd L (.slice DL L.length dL) w' := fun j Z w' M => s4.went M.src M.gr
    have HC := hide MC
    have HM := hide SM
    have M := Mid.dr M0
    clear M0 MC SM s4
    refine wp_region_F 12 (fun w' => True) (fun w' => w'.cell? ⟨q, 1, none⟩ = some (.slice DL L.length dL)) (by kernel_rfl) ⟨trivial, HC.out _ _ _ M⟩ (fun hHeld => ?_)
    try simp only [Act.put, List.setIfInBounds_toArray, List.set_cons_zero, List.set_cons_succ]
    refine wpAnyF_take (i := 0) (v := ?_) (by (simp only [List.getElem?_toArray, List.getElem?_cons_zero]; rfl)) (by kernel_rfl) (by kernel_rfl) (by kernel_rfl) (by decide) (by exact fun _ _ _ h => h) ⟨hHeld.1, .inr hHeld.2⟩ (Or.inl ⟨by rfl, ?_⟩) ?_
    rotate_left
    · (intro w' _; go_simp <;> with_reducible rfl)
    try simp only [Act.put, List.setIfInBounds_toArray, List.set_cons_zero, List.set_cons_succ]
    refine wpAnyF_load (i := 1) (v := ?_) (by (simp only [List.getElem?_toArray, List.getElem?_cons_succ, List.getElem?_cons_zero]; rfl)) (by kernel_rfl) (by kernel_rfl) (by kernel_rfl) (by decide) (by exact fun _ _ _ h => h) hHeld (by kernel_rfl) (by kernel_rfl) (Or.inl ⟨by rfl, ?_⟩) ?_
    rotate_left
    · (intro w' hSw; (try dsimp only at hSw); obtain hSb0 := hSw; go_simp <;> with_reducible rfl)
    try simp only [Act.put, List.setIfInBounds_toArray, List.set_cons_zero, List.set_cons_succ]
    refine wpAnyF_take (i := 2) (v := ?_) (by (simp only [List.getElem?_toArray, List.getElem?_cons_succ, List.getElem?_cons_zero]; rfl)) (by kernel_rfl) (by kernel_rfl) (by kernel_rfl) (by decide) (by exact fun _ _ _ h => h) ⟨hHeld.1, .inr hHeld.2⟩ (Or.inl ⟨by rfl, ?_⟩) ?_
    rotate_left
    · (intro w' _; go_simp <;> with_reducible rfl)
    try simp only [Act.put, List.setIfInBounds_toArray, List.set_cons_zero, List.set_cons_succ]
    refine wpAnyF_take (i := 3) (v := ?_) (by (simp only [List.getElem?_toArray, List.getElem?_cons_succ, List.getElem?_cons_zero]; rfl)) (by kernel_rfl) (by kernel_rfl) (by kernel_rfl) (by decide) (by exact fun _ _ _ h => h) ⟨hHeld.1, .inr hHeld.2⟩ (Or.inl ⟨by rfl, ?_⟩) ?_
    rotate_left
    · (intro w' _; go_simp <;> with_reducible rfl)
    try simp only [Act.put, List.setIfInBounds_toArray, List.set_cons_zero, List.set_cons_succ]
    refine wpAnyF_take (i := 6) (v := ?_) (by (simp only [List.getElem?_toArray, List.getElem?_cons_succ, List.getElem?_cons_zero]; rfl)) (by kernel_rfl) (by kernel_rfl) (by kernel_rfl) (by decide) (by exact fun _ _ _ h => h) ⟨hHeld.1, .inr hHeld.2⟩ (Or.inl ⟨by rfl, ?_⟩) ?_
    rotate_left
    · (intro w' _; go_simp <;> with_reducible rfl)
    try simp only [Act.put, List.setIfInBounds_toArray, List.set_cons_zero, List.set_cons_succ]
    refine wpAnyF_ready (rs := [4, 7]) (by kernel_rfl) (by simp) ?_
    refine AllReadyF.cons (by (simp only [List.getElem?_toArray, List.getElem?_cons_succ, List.getElem?_cons_zero]; rfl)) (fun K hK => ?_) ?_
    · skip
      go_simp
      replace M := Mid.al M (-1) (t.length : Int) 0
      refine hK.out _ _ ⟨trivial, HC.out _ _ _ M⟩ (fun hNew => ?_)
      replace hHeld := hNew
      clear hK K hNew
      try simp only [Act.put, List.setIfInBounds_toArray, List.set_cons_zero, List.set_cons_succ]
      refine wpAnyF_ready (rs := [5, 7]) (by kernel_rfl) (by simp) ?_
      refine AllReadyF.cons (by (simp only [List.getElem?_toArray, List.getElem?_cons_succ, List.getElem?_cons_zero]; rfl)) (fun K hK => ?_) ?_
      · skip
        go_simp
        go_at_call 21
        refine (pick_mid (w0 := w4) (A := A) (c := c) (l := l) _ [-1, (t.length : Int), 0] ⟨_, _, M, by omega, by simp⟩ (by simp) (by simp)).mono ?_
        rintro e wa ⟨x1, rfl, N⟩
        replace M := N _ _ M
        clear N
        refine hK.out _ _ ⟨trivial, HC.out _ _ _ M⟩ (fun hNew => ?_)
        replace hHeld := hNew
        clear hK K hNew
        try simp only [Act.put, List.setIfInBounds_toArray, List.set_cons_zero, List.set_cons_succ]
        refine wpAnyF_ready (rs := [7]) (by kernel_rfl) (by simp) ?_
        refine AllReadyF.cons (by (simp only [List.getElem?_toArray, List.getElem?_cons_succ, List.getElem?_cons_zero]; rfl)) (fun K hK => ?_) AllReadyF.nil
        go_simp
        replace M := Mid.al2 M 0 2
        refine hK.out _ _ ⟨trivial, HC.out _ _ _ M⟩ (fun hNew => ?_)
        replace hHeld := hNew
        clear hK K hNew
        try simp only [Act.put, List.setIfInBounds_toArray, List.set_cons_zero, List.set_cons_succ]
        refine wpAnyF_ready (rs := [8]) (by kernel_rfl) (by simp) ?_
        refine AllReadyF.cons (by (simp only [List.getElem?_toArray, List.getElem?_cons_succ, List.getElem?_cons_zero]; rfl)) (fun K hK => ?_) AllReadyF.nil
        go_simp
        go_at_call 21
        refine (pick_mid (w0 := w4) (A := A) (c := c) (l := l) _ [0, 2] ⟨_, _, M, by omega, by simp⟩ (by simp) (by simp)).mono ?_
        rintro e wa ⟨x2, rfl, N⟩
        replace M := N _ _ M
        clear N
        refine hK.out _ _ ⟨trivial, HC.out _ _ _ M⟩ (fun hNew => ?_)
        replace hHeld := hNew
        clear hK K hNew
        try simp only [Act.put, List.setIfInBounds_toArray, List.set_cons_zero, List.set_cons_succ]
        refine wpAnyF_take (i := 9) (v := ?_) (by (simp only [List.getElem?_toArray, List.getElem?_cons_succ, List.getElem?_cons_zero]; rfl)) (by kernel_rfl) (by kernel_rfl) (by kernel_rfl) (by decide) (by exact fun _ _ _ h => h) ⟨hHeld.1, .inr hHeld.2⟩ (Or.inl ⟨by rfl, ?_⟩) ?_
        rotate_left
        · (intro w' _; go_simp <;> with_reducible rfl)
        try simp only [Act.put, List.setIfInBounds_toArray, List.set_cons_zero, List.set_cons_succ]
        refine wpAnyF_take (i := 10) (v := ?_) (by (simp only [List.getElem?_toArray, List.getElem?_cons_succ, List.getElem?_cons_zero]; rfl)) (by kernel_rfl) (by kernel_rfl) (by kernel_rfl) (by decide) (by exact fun _ _ _ h => h) ⟨hHeld.1, .inr hHeld.2⟩ (Or.inl ⟨by rfl, ?_⟩) ?_
        rotate_left
        · (intro w' _; go_simp <;> with_reducible rfl)
        try simp only [Act.put, List.setIfInBounds_toArray, List.set_cons_zero, List.set_cons_succ]
        refine wpAnyF_ready (rs := [11]) (by kernel_rfl) (by simp) ?_
        refine AllReadyF.cons (by (simp only [List.getElem?_toArray, List.getElem?_cons_succ, List.getElem?_cons_zero]; rfl)) (fun K hK => ?_) AllReadyF.nil
        go_simp
        refine hK.out _ _ ⟨trivial, HC.out _ _ _ (Mid.alo M _)⟩ (fun hNew => ?_)
        clear hK K hHeld
        have hHeld := hNew
        clear hNew
        try simp only [Act.put, List.setIfInBounds_toArray, List.set_cons_zero, List.set_cons_succ]
        have s5 := HM.out _ _ _ (Mid.alo M (.cells #[.int .i64 x1, .int .i64 x2, .int .i64 0, .int .i64 0] 66))
        have hBl := RdP.one_new wa ⟨x1, ⟨x2, 0, 0⟩⟩ 66
        have zM := M.gr.size
        have z4 := s5.gr.size
        refine wpAnyF_ready (rs := [12]) (by kernel_rfl) (by simp) ?_
        refine AllReadyF.last (by (simp only [List.getElem?_toArray, List.getElem?_cons_succ, List.getElem?_cons_zero]; rfl)) (by kernel_rfl) (fun K hK => ?_) AllReadyF.nil
        refine step_append_rp _ (by rfl) (.tmp 20) (.tmp 30) 24 (by rfl) w.heap.size 66 i0 (.agg #[.int .i64 0, .int .i64 0, .int .i64 0, .int .i64 0]) 32 Tryz.underlying24 hi hz0 hz1 hz2 rfl (.slice DL L.length dL) L.length _ (by rfl) s5.row (some ⟨wa.heap.size, 0, none⟩) [⟨x1, ⟨x2, 0, 0⟩⟩] 1 (wa.heap.size + 1) (by rfl) hBl (by unfold maxLen; simp only [List.length_cons, List.length_nil]; omega) (by simp only [List.length_cons, List.length_nil]; omega) z4 ?_
        intro v5 w5 o5 g5 hat5
        obtain ⟨D5, d5, hv5⟩ := own_shape o5
        subst hv5
        have o6 : w5.ownsRow w.heap.size 66 4 (.slice D5 (L ++ [(⟨x1, ⟨x2, 0, 0⟩⟩ : Stp)]).length d5) (L ++ [(⟨x1, ⟨x2, 0, 0⟩⟩ : Stp)]).length (stps (L ++ [(⟨x1, ⟨x2, 0, 0⟩⟩ : Stp)])) := by rw [stps_append, List.length_append]; exact o5
        obtain ⟨⟨c5, f5⟩, s6⟩ := s5.put (.inl g5) o6 (by rw [List.length_append]; rcases hat5 with e | e; exact .inl e; exact .inr ⟨_, e, Nat.le_refl _⟩)
        simp only [List.length_append, List.length_cons, List.length_nil, Nat.zero_add] at s6 o6
        have S6 := hide s6
        have O6 := hide o6
        clear o5 g5 hat5 hBl s5 s6 o6
        refine hK.out _ _ trivial ?_
        clear hK K
        try simp only [Act.put, List.setIfInBounds_toArray, List.set_cons_zero, List.set_cons_succ]
        refine wpAnyF_take (i := 13) (v := ?_) (by (simp only [List.getElem?_toArray, List.getElem?_cons_succ, List.getElem?_cons_zero]; rfl)) (by kernel_rfl) (by kernel_rfl) (by kernel_rfl) (by decide) (by exact fun _ _ _ h => h) ⟨trivial, .inl (by kernel_rfl)⟩ (Or.inl ⟨by rfl, ?_⟩) ?_
        rotate_left
        · (intro w' _; go_simp <;> with_reducible rfl)
        try simp only [Act.put, List.setIfInBounds_toArray, List.set_cons_zero, List.set_cons_succ]
        refine wpAnyF_ready (rs := [14]) (by kernel_rfl) (by simp) ?_
        refine AllReadyF.last (by (simp only [List.getElem?_toArray, List.getElem?_cons_succ, List.getElem?_cons_zero]; rfl)) (by kernel_rfl) (fun K hK => ?_) AllReadyF.nil
        go_simp
        refine hK.out _ _ trivial ?_
        clear hK K
        try simp only [Act.put, List.setIfInBounds_toArray, List.set_cons_zero, List.set_cons_succ]
        refine wpAnyF_done (by kernel_rfl) ?_ _
        generalize w5.setCell ⟨q, 1, none⟩ (.slice D5 (L.length + 1) d5) = Y at S6 ⊢
        have cY := (S6.out.box.cell 1).trans (rfl : _ = some (Value.slice D5 (L.length + 1) d5))
        go_wp2
        refine bodyPost_ret (v := .tuple #[.slice D5 (L.length + 1) d5, .int .i64 t.length]) (by simp [results, Tryz.results18, go_sem]) rfl ?_
        have rw6 := S6.out.row
        refine ⟨L ++ [⟨x1, ⟨x2, 0, 0⟩⟩], D5, d5, _, by rw [List.length_append]; rfl, by rw [List.length_append]; simp only [List.length_cons, List.length_nil]; omega, by rw [List.length_append] at rw6 ⊢; exact rw6, _, ?_, S6.out.src, S6.out.gr⟩
        omega
      refine AllReadyF.cons (by (simp only [List.getElem?_toArray, List.getElem?_cons_succ, List.getElem?_cons_zero]; rfl)) (fun K hK => ?_) ?_
      · skip
        go_simp
        replace M := Mid.al2 M 0 2
        refine hK.out _ _ ⟨trivial, HC.out _ _ _ M⟩ (fun hNew => ?_)
        replace hHeld := hNew
        clear hK K hNew
        try simp only [Act.put, List.setIfInBounds_toArray, List.set_cons_zero, List.set_cons_succ]
        refine wpAnyF_ready (rs := [5]) (by kernel_rfl) (by simp) ?_
        refine AllReadyF.cons (by (simp only [List.getElem?_toArray, List.getElem?_cons_succ, List.getElem?_cons_zero]; rfl)) (fun K hK => ?_) AllReadyF.nil
        go_simp
        go_at_call 21
        refine (pick_mid (w0 := w4) (A := A) (c := c) (l := l) _ [-1, (t.length : Int), 0] ⟨_, _, M, by omega, by simp⟩ (by simp) (by simp)).mono ?_
        rintro e wa ⟨x1, rfl, N⟩
        replace M := N _ _ M
        clear N
        refine hK.out _ _ ⟨trivial, HC.out _ _ _ M⟩ (fun hNew => ?_)
        replace hHeld := hNew
        clear hK K hNew
        try simp only [Act.put, List.setIfInBounds_toArray, List.set_cons_zero, List.set_cons_succ]
        refine wpAnyF_ready (rs := [8]) (by kernel_rfl) (by simp) ?_
        refine AllReadyF.cons (by (simp only [List.getElem?_toArray, List.getElem?_cons_succ, List.getElem?_cons_zero]; rfl)) (fun K hK => ?_) AllReadyF.nil
        go_simp
        go_at_call 21
        refine (pick_mid (w0 := w4) (A := A) (c := c) (l := l) _ [0, 2] ⟨_, _, M, by omega, by simp⟩ (by simp) (by simp)).mono ?_
        rintro e wa ⟨x2, rfl, N⟩
        replace M := N _ _ M
        clear N
        refine hK.out _ _ ⟨trivial, HC.out _ _ _ M⟩ (fun hNew => ?_)
        replace hHeld := hNew
        clear hK K hNew
        try simp only [Act.put, List.setIfInBounds_toArray, List.set_cons_zero, List.set_cons_succ]
        refine wpAnyF_take (i := 9) (v := ?_) (by (simp only [List.getElem?_toArray, List.getElem?_cons_succ, List.getElem?_cons_zero]; rfl)) (by kernel_rfl) (by kernel_rfl) (by kernel_rfl) (by decide) (by exact fun _ _ _ h => h) ⟨hHeld.1, .inr hHeld.2⟩ (Or.inl ⟨by rfl, ?_⟩) ?_
        rotate_left
        · (intro w' _; go_simp <;> with_reducible rfl)
        try simp only [Act.put, List.setIfInBounds_toArray, List.set_cons_zero, List.set_cons_succ]
        refine wpAnyF_take (i := 10) (v := ?_) (by (simp only [List.getElem?_toArray, List.getElem?_cons_succ, List.getElem?_cons_zero]; rfl)) (by kernel_rfl) (by kernel_rfl) (by kernel_rfl) (by decide) (by exact fun _ _ _ h => h) ⟨hHeld.1, .inr hHeld.2⟩ (Or.inl ⟨by rfl, ?_⟩) ?_
        rotate_left
        · (intro w' _; go_simp <;> with_reducible rfl)
        try simp only [Act.put, List.setIfInBounds_toArray, List.set_cons_zero, List.set_cons_succ]
        refine wpAnyF_ready (rs := [11]) (by kernel_rfl) (by simp) ?_
        refine AllReadyF.cons (by (simp only [List.getElem?_toArray, List.getElem?_cons_succ, List.getElem?_cons_zero]; rfl)) (fun K hK => ?_) AllReadyF.nil
        go_simp
        refine hK.out _ _ ⟨trivial, HC.out _ _ _ (Mid.alo M _)⟩ (fun hNew => ?_)
        clear hK K hHeld
        have hHeld := hNew
        clear hNew
        try simp only [Act.put, List.setIfInBounds_toArray, List.set_cons_zero, List.set_cons_succ]
        have s5 := HM.out _ _ _ (Mid.alo M (.cells #[.int .i64 x1, .int .i64 x2, .int .i64 0, .int .i64 0] 66))
        have hBl := RdP.one_new wa ⟨x1, ⟨x2, 0, 0⟩⟩ 66
        have zM := M.gr.size
        have z4 := s5.gr.size
        refine wpAnyF_ready (rs := [12]) (by kernel_rfl) (by simp) ?_
        refine AllReadyF.last (by (simp only [List.getElem?_toArray, List.getElem?_cons_succ, List.getElem?_cons_zero]; rfl)) (by kernel_rfl) (fun K hK => ?_) AllReadyF.nil
        refine step_append_rp _ (by rfl) (.tmp 20) (.tmp 30) 24 (by rfl) w.heap.size 66 i0 (.agg #[.int .i64 0, .int .i64 0, .int .i64 0, .int .i64 0]) 32 Tryz.underlying24 hi hz0 hz1 hz2 rfl (.slice DL L.length dL) L.length _ (by rfl) s5.row (some ⟨wa.heap.size, 0, none⟩) [⟨x1, ⟨x2, 0, 0⟩⟩] 1 (wa.heap.size + 1) (by rfl) hBl (by unfold maxLen; simp only [List.length_cons, List.length_nil]; omega) (by simp only [List.length_cons, List.length_nil]; omega) z4 ?_
        intro v5 w5 o5 g5 hat5
        obtain ⟨D5, d5, hv5⟩ := own_shape o5
        subst hv5
        have o6 : w5.ownsRow w.heap.size 66 4 (.slice D5 (L ++ [(⟨x1, ⟨x2, 0, 0⟩⟩ : Stp)]).length d5) (L ++ [(⟨x1, ⟨x2, 0, 0⟩⟩ : Stp)]).length (stps (L ++ [(⟨x1, ⟨x2, 0, 0⟩⟩ : Stp)])) := by rw [stps_append, List.length_append]; exact o5
        obtain ⟨⟨c5, f5⟩, s6⟩ := s5.put (.inl g5) o6 (by rw [List.length_append]; rcases hat5 with e | e; exact .inl e; exact .inr ⟨_, e, Nat.le_refl _⟩)
        simp only [List.length_append, List.length_cons, List.length_nil, Nat.zero_add] at s6 o6
        have S6 := hide s6
        have O6 := hide o6
        clear o5 g5 hat5 hBl s5 s6 o6
        refine hK.out _ _ trivial ?_
        clear hK K
        try simp only [Act.put, List.setIfInBounds_toArray, List.set_cons_zero, List.set_cons_succ]
        refine wpAnyF_take (i := 13) (v := ?_) (by (simp only [List.getElem?_toArray, List.getElem?_cons_succ, List.getElem?_cons_zero]; rfl)) (by kernel_rfl) (by kernel_rfl) (by kernel_rfl) (by decide) (by exact fun _ _ _ h => h) ⟨trivial, .inl (by kernel_rfl)⟩ (Or.inl ⟨by rfl, ?_⟩) ?_
        rotate_left
        · (intro w' _; go_simp <;> with_reducible rfl)
        try simp only [Act.put, List.setIfInBounds_toArray, List.set_cons_zero, List.set_cons_succ]
        refine wpAnyF_ready (rs := [14]) (by kernel_rfl) (by simp) ?_
        refine AllReadyF.last (by (simp only [List.getElem?_toArray, List.getElem?_cons_succ, List.getElem?_cons_zero]; rfl)) (by kernel_rfl) (fun K hK => ?_) AllReadyF.nil
        go_simp
        refine hK.out _ _ trivial ?_
        clear hK K
        try simp only [Act.put, List.setIfInBounds_toArray, List.set_cons_zero, List.set_cons_succ]
        refine wpAnyF_done (by kernel_rfl) ?_ _
        generalize w5.setCell ⟨q, 1, none⟩ (.slice D5 (L.length + 1) d5) = Y at S6 ⊢
        have cY := (S6.out.box.cell 1).trans (rfl : _ = some (Value.slice D5 (L.length + 1) d5))
        go_wp2
        refine bodyPost_ret (v := .tuple #[.slice D5 (L.length + 1) d5, .int .i64 t.length]) (by simp [results, Tryz.results18, go_sem]) rfl ?_
        have rw6 := S6.out.row
        refine ⟨L ++ [⟨x1, ⟨x2, 0, 0⟩⟩], D5, d5, _, by rw [List.length_append]; rfl, by rw [List.length_append]; simp only [List.length_cons, List.length_nil]; omega, by rw [List.length_append] at rw6 ⊢; exact rw6, _, ?_, S6.out.src, S6.out.gr⟩
        omega
      exact AllReadyF.nil
    refine AllReadyF.cons (by (simp only [List.getElem?_toArray, List.getElem?_cons_succ, List.getElem?_cons_zero]; rfl)) (fun K hK => ?_) ?_
    · skip
      go_simp
      replace M := Mid.al2 M 0 2
      refine hK.out _ _ ⟨trivial, HC.out _ _ _ M⟩ (fun hNew => ?_)
      replace hHeld := hNew
      clear hK K hNew
      try simp only [Act.put, List.setIfInBounds_toArray, List.set_cons_zero, List.set_cons_succ]
      refine wpAnyF_ready (rs := [4]) (by kernel_rfl) (by simp) ?_
      refine AllReadyF.cons (by (simp only [List.getElem?_toArray, List.getElem?_cons_succ, List.getElem?_cons_zero]; rfl)) (fun K hK => ?_) AllReadyF.nil
      go_simp
      replace M := Mid.al M (-1) (t.length : Int) 0
      refine hK.out _ _ ⟨trivial, HC.out _ _ _ M⟩ (fun hNew => ?_)
      replace hHeld := hNew
      clear hK K hNew
      try simp only [Act.put, List.setIfInBounds_toArray, List.set_cons_zero, List.set_cons_succ]
      refine wpAnyF_ready (rs := [5]) (by kernel_rfl) (by simp) ?_
      refine AllReadyF.cons (by (simp only [List.getElem?_toArray, List.getElem?_cons_succ, List.getElem?_cons_zero]; rfl)) (fun K hK => ?_) AllReadyF.nil
      go_simp
      go_at_call 21
      refine (pick_mid (w0 := w4) (A := A) (c := c) (l := l) _ [-1, (t.length : Int), 0] ⟨_, _, M, by omega, by simp⟩ (by simp) (by simp)).mono ?_
      rintro e wa ⟨x1, rfl, N⟩
      replace M := N _ _ M
      clear N
      refine hK.out _ _ ⟨trivial, HC.out _ _ _ M⟩ (fun hNew => ?_)
      replace hHeld := hNew
      clear hK K hNew
      try simp only [Act.put, List.setIfInBounds_toArray, List.set_cons_zero, List.set_cons_succ]
      refine wpAnyF_ready (rs := [8]) (by kernel_rfl) (by simp) ?_
      refine AllReadyF.cons (by (simp only [List.getElem?_toArray, List.getElem?_cons_succ, List.getElem?_cons_zero]; rfl)) (fun K hK => ?_) AllReadyF.nil
      go_simp
      go_at_call 21
      refine (pick_mid (w0 := w4) (A := A) (c := c) (l := l) _ [0, 2] ⟨_, _, M, by omega, by simp⟩ (by simp) (by simp)).mono ?_
      rintro e wa ⟨x2, rfl, N⟩
      replace M := N _ _ M
      clear N
      refine hK.out _ _ ⟨trivial, HC.out _ _ _ M⟩ (fun hNew => ?_)
      replace hHeld := hNew
      clear hK K hNew
      try simp only [Act.put, List.setIfInBounds_toArray, List.set_cons_zero, List.set_cons_succ]
      refine wpAnyF_take (i := 9) (v := ?_) (by (simp only [List.getElem?_toArray, List.getElem?_cons_succ, List.getElem?_cons_zero]; rfl)) (by kernel_rfl) (by kernel_rfl) (by kernel_rfl) (by decide) (by exact fun _ _ _ h => h) ⟨hHeld.1, .inr hHeld.2⟩ (Or.inl ⟨by rfl, ?_⟩) ?_
      rotate_left
      · (intro w' _; go_simp <;> with_reducible rfl)
      try simp only [Act.put, List.setIfInBounds_toArray, List.set_cons_zero, List.set_cons_succ]
      refine wpAnyF_take (i := 10) (v := ?_) (by (simp only [List.getElem?_toArray, List.getElem?_cons_succ, List.getElem?_cons_zero]; rfl)) (by kernel_rfl) (by kernel_rfl) (by kernel_rfl) (by decide) (by exact fun _ _ _ h => h) ⟨hHeld.1, .inr hHeld.2⟩ (Or.inl ⟨by rfl, ?_⟩) ?_
      rotate_left
      · (intro w' _; go_simp <;> with_reducible rfl)
      try simp only [Act.put, List.setIfInBounds_toArray, List.set_cons_zero, List.set_cons_succ]
      refine wpAnyF_ready (rs := [11]) (by kernel_rfl) (by simp) ?_
      refine AllReadyF.cons (by (simp only [List.getElem?_toArray, List.getElem?_cons_succ, List.getElem?_cons_zero]; rfl)) (fun K hK => ?_) AllReadyF.nil
      go_simp
      refine hK.out _ _ ⟨trivial, HC.out _ _ _ (Mid.alo M _)⟩ (fun hNew => ?_)
      clear hK K hHeld
      have hHeld := hNew
      clear hNew
      try simp only [Act.put, List.setIfInBounds_toArray, List.set_cons_zero, List.set_cons_succ]
      have s5 := HM.out _ _ _ (Mid.alo M (.cells #[.int .i64 x1, .int .i64 x2, .int .i64 0, .int .i64 0] 66))
      have hBl := RdP.one_new wa ⟨x1, ⟨x2, 0, 0⟩⟩ 66
      have zM := M.gr.size
      have z4 := s5.gr.size
      refine wpAnyF_ready (rs := [12]) (by kernel_rfl) (by simp) ?_
      refine AllReadyF.last (by (simp only [List.getElem?_toArray, List.getElem?_cons_succ, List.getElem?_cons_zero]; rfl)) (by kernel_rfl) (fun K hK => ?_) AllReadyF.nil
      refine step_append_rp _ (by rfl) (.tmp 20) (.tmp 30) 24 (by rfl) w.heap.size 66 i0 (.agg #[.int .i64 0, .int .i64 0, .int .i64 0, .int .i64 0]) 32 Tryz.underlying24 hi hz0 hz1 hz2 rfl (.slice DL L.length dL) L.length _ (by rfl) s5.row (some ⟨wa.heap.size, 0, none⟩) [⟨x1, ⟨x2, 0, 0⟩⟩] 1 (wa.heap.size + 1) (by rfl) hBl (by unfold maxLen; simp only [List.length_cons, List.length_nil]; omega) (by simp only [List.length_cons, List.length_nil]; omega) z4 ?_
      intro v5 w5 o5 g5 hat5
      obtain ⟨D5, d5, hv5⟩ := own_shape o5
      subst hv5
      have o6 : w5.ownsRow w.heap.size 66 4 (.slice D5 (L ++ [(⟨x1, ⟨x2, 0, 0⟩⟩ : Stp)]).length d5) (L ++ [(⟨x1, ⟨x2, 0, 0⟩⟩ : Stp)]).length (stps (L ++ [(⟨x1, ⟨x2, 0, 0⟩⟩ : Stp)])) := by rw [stps_append, List.length_append]; exact o5
      obtain ⟨⟨c5, f5⟩, s6⟩ := s5.put (.inl g5) o6 (by rw [List.length_append]; rcases hat5 with e | e; exact .inl e; exact .inr ⟨_, e, Nat.le_refl _⟩)
      simp only [List.length_append, List.length_cons, List.length_nil, Nat.zero_add] at s6 o6
      have S6 := hide s6
      have O6 := hide o6
      clear o5 g5 hat5 hBl s5 s6 o6
      refine hK.out _ _ trivial ?_
      clear hK K
      try simp only [Act.put, List.setIfInBounds_toArray, List.set_cons_zero, List.set_cons_succ]
      refine wpAnyF_take (i := 13) (v := ?_) (by (simp only [List.getElem?_toArray, List.getElem?_cons_succ, List.getElem?_cons_zero]; rfl)) (by kernel_rfl) (by kernel_rfl) (by kernel_rfl) (by decide) (by exact fun _ _ _ h => h) ⟨trivial, .inl (by kernel_rfl)⟩ (Or.inl ⟨by rfl, ?_⟩) ?_
      rotate_left
      · (intro w' _; go_simp <;> with_reducible rfl)
      try simp only [Act.put, List.setIfInBounds_toArray, List.set_cons_zero, List.set_cons_succ]
      refine wpAnyF_ready (rs := [14]) (by kernel_rfl) (by simp) ?_
      refine AllReadyF.last (by (simp only [List.getElem?_toArray, List.getElem?_cons_succ, List.getElem?_cons_zero]; rfl)) (by kernel_rfl) (fun K hK => ?_) AllReadyF.nil
      go_simp
      refine hK.out _ _ trivial ?_
      clear hK K
      try simp only [Act.put, List.setIfInBounds_toArray, List.set_cons_zero, List.set_cons_succ]
      refine wpAnyF_done (by kernel_rfl) ?_ _
      generalize w5.setCell ⟨q, 1, none⟩ (.slice D5 (L.length + 1) d5) = Y at S6 ⊢
      have cY := (S6.out.box.cell 1).trans (rfl : _ = some (Value.slice D5 (L.length + 1) d5))
      go_wp2
      refine bodyPost_ret (v := .tuple #[.slice D5 (L.length + 1) d5, .int .i64 t.length]) (by simp [results, Tryz.results18, go_sem]) rfl ?_
      have rw6 := S6.out.row
      refine ⟨L ++ [⟨x1, ⟨x2, 0, 0⟩⟩], D5, d5, _, by rw [List.length_append]; rfl, by rw [List.length_append]; simp only [List.length_cons, List.length_nil]; omega, by rw [List.length_append] at rw6 ⊢; exact rw6, _, ?_, S6.out.src, S6.out.gr⟩
      omega
    exact AllReadyF.nil
  · have n0 : (r == 0) = false := beq_eq_false_iff_ne.2 e0
    by_cases e1 : r = 1
    · subst e1
      clear n0 e0
      go_wp2_with fail
      refine (l1Pick_any g _ _ [0, 1, 4, 5] A c l _ _ (s4.src.alloc _) (by omega) (by simp) (by simp) (Bk.new _ _ _) (by have := s4.src.lt; omega)).mono ?_
      rintro e w5 ⟨nn, rfl, hnn, S5, g5⟩
      replace s4 := s4.went S5 (grown_alloc g5)
      clear S5 g5 hnn
      have cY := (s4.box.cell 1).trans (rfl : _ = some (Value.slice DL L.length dL))
      have rw4 := s4.row
      have S4 := hide s4
      clear s4
      go_wp2
      refine bodyPost_ret (v := .tuple #[.slice DL L.length dL, .int .i64 nn]) (by simp [results, Tryz.results18, go_sem]) rfl ?_
      exact ⟨L, DL, dL, _, rfl, by omega, rw4, _, by omega, S4.out.src, S4.out.gr⟩
    · have n1 : (r == 1) = false := beq_eq_false_iff_ne.2 e1
      by_cases e2 : r = 2
      · subst e2
        clear n0 n1 e0 e1
        go_wp2_with fail
        refine (l1Pick_any g _ _ [8, 9, 32, 33] A c l _ _ (s4.src.alloc _) (by omega) (by simp) (by simp) (Bk.new _ _ _) (by have := s4.src.lt; omega)).mono ?_
        rintro e w5 ⟨nn, rfl, hnn, S5, g5⟩
        replace s4 := s4.went S5 (grown_alloc g5)
        obtain ⟨m, rfl⟩ : ∃ m : Nat, nn = (m : Int) := Int.eq_ofNat_of_zero_le (by simp at hnn; omega)
        have hm : m ≤ 33 := by simp at hnn; omega
        have z5 := s4.gr.size
        have hc0 := (s4.box.cell 1).trans (rfl : _ = some (Value.slice DL L.length dL))
        clear S5 g5 hnn
        have MD : (madeCells (Value.agg #[.int .i64 0, .int .i64 0, .int .i64 0, .int .i64 0]).cells (m * 4)).toList = stps (List.replicate m zeroP) := by rw [made_step, stps_zero]
        go_wp2_with (at_make; refine wpList_make_full _ rfl _ _ 24 rfl w.heap.size 66 i0 (.agg #[.int .i64 0, .int .i64 0, .int .i64 0, .int .i64 0]) 4 Tryz.underlying24 hi hz0 hz1 .i64 .i64 _ _ m rfl rfl rfl rfl (by rw [hz2]; omega) (by unfold maxLen; omega) z5 ?_; intro w6 hown hg; have hown6 : w6.ownsRow w.heap.size 66 4 (.slice (some ⟨w5.heap.size, 0, none⟩) m m) (List.replicate m zeroP).length (stps (List.replicate m zeroP)) := (by rw [← MD, List.length_replicate]; exact hown); obtain ⟨⟨c6, f6⟩, s6⟩ := s4.put (.inr hg) hown6 (.inr ⟨_, rfl, Nat.le_refl _⟩); clear hown hg hown6)
        have cY := (s6.box.cell 1).trans (rfl : _ = some (Value.slice (some ⟨w5.heap.size, 0, none⟩) m m))
        have rw6 := s6.row
        have S6 := hide s6
        generalize w6.setCell ⟨q, 1, none⟩ (.slice (some ⟨w5.heap.size, 0, none⟩) m m) = Y at S6 cY rw6 ⊢
        clear s6 s4 MD
        go_wp2
        refine bodyPost_ret (v := .tuple #[.slice (some ⟨w5.heap.size, 0, none⟩) m m, .int .i64 t.length]) (by simp [results, Tryz.results18, go_sem]) rfl ?_
        exact ⟨List.replicate m zeroP, some ⟨w5.heap.size, 0, none⟩, m, _, by rw [List.length_replicate], by rw [List.length_replicate]; omega, by rw [List.length_replicate] at rw6 ⊢; exact rw6, _, by omega, S6.out.src, S6.out.gr⟩
      · have n2 : (r == 2) = false := beq_eq_false_iff_ne.2 e2
        clear e0 e1 e2
        have cY := (s4.box.cell 1).trans (rfl : _ = some (Value.slice DL L.length dL))
        have rw4 := s4.row
        have S4 := hide s4
        clear s4
        go_wp2
        refine bodyPost_ret (v := .tuple #[.slice DL L.length dL, .int .i64 t.length]) (by simp [results, Tryz.results18, go_sem]) rfl ?_
        exact ⟨L, DL, dL, _, rfl, by omega, rw4, _, by omega, S4.out.src, S4.out.gr⟩
end Go.Proofs.YtnnfkmjhaljplaaGreat
