/- What the laws' walks rest upon, part 10. -/
import Derived.Test.YtnnfkmjhaljplaaM09
import Derived.Test.YtnnfkmjhaljplaaM07
import Derived.Test.YtnnfkmjhaljplaaM06
import Derived.Test.YtnnfkmjhaljplaaM02
namespace Go.Proofs.Ytnnfkmjhaljplaa
open Go.RowKit
set_option maxRecDepth 100000 in
set_option maxHeartbeats 1600000 in
theorem l8CopyOrders_any (os : List Wls) (A : Option Addr) (c : Nat) (w : World) (hl : os.length ≤ 1000) (hM : ∀ x ∈ os, x.ids.length ≤ 1000) (h : RdW w w.heap.size A os) :
  Calls Try.prog 35 #[.slice A os.length c] w fun e w' => ∃ v us, e = .returned v ∧ OwnW w' w.heap.size v os us ∧ Below w.heap.size w w' := by
 obtain ⟨W, hW⟩ : ∃ W, W = w.alloc (Obj.cells #[] 69) := ⟨_, rfl⟩
 have B0 : Below w.heap.size w W := by rw [hW]; exact (Below.refl _ _).alloc (Nat.le_refl _) _
 have o0 : OwnW W w.heap.size (.slice (some ⟨w.heap.size, 0, none⟩) 0 0) [] [] := ⟨by
  have e := World.ownsRow_lit (base := w.heap.size) (e := 69) (size := 2) w #[] 0 (Nat.le_refl _) (by unfold maxLen; omega) rfl
  rw [hW]
  exact e, rfl, fun i hi => by simp at hi, fun i j u u' _ hu => by simp at hu⟩
 have HW := hide hW
 have HMM := hide hM
 obtain ⟨i0, hi, hz0, hz1, hz2⟩ := info_parts info_wid
 obtain ⟨i1, hj, hy0', hy1, hy2⟩ := info_parts info_wls
 clear hW hM
 go_enter Try.func35, Try.ntmps35
 go_upto_region 2 with fail
 rw [← HW.out]
 go_wp2
 go_loopw [3, 8] (fun v i wr => ∃ (k : Nat) (us : List Value), k ≤ os.length ∧ i = .int .i64 k ∧ OwnW wr w.heap.size v (os.take k) us ∧ Below w.heap.size w wr) (fun _ i _ => os.length - (intOf i).toNat)
 case atStart => exact ⟨0, [], Nat.zero_le _, rfl, by rw [List.take_zero]; exact o0, B0⟩
 case round =>
  clear o0 B0
  obtain ⟨k, us, hk, rfl, ho, hb⟩ := hrel
  obtain ⟨Av, cv, hv⟩ := own_shape ho.row
  subst hv
  by_cases hlt : k < os.length
  ·obtain ⟨b, off, aI, cI, hA, hbb, hc0, hc1, hcI, hcm, hRI⟩ := (h.below hb).get hlt
   subst hA
   have HT := hide (show os.take (k + 1) = os.take k ++ [os[k]] from List.take_succ_eq_append_getElem hlt)
   have hil := HMM.out _ (List.getElem_mem hlt)
   have hPl : (os.take k).length ≤ 1000 := by rw [List.length_take]; omega
   obtain ⟨x, hx⟩ : ∃ x, x = os[k] := ⟨_, rfl⟩
   obtain ⟨P, hP⟩ : ∃ P, P = os.take k := ⟨_, rfl⟩
   rw [← hx] at hc0 hc1 hcI hRI HT hil
   rw [← hP] at ho hPl HT ⊢
   clear hx hP hcI hcm
   go_upto_region 5 with fail
   refine wp_region_F 99 (fun w' => w'.cell? ⟨b, off + k * 2, none⟩ = some (.int .i64 x.a) ∧ w'.cell? ⟨b, off + k * 2 + 1, none⟩ = some (.slice aI x.ids.length cI)) (fun w' => True) (by kernel_rfl) ⟨⟨hc0, hc1⟩, trivial⟩ (fun hHeld => ?_)
   try simp only [Act.put, List.setIfInBounds_toArray, List.set_cons_zero, List.set_cons_succ]
   have hoZ : OwnW wr.drew w.heap.size (.slice Av P.length cv) P us := ho.below (Below.refl _ _).drew
   have hbZ : Below w.heap.size w wr.drew := hb.drew
   have hRZ : RdC wr.drew w.heap.size aI (wids x.ids) := hRI
   clear ho hb hRI hc0 hc1
   generalize wr.drew = Z at *
   refine wpAnyF_take (i := 0) (v := ?_) (by (simp only [List.getElem?_toArray, List.getElem?_cons_zero]; rfl)) (by kernel_rfl) (by kernel_rfl) (by kernel_rfl) (by decide) (by exact fun _ _ _ h => h) ⟨hHeld.1, .inr hHeld.2⟩ (Or.inl ⟨by rfl, ?_⟩) ?_
   rotate_left
   ·(intro w' _; go_simp <;> with_reducible rfl)
   try simp only [Act.put, List.setIfInBounds_toArray, List.set_cons_zero, List.set_cons_succ]
   refine wpAnyF_take (i := 1) (v := ?_) (by (simp only [List.getElem?_toArray, List.getElem?_cons_succ, List.getElem?_cons_zero]; rfl)) (by kernel_rfl) (by kernel_rfl) (by kernel_rfl) (by decide) (by exact fun _ _ _ h => h) ⟨hHeld.1, .inr hHeld.2⟩ (Or.inl ⟨by rfl, ?_⟩) ?_
   rotate_left
   ·(intro w' _; go_simp <;> with_reducible rfl)
   try simp only [Act.put, List.setIfInBounds_toArray, List.set_cons_zero, List.set_cons_succ]
   refine wpAnyF_take (i := 2) (v := ?_) (by (simp only [List.getElem?_toArray, List.getElem?_cons_succ, List.getElem?_cons_zero]; rfl)) (by kernel_rfl) (by kernel_rfl) (by kernel_rfl) (by decide) (by exact fun _ _ _ h => h) ⟨hHeld.1, .inr hHeld.2⟩ (Or.inl ⟨by rfl, ?_⟩) ?_
   rotate_left
   ·(intro w' _; go_simp <;> with_reducible rfl)
   try simp only [Act.put, List.setIfInBounds_toArray, List.set_cons_zero, List.set_cons_succ]
   refine wpAnyF_take (i := 3) (v := ?_) (by (simp only [List.getElem?_toArray, List.getElem?_cons_succ, List.getElem?_cons_zero]; rfl)) (by kernel_rfl) (by kernel_rfl) (by kernel_rfl) (by decide) (by exact fun _ _ _ h => h) ⟨hHeld.1, .inr hHeld.2⟩ (Or.inl ⟨by rfl, ?_⟩) ?_
   rotate_left
   ·(intro w' _; go_simp <;> with_reducible rfl)
   try simp only [Act.put, List.setIfInBounds_toArray, List.set_cons_zero, List.set_cons_succ]
   refine wpAnyF_take (i := 4) (v := ?_) (by (simp only [List.getElem?_toArray, List.getElem?_cons_succ, List.getElem?_cons_zero]; rfl)) (by kernel_rfl) (by kernel_rfl) (by kernel_rfl) (by decide) (by exact fun _ _ _ h => h) ⟨hHeld.1, .inr hHeld.2⟩ (Or.inl ⟨by rfl, ?_⟩) ?_
   rotate_left
   ·(intro w' _; go_simp <;> with_reducible rfl)
   try simp only [Act.put, List.setIfInBounds_toArray, List.set_cons_zero, List.set_cons_succ]
   refine wpAnyF_keep (i := 5) (v := ?_) (by (simp only [List.getElem?_toArray, List.getElem?_cons_succ, List.getElem?_cons_zero]; rfl)) (by kernel_rfl) (by kernel_rfl) (by kernel_rfl) (by decide) (by exact fun _ _ _ h => h) ⟨hHeld.1, .inr hHeld.2⟩ (Or.inl ⟨by rfl, ?_⟩) ?_
   rotate_left
   ·(intro w' hSw; (try dsimp only at hSw); obtain ⟨hSa0, hSa1⟩ := hSw; go_simp <;> with_reducible rfl)
   try simp only [Act.put, List.setIfInBounds_toArray, List.set_cons_zero, List.set_cons_succ]
   refine wpAnyF_take (i := 7) (v := ?_) (by (simp only [List.getElem?_toArray, List.getElem?_cons_succ, List.getElem?_cons_zero]; rfl)) (by kernel_rfl) (by kernel_rfl) (by kernel_rfl) (by decide) (by exact fun _ _ _ h => h) ⟨hHeld.1, .inr hHeld.2⟩ (Or.inl ⟨by rfl, ?_⟩) ?_
   rotate_left
   ·(intro w' _; go_simp <;> with_reducible rfl)
   try simp only [Act.put, List.setIfInBounds_toArray, List.set_cons_zero, List.set_cons_succ]
   refine wpAnyF_take (i := 8) (v := ?_) (by (simp only [List.getElem?_toArray, List.getElem?_cons_succ, List.getElem?_cons_zero]; rfl)) (by kernel_rfl) (by kernel_rfl) (by kernel_rfl) (by decide) (by exact fun _ _ _ h => h) ⟨hHeld.1, .inr hHeld.2⟩ (Or.inl ⟨by rfl, ?_⟩) ?_
   rotate_left
   ·(intro w' _; go_simp <;> with_reducible rfl)
   try simp only [Act.put, List.setIfInBounds_toArray, List.set_cons_zero, List.set_cons_succ]
   refine wpAnyF_take (i := 9) (v := ?_) (by (simp only [List.getElem?_toArray, List.getElem?_cons_succ, List.getElem?_cons_zero]; rfl)) (by kernel_rfl) (by kernel_rfl) (by kernel_rfl) (by decide) (by exact fun _ _ _ h => h) ⟨hHeld.1, .inr hHeld.2⟩ (Or.inl ⟨by rfl, ?_⟩) ?_
   rotate_left
   ·(intro w' _; go_simp <;> with_reducible rfl)
   try simp only [Act.put, List.setIfInBounds_toArray, List.set_cons_zero, List.set_cons_succ]
   refine wpAnyF_take (i := 10) (v := ?_) (by (simp only [List.getElem?_toArray, List.getElem?_cons_succ, List.getElem?_cons_zero]; rfl)) (by kernel_rfl) (by kernel_rfl) (by kernel_rfl) (by decide) (by exact fun _ _ _ h => h) ⟨hHeld.1, .inr hHeld.2⟩ (Or.inl ⟨by rfl, ?_⟩) ?_
   rotate_left
   ·(intro w' _; go_simp <;> with_reducible rfl)
   try simp only [Act.put, List.setIfInBounds_toArray, List.set_cons_zero, List.set_cons_succ]
   refine wpAnyF_keep (i := 11) (v := ?_) (by (simp only [List.getElem?_toArray, List.getElem?_cons_succ, List.getElem?_cons_zero]; rfl)) (by kernel_rfl) (by kernel_rfl) (by kernel_rfl) (by decide) (by exact fun _ _ _ h => h) ⟨hHeld.1, .inr hHeld.2⟩ (Or.inl ⟨by rfl, ?_⟩) ?_
   rotate_left
   ·(intro w' hSw; (try dsimp only at hSw); obtain ⟨hSa0, hSa1⟩ := hSw; go_simp <;> with_reducible rfl)
   try simp only [Act.put, List.setIfInBounds_toArray, List.set_cons_zero, List.set_cons_succ]
   refine wpAnyF_ready (rs := [6]) (by kernel_rfl) (by simp) ?_
   refine AllReadyF.cons (by (simp only [List.getElem?_toArray, List.getElem?_cons_succ, List.getElem?_cons_zero]; rfl)) (fun K hK => ?_) AllReadyF.nil
   have q6 := (Below.refl w.heap.size Z).alloc hbZ.size (Obj.cells #[] 83)
   have o6 := World.ownsRow_lit (base := w.heap.size) (e := 83) (size := 2) Z #[] 0 hbZ.size (by simp) rfl
   have ho6 := hoZ.alloc (Obj.cells #[] 83)
   have hR6 := hRZ.below q6
   have hb6 := hbZ.alloc hbZ.size (Obj.cells #[] 83)
   have hvb := fun b' e => (hoZ.row.lt b' e).2
   have hub := fun u hu b' e => (hoZ.bound u hu b' e).2
   have hy0 := hbZ.size
   go_simp
   refine hK.out _ _ ⟨⟨(q6.cell hbb).trans hHeld.1.1, (q6.cell hbb).trans hHeld.1.2⟩, trivial⟩ (fun hNew => ?_)
   clear hK K hHeld
   have hHeld := hNew
   clear hNew
   try simp only [Act.put, List.setIfInBounds_toArray, List.set_cons_zero, List.set_cons_succ]
   clear hoZ hRZ hbZ q6
   obtain ⟨Y, hY⟩ : ∃ Y, Y = Z.alloc (Obj.cells #[] 83) := ⟨_, rfl⟩
   rw [← hY] at o6 ho6 hR6 hb6 hHeld ⊢
   obtain ⟨y, hy⟩ : ∃ y, y = Z.heap.size := ⟨_, rfl⟩
   rw [← hy] at o6 hvb hub hy0 ⊢
   have hyY : y < Y.heap.size := by rw [hY, World.size_alloc]; omega
   clear hY hy
   refine wpAnyF_ready (rs := [12]) (by kernel_rfl) (by simp) ?_
   refine AllReadyF.cons (by (simp only [List.getElem?_toArray, List.getElem?_cons_succ, List.getElem?_cons_zero]; rfl)) (fun K hK => ?_) AllReadyF.nil
   refine step_append_rc _ (by rfl) (.tmp 17) (.tmp 22) 67 (by rfl) w.heap.size 83 i0 (.agg #[.int .i64 0, .int .i64 0]) 16 Try.underlying67 hi hz0 hz1 hz2 rfl (.slice (some ⟨y, 0, none⟩) 0 0) 0 [] (by rfl) o6 aI (wids x.ids) cI w.heap.size (by rw [wids_length]; rfl) hR6 (by rw [wids_length]; unfold maxLen; omega) (by rw [wids_length]; omega) hb6.size ?_
   intro v5 w5 o5 g5 hat5
   rw [wids_length, Nat.zero_add, List.nil_append] at o5
   have h0 : (Value.slice (some ⟨y, 0, none⟩) 0 0).ownBlock = some y := rfl
   rw [h0] at g5 hat5
   have q5 := (Below.refl w.heap.size Y).grown g5 hb6.size (fun k' hk' => by cases hk'; exact hy0)
   have b5 := hb6.grown g5 hb6.size (fun k' hk' => by cases hk'; exact hy0)
   have ho5 := ho6.keptB g5 (fun b' e e' => by cases e'; have := hvb _ e; omega) (fun u hu b' e e' => by cases e'; have := hub u hu _ e; omega)
   have hf5 : ∀ b', v5.ownBlock = some b' → y ≤ b' := fun b' e => hat5.elim (fun h => by rw [h] at e; cases e; exact Nat.le_refl _) (fun h => by rw [h] at e; cases e; omega)
   refine hK.out _ _ ⟨⟨(q5.cell hbb).trans hHeld.1.1, (q5.cell hbb).trans hHeld.1.2⟩, trivial⟩ (fun hNew => ?_)
   clear hK K hHeld
   have hHeld := hNew
   clear hNew
   obtain ⟨D5, d5, hv5⟩ := own_shape o5
   subst hv5
   clear o6 ho6 hR6 hb6 g5 hat5 q5 hyY
   try simp only [Act.put, List.setIfInBounds_toArray, List.set_cons_zero, List.set_cons_succ]
   refine wpAnyF_take (i := 13) (v := ?_) (by (simp only [List.getElem?_toArray, List.getElem?_cons_succ, List.getElem?_cons_zero]; rfl)) (by kernel_rfl) (by kernel_rfl) (by kernel_rfl) (by decide) (by exact fun _ _ _ h => h) ⟨hHeld.1, .inr hHeld.2⟩ (Or.inl ⟨by rfl, ?_⟩) ?_
   rotate_left
   ·(intro w' _; go_simp <;> with_reducible rfl)
   try simp only [Act.put, List.setIfInBounds_toArray, List.set_cons_zero, List.set_cons_succ]
   refine wpAnyF_ready (rs := [14]) (by kernel_rfl) (by simp) ?_
   refine AllReadyF.cons (by (simp only [List.getElem?_toArray, List.getElem?_cons_succ, List.getElem?_cons_zero]; rfl)) (fun K hK => ?_) AllReadyF.nil
   have q8 := (Below.refl w.heap.size w5).alloc b5.size (Obj.cells #[Value.int .i64 x.a, .slice D5 x.ids.length d5] 69)
   have ho8 := ho5.alloc (Obj.cells #[Value.int .i64 x.a, .slice D5 x.ids.length d5] 69)
   have o8 := o5.alloc (Obj.cells #[Value.int .i64 x.a, .slice D5 x.ids.length d5] 69)
   have hb8 := b5.alloc b5.size (Obj.cells #[Value.int .i64 x.a, .slice D5 x.ids.length d5] 69)
   have hRv := RdV.two_new w5 (.int .i64 x.a) (.slice D5 x.ids.length d5) 69
   go_simp
   refine hK.out _ _ ⟨⟨(q8.cell hbb).trans hHeld.1.1, (q8.cell hbb).trans hHeld.1.2⟩, trivial⟩ (fun hNew => ?_)
   clear hK K hHeld
   have hHeld := hNew
   clear hNew
   try simp only [Act.put, List.setIfInBounds_toArray, List.set_cons_zero, List.set_cons_succ]
   obtain ⟨Y8, hY8⟩ : ∃ Y, Y = w5.alloc (Obj.cells #[Value.int .i64 x.a, .slice D5 x.ids.length d5] 69) := ⟨_, rfl⟩
   rw [← hY8] at ho8 o8 hb8 hRv hHeld ⊢
   clear hY8 q8 ho5 o5
   refine wpAnyF_ready (rs := [15]) (by kernel_rfl) (by simp) ?_
   refine AllReadyF.cons (by (simp only [List.getElem?_toArray, List.getElem?_cons_succ, List.getElem?_cons_zero]; rfl)) (fun K hK => ?_) AllReadyF.nil
   refine step_append_rv _ (by rfl) (.tmp 11) (.tmp 25) 27 (by rfl) w.heap.size 2 (by omega) 69 i1 (.agg #[.int .i64 0, .slice none 0 0]) 32 Try.underlying27 hj hy0' hy1 hy2 rfl (.slice Av P.length cv) P.length (wlR P us) (by rfl) ho8.row (some ⟨w5.heap.size, 0, none⟩) [.int .i64 x.a, .slice D5 x.ids.length d5] 1 1 _ (by rfl) rfl (one2 _ _ _ _) hRv (by unfold maxLen; omega) (by omega) hb8.size ?_
   intro v7 w7 o7 g7 hat7
   have q7 := (Below.refl w.heap.size Y8).grown g7 hb8.size (fun k' hk' => (ho8.row.lt k' hk').1)
   have H7 := hide (ho8.push (x := x) o8 (fun b' e i u' hu' e' => by have h1 := hf5 b' e; have h2 := hub u' (List.mem_of_getElem? hu') b' e'; omega) o7 g7)
   have b7 := hb8.grown g7 hb8.size (fun k' hk' => (ho8.row.lt k' hk').1)
   refine hK.out _ _ ⟨⟨(q7.cell hbb).trans hHeld.1.1, (q7.cell hbb).trans hHeld.1.2⟩, trivial⟩ (fun hNew => ?_)
   clear hK K hHeld
   have hHeld := hNew
   clear hNew
   have HA7 := hHeld.1
   clear ho8 o8 hb8 hRv g7 hat7 q7 hHeld
   obtain ⟨D7, d7, hv7⟩ := own_shape o7
   subst hv7
   clear o7
   try simp only [Act.put, List.setIfInBounds_toArray, List.set_cons_zero, List.set_cons_succ]
   refine wpAnyF_take (i := 16) (v := ?_) (by (simp only [List.getElem?_toArray, List.getElem?_cons_succ, List.getElem?_cons_zero]; rfl)) (by kernel_rfl) (by kernel_rfl) (by kernel_rfl) (by decide) (by exact fun _ _ _ h => h) ⟨HA7, .inr trivial⟩ (Or.inl ⟨by rfl, ?_⟩) ?_
   rotate_left
   ·(intro w' _; go_simp <;> with_reducible rfl)
   try simp only [Act.put, List.setIfInBounds_toArray, List.set_cons_zero, List.set_cons_succ]
   refine wpAnyF_done (by kernel_rfl) ?_ _
   clear HA7
   go_wp2
   go_roundw
   case rel => exact ⟨k + 1, us ++ [.slice D5 x.ids.length d5], by omega, by go_num, by rw [HT.out]; exact H7.out, b7⟩
   case measure => simp [intOf]; omega
  ·obtain rfl : k = os.length := by omega
   rw [List.take_length] at ho ⊢
   go_wp2
   go_ret
   exact ⟨_, us, rfl, ho, hb⟩
end Go.Proofs.Ytnnfkmjhaljplaa
namespace Go.Proofs.Ytnnfkmjhaljplaa
open Go.RowKit
def TwPost (w : World) (e : Ending) (w' : World) : Prop := ∃ (t : List (List Ev)) (os : List Wls) (D E : Option Addr) (d ec : Nat), e = .returned (.tuple #[.slice D t.length d, .slice E os.length ec]) ∧ t.length ≤ 5 ∧ (∀ x ∈ t, x.length ≤ 150) ∧ os.length ≤ 200 ∧ (∀ x ∈ os, x.ids.length ≤ 1000) ∧ RdT w' w'.heap.size D t ∧ RdW w' w'.heap.size E os ∧ Below w.heap.size w w'
theorem DrawOrderFault_any (HB : LdOk) (l : List Int) (A : Option Addr) (c : Nat) (w : World) (hl : l.length ≤ 1048576) (hR : Rd .u8 w w.heap.size A l) (b8 : B8 l) :
  Calls Try.prog 9 #[.slice A l.length c] w (TwPost w) := by
 go_enter Try.func9, Try.ntmps9
 go_wp2_with fail
 refine (l1Source_any l A c w hR b8 hl).mono ?_
 rintro e w1 ⟨rfl, S1, B1⟩
 go_wp2_with fail
 refine (HB _ _ A c l w1 S1 (by omega)).mono ?_
 rintro e w2 ⟨t, os, D, E, d, ec, rfl, ht5, ht, ho, hi, rT, rW, k2, hk2, S2, g2⟩
 have B2 := grown_from B1 g2 B1.size (Nat.le_refl _)
 go_wp2
 refine bodyPost_ret (v := .tuple #[.slice D t.length d, .slice E os.length ec]) (by simp [results, Try.results9, go_sem]) rfl ?_
 exact ⟨t, os, D, E, d, ec, rfl, ht5, ht, ho, hi, rT, rW, B2⟩
theorem DrawCheckTrace_any (HB : LdOk) (l : List Int) (A : Option Addr) (c : Nat) (w : World) (hl : l.length ≤ 1048576) (hR : Rd .u8 w w.heap.size A l) (b8 : B8 l) :
  Calls Try.prog 17 #[.slice A l.length c] w (TwPost w) := by
 go_enter Try.func17, Try.ntmps17
 go_wp2_with fail
 refine (l1Source_any l A c w hR b8 hl).mono ?_
 rintro e w1 ⟨rfl, S1, B1⟩
 go_wp2_with fail
 refine (HB _ _ A c l w1 S1 (by omega)).mono ?_
 rintro e w2 ⟨t, os, D, E, d, ec, rfl, ht5, ht, ho, hi, rT, rW, k2, hk2, S2, g2⟩
 have B2 := grown_from B1 g2 B1.size (Nat.le_refl _)
 go_wp2
 refine bodyPost_ret (v := .tuple #[.slice D t.length d, .slice E os.length ec]) (by simp [results, Try.results17, go_sem]) rfl ?_
 exact ⟨t, os, D, E, d, ec, rfl, ht5, ht, ho, hi, rT, rW, B2⟩
def SoPost (w : World) (e : Ending) (w' : World) : Prop := ∃ (a b : List Wls) (D E : Option Addr) (d ec : Nat), e = .returned (.tuple #[.slice D a.length d, .slice E b.length ec]) ∧ a.length ≤ 200 ∧ b.length ≤ 200 ∧ RdW w' w'.heap.size D a ∧ RdW w' w'.heap.size E b ∧ Below w.heap.size w w'
set_option maxRecDepth 100000 in
set_option maxHeartbeats 800000 in
theorem DrawSameOrders_any (HB : LdOk) (l : List Int) (A : Option Addr) (c : Nat) (w : World) (hl : l.length ≤ 1048576) (hR : Rd .u8 w w.heap.size A l) (b8 : B8 l) :
  Calls Try.prog 10 #[.slice A l.length c] w (SoPost w) := by
 go_enter Try.func10, Try.ntmps10
 go_wp2_with fail
 refine (l1Source_any l A c w hR b8 hl).mono ?_
 rintro e w1 ⟨rfl, S1, B1⟩
 go_wp2_with fail
 refine (HB _ _ A c l w1 S1 (by omega)).mono ?_
 rintro e w2 ⟨t, os, D, E, d, ec, rfl, ht5, ht, ho, hi, rT, rW, k2, hk2, S2, g2⟩
 have B2 := grown_from B1 g2 B1.size (Nat.le_refl _)
 have CP := hide (l8CopyOrders_any os E ec w2 (by omega) hi rW)
 clear ht hi g2
 go_wp2_with fail
 refine CP.out.mono ?_
 rintro e w3 ⟨v, us, rfl, oW, b3⟩
 have S3 := S2.below b3 S2.lt
 have B3 := B2.trans (b3.mono B2.size)
 have rW3 := rW.below b3
 have s2 := S2.lt
 have z3 := b3.size
 obtain ⟨V, vc, hv⟩ := own_shape oW.row
 subst hv
 clear CP b3 S2 rT
 by_cases h0 : 0 < os.length
 ·go_wp2_with fail
  refine (l1Chance_any _ _ _ A c l w3 S3 (by omega) (by omega) (by omega)).mono ?_
  rintro e w4 ⟨bo, rfl, S4, g4⟩
  have B4 := grown_from B3 g4 B3.size (Nat.le_refl _)
  have rW4 := rW3.src S3.blk S4.blk g4
  have z4 := g4.size
  have oW4 := oW.kept g4 (fun b e => by cases e; exact s2)
  clear oW g4 rW3 S3
  cases bo
  ·go_wp2
   refine bodyPost_ret (v := .tuple #[.slice E os.length ec, .slice V os.length vc]) (by simp [results, Try.results10, go_sem]) rfl ?_
   exact ⟨os, os, E, V, ec, vc, rfl, ho, ho, rW4.more (by omega), oW4.rd, B4⟩
  ·obtain ⟨gv, rfl⟩ : ∃ gv, V = some ⟨gv, 0, none⟩ := by
    rcases oW4.row.2 with ⟨h', h''⟩ | ⟨g, cap, cur, h', _⟩
    ·omega
    ·simp only [Value.slice.injEq, true_and] at h'
     exact ⟨g, h'.1⟩
   have hgv := oW4.row.lt gv rfl
   have q0 : w4.cell? ⟨gv, 0, none⟩ = some (.int .i64 os[0].a) := by
    rw [oW4.row.cellAt 0 (by omega)]
    exact (wlR_get oW4.len 0 h0).1
   have f0 := oW4.row.frozenAt 0
   have HS := hide (oW4.setA h0 (wrap64 (os[0].a + 1)))
   simp only [Nat.zero_mul] at HS
   have rW5 := rW4.below ((Below.refl w2.heap.size w4).setCell (p := ⟨gv, 0, none⟩) hgv.1 (.int .i64 (wrap64 (os[0].a + 1))))
   have B5 := B4.setCell (p := ⟨gv, 0, none⟩) (by have := B2.size; simp only; omega) (.int .i64 (wrap64 (os[0].a + 1)))
   clear oW4 rW4 B4
   go_wp2
   refine bodyPost_ret (v := .tuple #[.slice E os.length ec, .slice (some ⟨gv, 0, none⟩) os.length vc]) (by simp [results, Try.results10, go_sem]) rfl ?_
   refine ⟨os, os.set 0 ⟨wrap64 (os[0].a + 1), os[0].ids⟩, E, _, ec, vc, ?_, ho, by rw [List.length_set]; exact ho, ?_, HS.out.rd, B5⟩
   ·rw [List.length_set]
   ·exact rW5.more (by have := rW5; simp only [World.size_setCell]; omega)
 ·go_wp2
  refine bodyPost_ret (v := .tuple #[.slice E os.length ec, .slice V os.length vc]) (by simp [results, Try.results10, go_sem]) rfl ?_
  exact ⟨os, os, E, V, ec, vc, rfl, ho, ho, rW3.more (by omega), oW.rd, B3⟩
end Go.Proofs.Ytnnfkmjhaljplaa
