/- The contract of the program's reader of a file's frames. -/
import Derived.Test.YtldepledinolmaaDoorEndI
namespace Go.Proofs.YtldepledinolmaaDoor
open Go.RowKit

theorem must_yes2 (c : Int) (w : World) : Calls Tryd.prog 64 #[.bool true, .int .i64 c] w fun e w' => e = .returned (.tuple #[]) ∧ w = w' := (must_yes c w).mono fun _ _ ⟨h1, h2⟩ => ⟨h1, h2.symm⟩
theorem must_no2 (c : Int) (w : World) : Calls Tryd.prog 64 #[.bool false, .int .i64 c] w fun e w' => e = .panicked [{ v := pn c, recovered := false }] ∧ w = w' := (must_no c w).mono fun _ _ ⟨h1, h2⟩ => ⟨h1, h2.symm⟩
/-- How much of the file the reader in block g has still to read. -/
def leftOf (g : Nat) (w : World) : Nat := match w.cell? ⟨g, 1, none⟩ with
  | some (.slice _ n _) => n
  | _ => 0
theorem FrdAt.leftOf_ {w0 w : World} {g gv base : Nat} {file d : List Int} {A A2 : Option Addr} {c c2 n ev : Nat} {cs : List (List Ev)} {us : List Value} (h : FrdAt w0 g gv base file d A A2 c c2 n ev cs us w) : leftOf g w = d.length := by
  unfold leftOf
  rw [(h.blk.cell 1).trans (rfl : _ = some (Value.slice A2 d.length c2))]
theorem sumT_few8 : ∀ {t : List (List Ev)}, (∀ l ∈ t, l.length ≤ 8) → sumT t ≤ 8 * t.length
  | [], _ => by simp [sumT]
  | l :: r, h => by
    have h1 := sumT_few8 fun x hx => h x (List.mem_cons_of_mem l hx)
    have := h l (List.mem_cons_self ..)
    simp only [sumT, List.length_cons]
    omega
theorem sumT_set : ∀ (t : List (List Ev)) (k : Nat) (E : List Ev), k < t.length → sumT (t.set k (t.getD k [] ++ E)) = sumT t + E.length
  | [], k, E, h => by simp at h
  | l :: r, 0, E, h => by simp [sumT]; omega
  | l :: r, k + 1, E, h => by
    have := sumT_set r k E (by simpa using h)
    simp only [List.set_cons_succ, sumT, List.getD_cons_succ, this]
    omega

/-- What readFrames tells: R is what is read of the file as mathematics. -/
def FrsPost (w0 : World) (g gv : Nat) (file : List Int) (A : Option Addr) (c : Nat) (R : Int × List (List Ev)) (e : Ending) (w' : World) : Prop :=
  (e = .returned (.tuple #[]) ∧ ∃ at_ n cs us A2 c2, FrdAt w0 g gv (g + 1) file (file.drop at_) A A2 c c2 n (sumT cs) cs us w' ∧ at_ ≤ file.length ∧ n ≤ at_ ∧ cs.length ≤ 4 ∧ (∀ l ∈ cs, l.length ≤ 8) ∧ R = if dcEnd file at_ cs n = 0 then (0, cs) else (dcEnd file at_ cs n, [])) ∨
  (∃ C, C ≠ 0 ∧ R = (C, []) ∧ e = .panicked [{ v := pn C, recovered := false }] ∧ Below w0.heap.size w0 w')

set_option maxRecDepth 100000 in
set_option maxHeartbeats 800000 in
theorem frames_any (w0 : World) (g gv : Nat) (file : List Int) (A A2 : Option Addr) (c c2 N : Nat) (us : List Value) (aN aS aE : Addr) (w : World) (R : Int × List (List Ev)) (hf : file.length ≤ 2000) (b8 : B8 file) (hN : N ≤ 4) (h2 : 2 ≤ file.length)
    (hr0 : FrdAt w0 g gv (g + 1) file (file.drop 2) A A2 c c2 0 0 (List.replicate N []) us w) (hT : Tab w0) (hS : Sent aN aS aE w0) (HR : dcS (file.length + 1) file 2 (List.replicate N []) 0 0 = R) :
    Calls Tryd.prog 35 #[.pointer (some ⟨g, 0, none⟩)] w (FrsPost w0 g gv file A c R) := by
  unfold FrsPost
  have hz : sumT (List.replicate N []) = 0 := by
    have := sumT_few8 (t := List.replicate N []) (fun l hl => by rw [List.eq_of_mem_replicate hl]; simp)
    have h0 : ∀ n, sumT (List.replicate n []) = 0 := fun n => by
      induction n with
      | zero => rfl
      | succ n ih => simp [List.replicate_succ, sumT, ih]
    exact h0 N
  have HRR := hide HR
  clear HR
  go_enter Tryd.func35, Tryd.ntmps35
  go_wp2
  go_loopw [2] (fun v wr => ∃ (f at_ n ev : Nat) (last : Int) (cs : List (List Ev)) (us : List Value) (A2 : Option Addr) (c2 : Nat), v = .int .i64 last ∧ FrdAt w0 g gv (g + 1) file (file.drop at_) A A2 c c2 n ev cs us wr ∧ ev = sumT cs ∧ at_ ≤ file.length ∧ n ≤ at_ ∧ cs.length ≤ 4 ∧ (∀ l ∈ cs, l.length ≤ 8) ∧ file.length + 1 ≤ f + at_ ∧ Hid (dcS f file at_ cs last n = R)) (fun _ wr => leftOf g wr)
  case atStart => exact ⟨file.length + 1, 2, 0, 0, 0, _, us, A2, c2, rfl, hr0, hz.symm, h2, by omega, by rw [List.length_replicate]; exact hN, fun l hl => by rw [List.eq_of_mem_replicate hl]; simp, by omega, HRR⟩
  case round =>
    obtain ⟨f, at_, n, ev, last, cs, us, A2, c2, rfl, hr, hev, ha, hna, hcN, hall, hfa, HS⟩ := hrel
    clear hr0
    obtain ⟨f', hf1⟩ : ∃ f', f = f' + 1 := ⟨f - 1, by omega⟩
    obtain ⟨d, hd⟩ : ∃ d, d = file.drop at_ := ⟨_, rfl⟩
    have hdl : d.length = file.length - at_ := by rw [hd, List.length_drop]
    have d8 : B8 d := by rw [hd]; exact b8.drop at_
    rw [← hd] at hr
    have g1 := (hr.blk.cell 1).trans (rfl : _ = some (Value.slice A2 d.length c2))
    have HM := hide hr.leftOf_
    have hold : ∀ u ∈ us, ∀ b, u.ownBlock = some b → b < wr.heap.size := fun u hu b hb => by
      obtain ⟨i, hi⟩ := List.getElem?_of_mem hu
      obtain ⟨_, h1, _⟩ := hr.own.at_ hi
      exact (h1.lt b hb).2
    have hgvw : gv < wr.heap.size := (hr.own.row.lt gv rfl).2
    have hev4 : ev ≤ 32 := by have := sumT_few8 hall; omega
    by_cases hlt : 0 < d.length
    · have hlt1 : (0 : Int) < (d.length : Int) := by omega
      have hlt2 : decide (d.length ≤ 0) = false := decide_eq_false (by omega)
      obtain ⟨bk, off, hA', hbb, hx⟩ := hr.rdd.all hlt
      have q0 := hx 0 hlt
      rw [Nat.add_zero] at q0
      obtain ⟨x, hxx⟩ : ∃ x, x = d[0] := ⟨_, rfl⟩
      rw [← hxx] at q0
      have HX : Hid ((file.drop at_).getD 0 0 = x) := hide (by rw [← hd, hxx]; simp [hlt])
      clear hxx hx
      subst hA'
      by_cases h66 : x = 66
      · have HE := hide (show at_ < file.length ∧ (file.drop at_).getD 0 0 = 66 from ⟨by omega, by rw [HX.out]; exact h66⟩)
        subst h66
        have bw := hr.old
        have RF := hide (implRf_any d (some ⟨bk, off, none⟩) c2 aN aS aE wr (by omega) hr.cd (hr.rdd.more hr.old.size) d8 (hT.below bw) (hS.below bw))
        unfold RfPost at RF
        have hk := frE_right d8
        obtain ⟨C, hC⟩ : ∃ C, C = frC d := ⟨_, rfl⟩
        obtain ⟨K, hK⟩ : ∃ K, K = frK d := ⟨_, rfl⟩
        obtain ⟨E, hE⟩ : ∃ E, E = frE d := ⟨_, rfl⟩
        obtain ⟨Z, hZ⟩ : ∃ Z, Z = frZ d := ⟨_, rfl⟩
        have HN : Hid (dcNext (file.drop at_) cs = cs.set K.toNat (cs.getD K.toNat [] ++ E)) := hide (by unfold dcNext; rw [← hd, hK, hE])
        have HF : Hid (dcFrame (file.drop at_) cs last = if C = 0 then (if K < cs.length ∧ last ≤ K ∧ (cs.getD K.toNat []).length + E.length ≤ 8 then 0 else 1) else C) := hide (by unfold dcFrame; rw [← hd, hC, hK, hE])
        have HKZ : Hid (frK (file.drop at_) = K ∧ frZ (file.drop at_) = Z) := hide ⟨by rw [← hd, hK], by rw [← hd, hZ]⟩
        rw [← hC, ← hK, ← hE, ← hZ] at hk
        rw [← hC, ← hK, ← hE, ← hZ] at RF
        have HD := hide hd
        have HDL := hide hdl
        have HEV := hide hev
        have HF1 := hide hf1
        clear hC hK hE hZ hd hdl hev hf1
        go_wp2_with fail
        refine RF.out.mono ?_
        rintro e w3 ⟨A3, c3, rfl, o3, b3⟩
        have hr3 := hr.below b3
        have z3 := b3.size
        have rE := RdE.of_own o3
        have kq := Bk.new w3 #[.int .i64 C, .int .i64 K, .slice A3 E.length c3, .int .i64 Z] 100
        have b4 := (Below.refl w3.heap.size w3).alloc (Nat.le_refl _) (Obj.cells #[.int .i64 C, .int .i64 K, .slice A3 E.length c3, .int .i64 Z] 100)
        have hr4 := hr3.below b4
        have rE4 := (rE.below b4).lt
        have hgq : g < w3.heap.size := hr3.blk.lt
        obtain ⟨q, hq⟩ : ∃ q, q = w3.heap.size := ⟨_, rfl⟩
        have hqo : ∀ u ∈ us, u.ownBlock ≠ some q := fun u hu e => by have := hold u hu q e; omega
        have hqv : q ≠ gv := by omega
        rw [← hq] at kq hgq
        have HQ := hide hq
        have k0 := (kq.cell 0).trans (rfl : _ = some (Value.int .i64 C))
        have k1 := (kq.cell 1).trans (rfl : _ = some (Value.int .i64 K))
        have k2 := (kq.cell 2).trans (rfl : _ = some (Value.slice A3 E.length c3))
        clear hr hr3 rE o3 b3 g1 q0 b4 RF hq hbb bw
        by_cases hC : C = 0
        · subst hC
          obtain ⟨hE0, hE1, hK0, hK3, hZ1, hZ2⟩ := hk rfl
          have h8 := (stF_zero hE0).1
          obtain ⟨k, rfl⟩ := Int.eq_ofNat_of_zero_le hK0
          obtain ⟨z, rfl⟩ := Int.eq_ofNat_of_zero_le (show 0 ≤ Z by omega)
          rw [Int.toNat_natCast] at HN HF
          clear hk
          have HZ2 := hide hZ2
          have HK3 := hide hK3
          clear hK0 hK3 hZ2
          go_wp2_with fail
          rw [← HQ.out]
          generalize w3.alloc (Obj.cells #[.int .i64 0, .int .i64 k, .slice A3 E.length c3, .int .i64 z] 100) = Y at kq hr4 rE4 k0 k1 k2 ⊢
          refine (must_yes2 0 _).mono ?_
          rintro e w5 ⟨rfl, rfl⟩
          have g2 := (hr4.blk.cell 2).trans (rfl : _ = some (Value.slice (some ⟨gv, 0, none⟩) cs.length cs.length))
          by_cases hw : last ≤ (k : Int) ∧ (k : Int) ≤ (cs.length : Int) - 1
          · have HW := hide hw
            go_wp2_with fail
            refine (allWithin_one _ _ _ _ _ _ (by simp [go_sem]) hw).mono ?_
            rintro e w6 ⟨rfl, rfl⟩
            clear hw
            have b5 := (Below.refl Y.heap.size Y).alloc (Nat.le_refl _) (Obj.cells #[.int .i64 k] 2)
            have hr5 := hr4.below b5
            have kq5 := kq.kept b5
            have rE5 := (rE4.below b5).lt
            clear kq hr4 rE4 k0 k1 k2 b5 g2
            generalize Y.alloc (Obj.cells #[.int .i64 k] 2) = Y1 at hr5 kq5 rE5 ⊢
            have k1 := (kq5.cell 1).trans (rfl : _ = some (Value.int .i64 k))
            have k2 := (kq5.cell 2).trans (rfl : _ = some (Value.slice A3 E.length c3))
            have hkn : k < cs.length := by have := HW.out.2; omega
            have TK := hide (take_any w0 g gv (g + 1) file d A (some ⟨bk, off, none⟩) c c2 n ev cs us k E A3 c3 Y1 hkn h8 hall (by omega) (by omega) hr5 rE5)
            unfold TkPost frV at TK
            go_wp2_with fail
            refine (must_yes2 1 _).mono ?_
            rintro e w6 ⟨rfl, rfl⟩
            go_wp2_with fail
            refine TK.out.mono ?_
            rintro e w7 (⟨t1, rfl, ⟨us', hr7⟩, KP⟩ | ⟨t1, rfl, hb7⟩)
            · have kq7 := KP q _ _ kq5 (by omega) hqv hqo
              have h0 : dcFrame (file.drop at_) cs last = 0 := by
                rw [HF.out, if_pos (by first | trivial | rfl), if_pos ⟨by omega, HW.out.1, t1⟩]
              have hfew := dcNext_few h0 hall
              rw [HN.out] at hfew
              have HS2 := hide (show dcS f' file (at_ + z) (cs.set k (cs.getD k [] ++ E)) (k : Int) (n + 1) = R by
                have e := HS.out
                rw [HF1.out, dcS_frame HE.out h0, HN.out, HKZ.out.1, HKZ.out.2, Int.toNat_natCast] at e
                exact e)
              have hsm := sumT_set cs k E hkn
              have hml : (cs.set k (cs.getD k [] ++ E)).length = cs.length := List.length_set
              obtain ⟨M, hM⟩ : ∃ M, M = cs.set k (cs.getD k [] ++ E) := ⟨_, rfl⟩
              rw [← hM] at hr7 hfew HS2 hsm hml
              have HFEW := hide hfew
              have hzd : z ≤ d.length := by have := HZ2.out; omega
              have CUT := fun W => run_cut (some ⟨bk, off, none⟩) d.length z c2 z W rfl hzd
              have HZD := hide hzd
              have HSM := hide hsm
              have HML := hide hml
              have a3 := (kq7.drew_.cell 3).trans (rfl : _ = some (Value.int .i64 z))
              have s1 := (hr7.drew.blk.cell 1).trans (rfl : _ = some (Value.slice (some ⟨bk, off, none⟩) d.length c2))
              have x1 := hr7.drew.blk.frozen 1
              clear hM hfew hsm hml kq5 hr5 rE5 TK KP hzd h0 HF HN HS k1 k2 hall hold hqo t1
              go_wp2
              refine wp_region_F 10 (fun w' => w'.cell? ⟨q, 3, none⟩ = some (Value.int .i64 z)) (fun w' => w'.cell? ⟨g, 1, none⟩ = some (Value.slice (some ⟨bk, off, none⟩) d.length c2)) (by kernel_rfl) ⟨a3, s1⟩ (fun hHeld => ?_)
              try simp only [Act.put, List.setIfInBounds_toArray, List.set_cons_zero, List.set_cons_succ]
              refine wpAnyF_take (i := 0) (v := ?_) (by (simp only [List.getElem?_toArray, List.getElem?_cons_zero]; rfl)) (by kernel_rfl) (by kernel_rfl) (by kernel_rfl) (by decide) (by exact fun _ _ _ h => h) ⟨hHeld.1, .inr hHeld.2⟩ (Or.inl ⟨by rfl, ?_⟩) ?_
              rotate_left
              · (intro w' _; go_simp <;> with_reducible rfl)
              try simp only [Act.put, List.setIfInBounds_toArray, List.set_cons_zero, List.set_cons_succ]
              refine wpAnyF_take (i := 1) (v := ?_) (by (simp only [List.getElem?_toArray, List.getElem?_cons_succ, List.getElem?_cons_zero]; rfl)) (by kernel_rfl) (by kernel_rfl) (by kernel_rfl) (by decide) (by exact fun _ _ _ h => h) ⟨hHeld.1, .inr hHeld.2⟩ (Or.inl ⟨by rfl, ?_⟩) ?_
              rotate_left
              · (intro w' _; go_simp <;> with_reducible rfl)
              try simp only [Act.put, List.setIfInBounds_toArray, List.set_cons_zero, List.set_cons_succ]
              refine wpAnyF_take (i := 2) (v := ?_) (by (simp only [List.getElem?_toArray, List.getElem?_cons_succ, List.getElem?_cons_zero]; rfl)) (by kernel_rfl) (by kernel_rfl) (by kernel_rfl) (by decide) (by exact fun _ _ _ h => h) ⟨hHeld.1, .inr hHeld.2⟩ (Or.inl ⟨by rfl, ?_⟩) ?_
              rotate_left
              · (intro w' _; go_simp <;> with_reducible rfl)
              try simp only [Act.put, List.setIfInBounds_toArray, List.set_cons_zero, List.set_cons_succ]
              refine wpAnyF_take (i := 3) (v := ?_) (by (simp only [List.getElem?_toArray, List.getElem?_cons_succ, List.getElem?_cons_zero]; rfl)) (by kernel_rfl) (by kernel_rfl) (by kernel_rfl) (by decide) (by exact fun _ _ _ h => h) ⟨hHeld.1, .inr hHeld.2⟩ (Or.inl ⟨by rfl, ?_⟩) ?_
              rotate_left
              · (intro w' _; go_simp <;> with_reducible rfl)
              try simp only [Act.put, List.setIfInBounds_toArray, List.set_cons_zero, List.set_cons_succ]
              refine wpAnyF_load (i := 4) (v := ?_) (by (simp only [List.getElem?_toArray, List.getElem?_cons_succ, List.getElem?_cons_zero]; rfl)) (by kernel_rfl) (by kernel_rfl) (by kernel_rfl) (by decide) (by exact fun _ _ _ h => h) hHeld (by kernel_rfl) (by kernel_rfl) (Or.inl ⟨by rfl, ?_⟩) ?_
              rotate_left
              · (intro w' hSw; (try dsimp only at hSw); obtain hSb0 := hSw; go_simp <;> with_reducible rfl)
              try simp only [Act.put, List.setIfInBounds_toArray, List.set_cons_zero, List.set_cons_succ]
              refine wpAnyF_take (i := 5) (v := ?_) (by (simp only [List.getElem?_toArray, List.getElem?_cons_succ, List.getElem?_cons_zero]; rfl)) (by kernel_rfl) (by kernel_rfl) (by kernel_rfl) (by decide) (by exact fun _ _ _ h => h) ⟨hHeld.1, .inr hHeld.2⟩ (Or.inl ⟨by rfl, ?_⟩) ?_
              rotate_left
              · (intro w' _; go_simp <;> with_reducible rfl)
              try simp only [Act.put, List.setIfInBounds_toArray, List.set_cons_zero, List.set_cons_succ]
              refine wpAnyF_keep (i := 6) (v := ?_) (by (simp only [List.getElem?_toArray, List.getElem?_cons_succ, List.getElem?_cons_zero]; rfl)) (by kernel_rfl) (by kernel_rfl) (by kernel_rfl) (by decide) (by exact fun _ _ _ h => h) ⟨hHeld.1, .inr hHeld.2⟩ (Or.inl ⟨by rfl, ?_⟩) ?_
              rotate_left
              · (intro w' hSw; (try dsimp only at hSw); obtain hSa0 := hSw; go_simp <;> with_reducible rfl)
              try simp only [Act.put, List.setIfInBounds_toArray, List.set_cons_zero, List.set_cons_succ]
              refine wpAnyF_take (i := 7) (v := ?_) (by (simp only [List.getElem?_toArray, List.getElem?_cons_succ, List.getElem?_cons_zero]; rfl)) (by kernel_rfl) (by kernel_rfl) (by kernel_rfl) (by decide) (by exact fun _ _ _ h => h) ⟨hHeld.1, .inr hHeld.2⟩ (Or.inl ⟨by rfl, ?_⟩) ?_
              rotate_left
              · (intro w' _; go_simp <;> with_reducible rfl)
              try simp only [Act.put, List.setIfInBounds_toArray, List.set_cons_zero, List.set_cons_succ]
              refine wpAnyF_take (i := 8) (v := ?_) (by (simp only [List.getElem?_toArray, List.getElem?_cons_succ, List.getElem?_cons_zero]; rfl)) (by kernel_rfl) (by kernel_rfl) (by kernel_rfl) (by decide) (by exact fun _ _ _ h => h) ⟨hHeld.1, .inr hHeld.2⟩ (Or.inl ⟨by rfl, ?_⟩) ?_
              rotate_left
              · (intro w' _; go_simp <;> with_reducible rfl)
              try simp only [Act.put, List.setIfInBounds_toArray, List.set_cons_zero, List.set_cons_succ]
              refine wpAnyF_take (i := 9) (v := ?_) (by (simp only [List.getElem?_toArray, List.getElem?_cons_succ, List.getElem?_cons_zero]; rfl)) (by kernel_rfl) (by kernel_rfl) (by kernel_rfl) (by decide) (by exact fun _ _ _ h => h) ⟨hHeld.1, .inr hHeld.2⟩ (Or.inl ⟨by rfl, ?_⟩) ?_
              rotate_left
              · (intro w' _; go_simp <;> with_reducible rfl)
              try simp only [Act.put, List.setIfInBounds_toArray, List.set_cons_zero, List.set_cons_succ]
              refine wpAnyF_ready (rs := [10]) (by kernel_rfl) (by simp) ?_
              refine AllReadyF.last (by (simp only [List.getElem?_toArray, List.getElem?_cons_succ, List.getElem?_cons_zero]; rfl)) (by kernel_rfl) (fun K hK => ?_) AllReadyF.nil
              go_simp
              refine hK.out _ _ (((kq7.drew_.far (p := ⟨g, 1, none⟩) (show q ≠ g by omega) _).cell 3).trans rfl) ?_
              clear hK K
              try simp only [Act.put, List.setIfInBounds_toArray, List.set_cons_zero, List.set_cons_succ]
              refine wpAnyF_done (by kernel_rfl) ?_ _
              go_wp2
              have F8 := hr7.store 1 (.slice (cutA (some ⟨bk, off, none⟩) z c2) (d.length - z) (c2 - z)) (d' := file.drop (at_ + z)) (A2' := cutA (some ⟨bk, off, none⟩) z c2) (c2' := c2 - z) (n' := n + 1) (ev' := ev + E.length)
                (by
                  have e : (file.drop (at_ + z)).length = d.length - z := by rw [← List.drop_drop, ← HD.out, List.length_drop]
                  rw [e]
                  have := hr7.blk.set_ 1 (.slice (cutA (some ⟨bk, off, none⟩) z c2) (d.length - z) (c2 - z))
                  exact this)
                (by rw [← List.drop_drop, ← HD.out]; exact hr7.rdd.cut HZD.out hr7.cd) (by rw [← List.drop_drop, ← HD.out, List.length_drop]; have := hr7.cd; omega)
              have F9 := F8.drew
              have hl8 := F9.leftOf_
              rw [← List.drop_drop, ← HD.out, List.length_drop] at hl8
              have HL8 := hide hl8
              clear hl8
              go_roundw
              case rel => exact ⟨f', at_ + z, n + 1, ev + E.length, (k : Int), M, us', _, _, rfl, F9, by rw [HSM.out, HEV.out], by have := HZD.out; have := HDL.out; omega, by omega, by rw [HML.out]; exact hcN, HFEW.out, by have := HF1.out; omega, HS2⟩
              case measure => rw [HM.out, HL8.out]; omega
            · have h0 : dcFrame (file.drop at_) cs last = 1 := by
                rw [HF.out, if_pos (by first | trivial | rfl), if_neg (fun h => by have := h.2.2; omega)]
              exact ⟨rfl, .inr ⟨1, by decide, by rw [← HS.out, HF1.out, dcS_stop HE.out (by rw [h0]; decide), h0], rfl, hb7⟩⟩
          · have h0 : dcFrame (file.drop at_) cs last = 1 := by
              rw [HF.out, if_pos (by first | trivial | rfl), if_neg (fun h => hw ⟨h.2.1, by have := h.1; omega⟩)]
            have HR : Hid (R = (1, [])) := hide (by rw [← HS.out, HF1.out, dcS_stop HE.out (by rw [h0]; decide), h0])
            have hw' : (k : Int) < last ∨ (cs.length : Int) - 1 < (k : Int) := by omega
            have ho := hr4.old
            clear hw h0 HF HN HS
            go_wp2_with fail
            refine (allWithin_not _ _ _ _ _ _ (by simp [go_sem]) hw').mono ?_
            rintro e w6 ⟨rfl, rfl⟩
            go_wp2_with fail
            refine (must_no2 1 _).mono ?_
            rintro e w7 ⟨rfl, rfl⟩
            exact ⟨rfl, .inr ⟨1, by decide, HR.out, rfl, ho.alloc ho.size _⟩⟩
        · have h0 : dcFrame (file.drop at_) cs last = C := by rw [HF.out, if_neg hC]
          have HR : Hid (R = (C, [])) := hide (by rw [← HS.out, HF1.out, dcS_stop HE.out (by rw [h0]; exact hC), h0])
          have gC : (C == 0) = false := beq_eq_false_iff_ne.2 hC
          have ho := hr4.old
          have HC := hide hC
          clear h0 HF HN HS hk hC
          go_wp2_with fail
          refine (must_no2 C _).mono ?_
          rintro e w5 ⟨rfl, rfl⟩
          exact ⟨rfl, .inr ⟨C, HC.out, HR.out, rfl, ho⟩⟩
      · have HE := hide (show ¬ (at_ < file.length ∧ (file.drop at_).getD 0 0 = 66) from fun h => h66 (by rw [← HX.out]; exact h.2))
        have g66 : (x == 66) = false := beq_eq_false_iff_ne.2 h66
        have HRE : Hid (R = if dcEnd file at_ cs n = 0 then (0, cs) else (dcEnd file at_ cs n, [])) := hide (by rw [← HS.out, hf1, dcS_end HE.out])
        have HD := hide hd
        have HEV := hide hev
        clear h66 hdl hd HS hev
        go_wp2
        go_end0
        rw [HD.out, HEV.out] at hr
        exact .inl ⟨rfl, at_, n, cs, us, _, c2, hr, ha, hna, hcN, hall, HRE.out⟩
    · have HE := hide (show ¬ (at_ < file.length ∧ (file.drop at_).getD 0 0 = 66) from fun h => hlt (by omega))
      have HRE : Hid (R = if dcEnd file at_ cs n = 0 then (0, cs) else (dcEnd file at_ cs n, [])) := hide (by rw [← HS.out, hf1, dcS_end HE.out])
      have hl0 : d.length = 0 := by omega
      have HD := hide hd
      have HEV := hide hev
      have HL0 := hide hl0
      rw [hl0] at g1
      clear hdl hd HS hev hlt hl0
      go_wp2
      go_end0
      rw [HD.out, HEV.out] at hr
      exact .inl ⟨rfl, at_, n, cs, us, _, c2, hr, ha, hna, hcN, hall, HRE.out⟩
end Go.Proofs.YtldepledinolmaaDoor
