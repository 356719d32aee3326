/- What the laws' walks rest upon, part 12. -/
import Derived.Test.YtnnfkmjhaljplaaGreatDoorM05
import Derived.Test.YtnnfkmjhaljplaaGreatDoorM11
import Derived.Test.YtnnfkmjhaljplaaGreatDoorM01
import Derived.Test.YtnnfkmjhaljplaaGreatDoorM06
import Derived.BigQuiet
namespace Go.Proofs.YtnnfkmjhaljplaaGreatDoor
open Go.RowKit
/-- Where the model's reader stands. -/
structure RdrAt (w0 : World) (g gv base : Nat) (file : List Int) (A : Option Addr) (c at_ n : Nat) (last : Int) (cs : List (List Ev)) (us : List Value) (w : World) : Prop where
  blk : Bk w g #[.slice A file.length c, .int .i64 at_, .slice (some ⟨gv, 0, none⟩) cs.length cs.length, .int .i64 last, .int .i64 n] 226
  own : OwnT w base (.slice (some ⟨gv, 0, none⟩) cs.length cs.length) cs us
  rd : Rd .u8 w w0.heap.size A file
  old : Below w0.heap.size w0 w
  lo : w0.heap.size ≤ base
  hv : base ≤ gv ∧ gv < g
  apart : ∀ u ∈ us, ∀ b, u.ownBlock = some b → b ≠ g
theorem RdrAt.below {w0 w w' : World} {g gv base : Nat} {file : List Int} {A : Option Addr} {c at_ n : Nat} {last : Int} {cs : List (List Ev)} {us : List Value} (h : RdrAt w0 g gv base file A c at_ n last cs us w) (hb : Below w.heap.size w w') : RdrAt w0 g gv base file A c at_ n last cs us w' :=
  ⟨h.blk.kept hb, h.own.below hb, h.rd.below (hb.mono h.old.size), h.old.trans (hb.mono h.old.size), h.lo, h.hv, h.apart⟩
theorem OwnT.off {w w' : World} {base g : Nat} {v : Value} {t : List (List Ev)} {us : List Value} (h : OwnT w base v t us) (hg : w.grownBy w' (some g)) (h1 : v.ownBlock ≠ some g) (h2 : ∀ u ∈ us, u.ownBlock ≠ some g) : OwnT w' base v t us :=
  ⟨h.row.kept hg (own_sep fun b hb e => h1 (by rw [hb, e])), fun i hi => by
    obtain ⟨u, q1, q2, q3⟩ := h.rows i hi
    exact ⟨u, q1, q2.kept hg (own_sep fun b hb e => h2 u (List.mem_of_getElem? q1) (by rw [hb, e])), q3⟩, h.apart⟩
/-- What the reader's frame tells. -/
def FrmAt (w0 : World) (g gv base : Nat) (file : List Int) (A : Option Addr) (c at_ n : Nat) (last : Int) (cs : List (List Ev)) (e : Ending) (w' : World) : Prop :=
  (¬ dcFrame (file.drop at_) cs last = 0 ∧ e = .returned (.int .i64 (dcFrame (file.drop at_) cs last)) ∧ Below w0.heap.size w0 w') ∨
  (dcFrame (file.drop at_) cs last = 0 ∧ e = .returned (.int .i64 0) ∧ ∃ us', RdrAt w0 g gv base file A c (at_ + (frZ (file.drop at_)).toNat) (n + 1) (frK (file.drop at_)) (dcNext (file.drop at_) cs) us' w')
theorem sB2 {w1 w' : World} {a0 a1 : Addr} {v0 v1 : Value} (h0 : w1.cell? a0 = some v0) (h1 : w1.cell? a1 = some v1) (hB : Below w1.heap.size w1 w') : w'.cell? a0 = some v0 ∧ w'.cell? a1 = some v1 ∧ Below w1.heap.size w1 w' :=
  ⟨cell_kept hB h0, cell_kept hB h1, hB⟩
set_option maxRecDepth 100000 in
set_option maxHeartbeats 4000000 in
theorem rdrFrame_any (w0 : World) (g gv base : Nat) (file : List Int) (A : Option Addr) (c at_ n : Nat) (last : Int) (cs : List (List Ev)) (us : List Value) (w : World) (hf : file.length ≤ 2000) (hc : file.length ≤ c) (b8 : B8 file) (hat : at_ ≤ file.length) (hn : n ≤ 2000) (hall : ∀ l ∈ cs, l.length ≤ 8)
    (hr : RdrAt w0 g gv base file A c at_ n last cs us w) :
    Calls Tryz.prog 168 #[.pointer (some ⟨g, 0, none⟩)] w (FrmAt w0 g gv base file A c at_ n last cs) := by
  obtain ⟨d, hd⟩ : ∃ d, d = file.drop at_ := ⟨_, rfl⟩
  have hdl : d.length = file.length - at_ := by rw [hd, List.length_drop]
  have d8 : B8 d := by rw [hd]; exact b8.drop at_
  have rdd : Rd .u8 w w.heap.size (cutA A at_ c) d := by rw [hd]; exact ((hr.rd.cut (n := at_) hat hc).more hr.old.size)
  have CUT := fun W => run_cut A file.length at_ c at_ W rfl hat
  rw [← hdl] at CUT
  have SR0 := fun W hW => specRf_any d (cutA A at_ c) (c - at_) W (by omega) (by omega) hW d8
  obtain ⟨m, hm⟩ : ∃ m, m = d.length := ⟨_, rfl⟩
  rw [← hm] at CUT SR0
  have SR := hide SR0
  clear SR0
  unfold FrmAt
  rw [← hd]
  unfold RfPost at SR
  have hk := frE_right d8
  obtain ⟨C, hC⟩ : ∃ C, C = frC d := ⟨_, rfl⟩
  obtain ⟨K, hK⟩ : ∃ K, K = frK d := ⟨_, rfl⟩
  obtain ⟨E, hE⟩ : ∃ E, E = frE d := ⟨_, rfl⟩
  obtain ⟨Z, hZ⟩ : ∃ Z, Z = frZ d := ⟨_, rfl⟩
  have HN : Hid (dcNext d cs = cs.set K.toNat (cs.getD K.toNat [] ++ E)) := hide (by unfold dcNext; rw [hK, hE])
  have HF : Hid (dcFrame d cs last = if C = 0 then (if K < cs.length ∧ last ≤ K ∧ (cs.getD K.toNat []).length + E.length ≤ 8 then 0 else 1) else C) := hide (by unfold dcFrame; rw [hC, hK, hE])
  rw [← hC, ← hK, ← hE, ← hZ] at hk
  rw [← hC, ← hK, ← hE, ← hZ] at SR
  rw [← hK, ← hZ]
  obtain ⟨G, hG⟩ : ∃ G, G = dcFrame d cs last := ⟨_, rfl⟩
  rw [← hG] at HF ⊢
  obtain ⟨M, hM⟩ : ∃ M, M = dcNext d cs := ⟨_, rfl⟩
  rw [← hM] at HN ⊢
  have hdm : d.length ≤ 2000 := by omega
  clear hC hK hE hZ hd hG hM d8 hm hdl
  have c0 := (hr.blk.cell 0).trans (rfl : _ = some (Value.slice A file.length c))
  have c1 := (hr.blk.cell 1).trans (rfl : _ = some (Value.int .i64 at_))
  have gl := hr.blk.lt
  go_enter Tryz.func168, Tryz.ntmps168
  go_wp2_with fail
  go_cut [3] (fun s wx => ∃ q A2 c2, s = .pointer (some ⟨q, 0, none⟩) ∧ w.heap.size ≤ q ∧ Bk wx q #[.int .i64 C, .int .i64 K, .slice A2 E.length c2, .int .i64 Z] 203 ∧ RdE wx wx.heap.size A2 E ∧ Below w.heap.size w wx)
  case first =>
    have n0 : g ≠ w.heap.size := by omega
    go_region_held3 (fun w' => w'.cell? ⟨g, 0, none⟩ = some (Value.slice A file.length c) ∧ w'.cell? ⟨g, 1, none⟩ = some (Value.int .i64 at_) ∧ Below w.heap.size w w')
      (first
        | assumption
        | exact ⟨c0, c1, (Below.refl _ _).drew⟩
        | exact sB2 c0 c1 hBa
        | exact sB2 c0 c1 (hBa.alloc hBa.size _)
        | exact sB2 c0 c1 ((((hBa.setCell (Nat.le_refl _) _).setCell (Nat.le_refl _) _).setCell (Nat.le_refl _) _).setCell (Nat.le_refl _) _)
        | (go_split_ands; exact sB2 c0 c1 (Below.alloc (by assumption) (Below.size (by assumption)) _)))
      (first
        | (go_at_call 219; refine (SR.out _ ?_).mono ?_; (go_split_ands; exact (rdd.below (by assumption)).lt); rintro e wa ⟨A2, c2, rfl, oa, ba⟩; have hBa : Below w.heap.size w wa := (by go_split_ands; exact Below.trans (by assumption) (ba.mono (Below.size (by assumption))))); (first | (have kb := (Bk.new w #[.int .i64 0, .int .i64 0, .slice none 0 0, .int .i64 0] 203).drew_.kept ba; have k0 := (kb.cell 0).trans (rfl : _ = some (Value.int .i64 0)); have k1 := (kb.cell 1).trans (rfl : _ = some (Value.int .i64 0)); have k2 := (kb.cell 2).trans (rfl : _ = some (Value.slice none 0 0)); have k3 := (kb.cell 3).trans (rfl : _ = some (Value.int .i64 0)); have f0 := kb.frozen 0; have f1 := kb.frozen 1; have f2 := kb.frozen 2; have f3 := kb.frozen 3) | skip))
    · go_wp2_with fail
      go_meet
      exact ⟨wa.heap.size, A2, c2, rfl, hBa.size, Bk.new wa _ _, ((RdE.of_own oa).alloc (Nat.le_refl _) _).lt, hBa.alloc hBa.size _⟩
    · have o4 := ownsRow_setCell_below (ownsRow_setCell_below (ownsRow_setCell_below (ownsRow_setCell_below oa (a := ⟨w.heap.size, 0, none⟩) (by simp) (.int .i64 C)) (a := ⟨w.heap.size, 1, none⟩) (by simp) (.int .i64 K)) (a := ⟨w.heap.size, 2, none⟩) (by simp) (.slice A2 E.length c2)) (a := ⟨w.heap.size, 3, none⟩) (by simp) (.int .i64 Z)
      go_wp2_with fail
      go_meet
      exact ⟨w.heap.size, A2, c2, rfl, Nat.le_refl _, (((kb.set_ 0 (.int .i64 C)).set_ 1 (.int .i64 K)).set_ 2 (.slice A2 E.length c2)).set_ 3 (.int .i64 Z), RdE.of_own o4, (((hBa.setCell (Nat.le_refl _) _).setCell (Nat.le_refl _) _).setCell (Nat.le_refl _) _).setCell (Nat.le_refl _) _⟩
  case rest =>
    obtain ⟨q, A2, c2, rfl, hq, kq, rE, C1⟩ := hcut
    have hold : ∀ (i : Nat) (u : Value), us[i]? = some u → ∀ b, u.ownBlock = some b → b < w.heap.size := fun i u hu b hb => by
      obtain ⟨_, h1, _⟩ := hr.own.at_ hu
      exact (h1.lt b hb).2
    have hgvw : gv < w.heap.size := (hr.own.row.lt gv rfl).2
    have hr := hr.below C1
    clear c0 c1 CUT SR rdd C1
    have e0 := (kq.cell 0).trans (rfl : _ = some (Value.int .i64 C))
    have e1 := (kq.cell 1).trans (rfl : _ = some (Value.int .i64 K))
    have e2 := (kq.cell 2).trans (rfl : _ = some (Value.slice A2 E.length c2))
    have e3 := (kq.cell 3).trans (rfl : _ = some (Value.int .i64 Z))
    by_cases hC : C = 0
    · subst hC
      obtain ⟨hE0, hE1, hK0, hK3, hZ1, hZ2⟩ := hk rfl
      obtain ⟨k, rfl⟩ := Int.eq_ofNat_of_zero_le hK0
      obtain ⟨z, rfl⟩ := Int.eq_ofNat_of_zero_le (show 0 ≤ Z by omega)
      rw [Int.toNat_natCast] at HN HF
      have r2 := (hr.blk.cell 2).trans (rfl : _ = some (Value.slice (some ⟨gv, 0, none⟩) cs.length cs.length))
      have r3 := (hr.blk.cell 3).trans (rfl : _ = some (Value.int .i64 last))
      have h8 := (stF_zero hE0).1
      have HK := hide hk
      have HALL := hide hall
      clear hk hall hK0 hK3
      by_cases hA : k < cs.length
      · obtain ⟨u, hu, hown, hu3⟩ := hr.own.rows k hA
        obtain ⟨ak, ck, hak⟩ := own_shape hown
        subst hak
        have hxk : wc.cell? ⟨gv, k, none⟩ = some (.slice ak cs[k].length ck) := by
          rw [hr.own.row.cellAt k (by omega)]
          exact hu
        have hlk := HALL.out _ (List.getElem_mem hA)
        have HG : Hid (cs.getD k [] = cs[k]) := hide (by simp [hA])
        have hA1 : decide (cs.length ≤ k) = false := decide_eq_false (by omega)
        have hA2 : ¬ cs.length ≤ k := by omega
        obtain ⟨L, hL⟩ : ∃ L, L = cs[k] := ⟨_, rfl⟩
        rw [← hL] at hxk hlk HG
        have HL := hide hL
        clear hL
        by_cases hB : last ≤ (k : Int)
        · have hB1 : decide ((k : Int) < last) = false := decide_eq_false (by omega)
          have hB2 : ¬ (k : Int) < last := by omega
          by_cases hD : L.length + E.length ≤ 8
          · have hD1 : ¬ (8 : Int) < (L.length : Int) + (E.length : Int) := by omega
            have hD2 : ¬ 8 < L.length + E.length := by omega
            have HFo : Hid (G = 0) := hide (by rw [HF.out, if_pos rfl, if_pos ⟨by omega, hB, by rw [HG.out]; exact hD⟩])
            go_wp2
            go_quiet (fail)
            go_wp2
            generalize hV : wc.drewN _ = V
            have hb : Below wc.heap.size wc V := by rw [← hV]; exact below_drewN (Below.refl _ _) _
            have hr := hr.below hb
            have kq := kq.kept hb
            have rE := (rE.below hb).lt
            have hown := own_below hown hb (Nat.le_refl _)
            have zV := hb.size
            have hqV := kq.lt
            clear e0 e1 e2 e3 r2 r3 hxk hb hV
            have hR := hide hr
            have hQ := hide kq
            have AC : ∀ w', Below V.heap.size V w' → w'.cell? ⟨g, 2, none⟩ = some (Value.slice (some ⟨gv, 0, none⟩) cs.length cs.length) ∧ w'.cell? ⟨q, 2, none⟩ = some (Value.slice A2 E.length c2) := fun w' h => ⟨((hR.out.below h).blk.cell 2).trans rfl, ((hQ.out.kept h).cell 2).trans rfl⟩
            have SC : ∀ w', Below V.heap.size V w' → w'.cell? ⟨gv, k, none⟩ = some (Value.slice ak cs[k].length ck) := fun w' h => by rw [(hr.own.below h).row.cellAt k (by omega)]; exact hu
            have HLL := HL.out
            rw [← HLL] at SC hown
            have hown : V.drew.ownsRow base 48 3 (.slice ak L.length ck) L.length (evs L) := hown
            obtain ⟨i0, hi, hz0, hz1, hz2⟩ := info_parts info_event
            have hka : (0 : Int) ≤ (k : Int) := by omega
            have hkb : (k : Int) < (cs.length : Int) := by omega
            clear hr kq HLL
            refine wp_region_F 15 (fun w' => w'.cell? ⟨g, 2, none⟩ = some (Value.slice (some ⟨gv, 0, none⟩) cs.length cs.length) ∧ w'.cell? ⟨q, 2, none⟩ = some (Value.slice A2 E.length c2)) (fun w' => w'.cell? ⟨gv, k, none⟩ = some (Value.slice ak L.length ck)) (by kernel_rfl) ⟨AC _ (Below.refl _ _).drew, SC _ (Below.refl _ _).drew⟩ (fun hHeld => ?_)
            try simp only [Act.put, List.setIfInBounds_toArray, List.set_cons_zero, List.set_cons_succ]
            refine wpAnyF_take (i := 0) (v := ?_) (by (simp only [List.getElem?_toArray, List.getElem?_cons_zero]; rfl)) (by kernel_rfl) (by kernel_rfl) (by kernel_rfl) (by decide) (by exact fun _ _ _ h => h) ⟨hHeld.1, .inr hHeld.2⟩ (Or.inl ⟨by rfl, ?_⟩) ?_
            rotate_left
            · (intro w' _; go_simp <;> with_reducible rfl)
            try simp only [Act.put, List.setIfInBounds_toArray, List.set_cons_zero, List.set_cons_succ]
            refine wpAnyF_take (i := 1) (v := ?_) (by (simp only [List.getElem?_toArray, List.getElem?_cons_succ, List.getElem?_cons_zero]; rfl)) (by kernel_rfl) (by kernel_rfl) (by kernel_rfl) (by decide) (by exact fun _ _ _ h => h) ⟨hHeld.1, .inr hHeld.2⟩ (Or.inl ⟨by rfl, ?_⟩) ?_
            rotate_left
            · (intro w' _; go_simp <;> with_reducible rfl)
            try simp only [Act.put, List.setIfInBounds_toArray, List.set_cons_zero, List.set_cons_succ]
            refine wpAnyF_take (i := 2) (v := ?_) (by (simp only [List.getElem?_toArray, List.getElem?_cons_succ, List.getElem?_cons_zero]; rfl)) (by kernel_rfl) (by kernel_rfl) (by kernel_rfl) (by decide) (by exact fun _ _ _ h => h) ⟨hHeld.1, .inr hHeld.2⟩ (Or.inl ⟨by rfl, ?_⟩) ?_
            rotate_left
            · (intro w' _; go_simp <;> with_reducible rfl)
            try simp only [Act.put, List.setIfInBounds_toArray, List.set_cons_zero, List.set_cons_succ]
            refine wpAnyF_keep (i := 3) (v := ?_) (by (simp only [List.getElem?_toArray, List.getElem?_cons_succ, List.getElem?_cons_zero]; rfl)) (by kernel_rfl) (by kernel_rfl) (by kernel_rfl) (by decide) (by exact fun _ _ _ h => h) ⟨hHeld.1, .inr hHeld.2⟩ (Or.inl ⟨by rfl, ?_⟩) ?_
            rotate_left
            · (intro w' hSw; (try dsimp only at hSw); obtain ⟨hSa, hSb⟩ := hSw; go_simp <;> with_reducible rfl)
            try simp only [Act.put, List.setIfInBounds_toArray, List.set_cons_zero, List.set_cons_succ]
            refine wpAnyF_take (i := 4) (v := ?_) (by (simp only [List.getElem?_toArray, List.getElem?_cons_succ, List.getElem?_cons_zero]; rfl)) (by kernel_rfl) (by kernel_rfl) (by kernel_rfl) (by decide) (by exact fun _ _ _ h => h) ⟨hHeld.1, .inr hHeld.2⟩ (Or.inl ⟨by rfl, ?_⟩) ?_
            rotate_left
            · (intro w' _; go_simp <;> with_reducible rfl)
            try simp only [Act.put, List.setIfInBounds_toArray, List.set_cons_zero, List.set_cons_succ]
            refine wpAnyF_take (i := 5) (v := ?_) (by (simp only [List.getElem?_toArray, List.getElem?_cons_succ, List.getElem?_cons_zero]; rfl)) (by kernel_rfl) (by kernel_rfl) (by kernel_rfl) (by decide) (by exact fun _ _ _ h => h) ⟨hHeld.1, .inr hHeld.2⟩ (Or.inl ⟨by rfl, ?_⟩) ?_
            rotate_left
            · (intro w' _; go_simp <;> with_reducible rfl)
            try simp only [Act.put, List.setIfInBounds_toArray, List.set_cons_zero, List.set_cons_succ]
            refine wpAnyF_take (i := 6) (v := ?_) (by (simp only [List.getElem?_toArray, List.getElem?_cons_succ, List.getElem?_cons_zero]; rfl)) (by kernel_rfl) (by kernel_rfl) (by kernel_rfl) (by decide) (by exact fun _ _ _ h => h) ⟨hHeld.1, .inr hHeld.2⟩ (Or.inl ⟨by rfl, ?_⟩) ?_
            rotate_left
            · (intro w' _; go_simp <;> with_reducible rfl)
            try simp only [Act.put, List.setIfInBounds_toArray, List.set_cons_zero, List.set_cons_succ]
            refine wpAnyF_take (i := 7) (v := ?_) (by (simp only [List.getElem?_toArray, List.getElem?_cons_succ, List.getElem?_cons_zero]; rfl)) (by kernel_rfl) (by kernel_rfl) (by kernel_rfl) (by decide) (by exact fun _ _ _ h => h) ⟨hHeld.1, .inr hHeld.2⟩ (Or.inl ⟨by rfl, ?_⟩) ?_
            rotate_left
            · (intro w' _; go_simp <;> with_reducible rfl)
            try simp only [Act.put, List.setIfInBounds_toArray, List.set_cons_zero, List.set_cons_succ]
            refine wpAnyF_keep (i := 8) (v := ?_) (by (simp only [List.getElem?_toArray, List.getElem?_cons_succ, List.getElem?_cons_zero]; rfl)) (by kernel_rfl) (by kernel_rfl) (by kernel_rfl) (by decide) (by exact fun _ _ _ h => h) ⟨hHeld.1, .inr hHeld.2⟩ (Or.inl ⟨by rfl, ?_⟩) ?_
            rotate_left
            · (intro w' hSw; (try dsimp only at hSw); obtain ⟨hSa, hSb⟩ := hSw; go_simp <;> with_reducible rfl)
            try simp only [Act.put, List.setIfInBounds_toArray, List.set_cons_zero, List.set_cons_succ]
            refine wpAnyF_take (i := 9) (v := ?_) (by (simp only [List.getElem?_toArray, List.getElem?_cons_succ, List.getElem?_cons_zero]; rfl)) (by kernel_rfl) (by kernel_rfl) (by kernel_rfl) (by decide) (by exact fun _ _ _ h => h) ⟨hHeld.1, .inr hHeld.2⟩ (Or.inl ⟨by rfl, ?_⟩) ?_
            rotate_left
            · (intro w' _; go_simp <;> with_reducible rfl)
            try simp only [Act.put, List.setIfInBounds_toArray, List.set_cons_zero, List.set_cons_succ]
            refine wpAnyF_take (i := 10) (v := ?_) (by (simp only [List.getElem?_toArray, List.getElem?_cons_succ, List.getElem?_cons_zero]; rfl)) (by kernel_rfl) (by kernel_rfl) (by kernel_rfl) (by decide) (by exact fun _ _ _ h => h) ⟨hHeld.1, .inr hHeld.2⟩ (Or.inl ⟨by rfl, ?_⟩) ?_
            rotate_left
            · (intro w' _; go_simp <;> with_reducible rfl)
            try simp only [Act.put, List.setIfInBounds_toArray, List.set_cons_zero, List.set_cons_succ]
            refine wpAnyF_load (i := 11) (v := ?_) (by (simp only [List.getElem?_toArray, List.getElem?_cons_succ, List.getElem?_cons_zero]; rfl)) (by kernel_rfl) (by kernel_rfl) (by kernel_rfl) (by decide) (by exact fun _ _ _ h => h) hHeld (by kernel_rfl) (by kernel_rfl) (Or.inl ⟨by rfl, ?_⟩) ?_
            rotate_left
            · (intro w' hSw; (try dsimp only at hSw); go_simp <;> with_reducible rfl)
            try simp only [Act.put, List.setIfInBounds_toArray, List.set_cons_zero, List.set_cons_succ]
            refine wpAnyF_take (i := 12) (v := ?_) (by (simp only [List.getElem?_toArray, List.getElem?_cons_succ, List.getElem?_cons_zero]; rfl)) (by kernel_rfl) (by kernel_rfl) (by kernel_rfl) (by decide) (by exact fun _ _ _ h => h) ⟨hHeld.1, .inr hHeld.2⟩ (Or.inl ⟨by rfl, ?_⟩) ?_
            rotate_left
            · (intro w' _; go_simp <;> with_reducible rfl)
            try simp only [Act.put, List.setIfInBounds_toArray, List.set_cons_zero, List.set_cons_succ]
            refine wpAnyF_take (i := 13) (v := ?_) (by (simp only [List.getElem?_toArray, List.getElem?_cons_succ, List.getElem?_cons_zero]; rfl)) (by kernel_rfl) (by kernel_rfl) (by kernel_rfl) (by decide) (by exact fun _ _ _ h => h) ⟨hHeld.1, .inr hHeld.2⟩ (Or.inl ⟨by rfl, ?_⟩) ?_
            rotate_left
            · (intro w' _; go_simp <;> with_reducible rfl)
            try simp only [Act.put, List.setIfInBounds_toArray, List.set_cons_zero, List.set_cons_succ]
            refine wpAnyF_keep (i := 14) (v := ?_) (by (simp only [List.getElem?_toArray, List.getElem?_cons_succ, List.getElem?_cons_zero]; rfl)) (by kernel_rfl) (by kernel_rfl) (by kernel_rfl) (by decide) (by exact fun _ _ _ h => h) ⟨hHeld.1, .inr hHeld.2⟩ (Or.inl ⟨by rfl, ?_⟩) ?_
            rotate_left
            · (intro w' hSw; (try dsimp only at hSw); obtain ⟨hSa, hSb⟩ := hSw; go_simp <;> with_reducible rfl)
            try simp only [Act.put, List.setIfInBounds_toArray, List.set_cons_zero, List.set_cons_succ]
            refine wpAnyF_ready (rs := [15]) (by kernel_rfl) (by simp) ?_
            refine AllReadyF.last (by (simp only [List.getElem?_toArray, List.getElem?_cons_succ, List.getElem?_cons_zero]; rfl)) (by kernel_rfl) (fun K hK => ?_) AllReadyF.nil
            refine step_append_re _ (by rfl) (.tmp 65) (.tmp 68) 45 (by rfl) base 48 i0 (.agg #[.int .i64 0, .int .i64 0, .int .i64 0]) 24 Tryz.underlying45 hi hz0 hz1 hz2 rfl (.slice ak L.length ck) L.length (evs L) (by rfl) hown A2 E c2 V.heap.size (by rfl) rE (by unfold maxLen; omega) (by omega) (by have := hR.out.lo; have := hR.out.hv; show base ≤ V.heap.size; omega) ?_
            intro v5 w5 o5 g5 hat5
            rw [← evs_append, ← List.length_append] at o5
            obtain ⟨D5, d5, hv5⟩ := own_shape o5
            subst hv5
            have hru : ∀ b, (Value.slice ak L.length ck).ownBlock = some b → b < w.heap.size ∧ b ≠ g := fun b hb => by rw [HL.out] at hb; exact ⟨hold _ _ hu b hb, hR.out.apart _ (List.mem_of_getElem? hu) b hb⟩
            have hru3 : ∀ b, (Value.slice ak L.length ck).ownBlock = some b → b ≠ gv := fun b hb e => by rw [HL.out] at hb; subst e; exact hu3 b hb rfl
            have bk5 := hR.out.blk.drew_.grown g5 (fun e => (hru g e.symm).2 rfl)
            have kq5 := hQ.out.drew_.grown g5 (fun e => by have := (hru q e.symm).1; omega)
            have row5 := (show V.drew.ownsRow base 45 1 (.slice (some ⟨gv, 0, none⟩) cs.length cs.length) cs.length us from hR.out.own.row).kept g5 (own_sep fun b hb e => by simp only [Value.ownBlock, Option.some.injEq] at hb; subst hb; exact hru3 _ e rfl)
            have hf5 := row5.frozenAt k
            have hc5 : w5.cell? ⟨gv, k, none⟩ = some (.slice ak cs[k].length ck) := by rw [row5.cellAt k (by omega)]; exact hu
            have nga : g ≠ gv := by have := hR.out.hv; omega
            have nqa : q ≠ gv := by omega
            have A5 : w5.cell? ⟨g, 2, none⟩ = some (Value.slice (some ⟨gv, 0, none⟩) cs.length cs.length) ∧ w5.cell? ⟨q, 2, none⟩ = some (Value.slice A2 E.length c2) := ⟨(bk5.cell 2).trans rfl, (kq5.cell 2).trans rfl⟩
            have A6 : ∀ x, (w5.setCell ⟨gv, k, none⟩ x).cell? ⟨g, 2, none⟩ = some (Value.slice (some ⟨gv, 0, none⟩) cs.length cs.length) ∧ (w5.setCell ⟨gv, k, none⟩ x).cell? ⟨q, 2, none⟩ = some (Value.slice A2 E.length c2) := fun x => ⟨((bk5.far (p := ⟨gv, k, none⟩) nga x).cell 2).trans rfl, ((kq5.far (p := ⟨gv, k, none⟩) nqa x).cell 2).trans rfl⟩
            have HO := hide o5
            have HGR := hide g5
            have HAT := hide hat5
            have BK := hide bk5
            have KQ := hide kq5
            have HOW := hide hown
            clear o5 g5 hat5 bk5 kq5 row5 hown rE
            refine hK.out _ _ A5 ?_
            clear hK K
            try simp only [Act.put, List.setIfInBounds_toArray, List.set_cons_zero, List.set_cons_succ]
            refine wpAnyF_take (i := 16) (v := ?_) (by (simp only [List.getElem?_toArray, List.getElem?_cons_succ, List.getElem?_cons_zero]; rfl)) (by kernel_rfl) (by kernel_rfl) (by kernel_rfl) (by decide) (by exact fun _ _ _ h => h) ⟨A5, .inl (by kernel_rfl)⟩ (Or.inl ⟨by rfl, ?_⟩) ?_
            rotate_left
            · (intro w' _; go_simp <;> with_reducible rfl)
            try simp only [Act.put, List.setIfInBounds_toArray, List.set_cons_zero, List.set_cons_succ]
            refine wpAnyF_ready (rs := [17]) (by kernel_rfl) (by simp) ?_
            refine AllReadyF.last (by (simp only [List.getElem?_toArray, List.getElem?_cons_succ, List.getElem?_cons_zero]; rfl)) (by kernel_rfl) (fun K hK => ?_) AllReadyF.nil
            go_simp
            refine hK.out _ _ (A6 _) ?_
            clear hK K
            try simp only [Act.put, List.setIfInBounds_toArray, List.set_cons_zero, List.set_cons_succ]
            refine wpAnyF_done (by kernel_rfl) ?_ _
            have hlen : (L ++ E).length = L.length + E.length := List.length_append
            have hu2 := hu
            rw [← HL.out] at hu2
            have oS := (hR.out.own.below (Below.refl V.heap.size V).drew).swap (es' := L ++ E) hu2 HGR.out (fun b e => .inl e) HO.out (fun b hb => by
              rcases HAT.out with e | e
              · exact .inl (e.symm.trans hb)
              · rw [e] at hb; simp only [Option.some.injEq] at hb; exact .inr (Nat.le_of_eq hb))
            have hnew : (Value.slice D5 (L ++ E).length d5).ownBlock ≠ some g := fun e => by
              rcases HAT.out with h | h
              · exact (hru g (h.symm.trans e)).2 rfl
              · rw [h] at e; simp only [Option.some.injEq] at e; have : V.drew.heap.size = V.heap.size := rfl; have := hR.out.blk.lt; omega
            have bW : Below w0.heap.size V (w5.setCell ⟨gv, k, none⟩ (.slice D5 (L.length + E.length) d5)) := ((Below.refl w0.heap.size V).drew.trans (grown_below HOW.out HGR.out (show w0.heap.size ≤ V.heap.size by have := hR.out.old.size; omega) hR.out.lo)).setCell (by have := hR.out.lo; have := hR.out.hv; simp only; omega) _
            rw [hlen] at oS hnew
            have bkX := BK.out.far (p := ⟨gv, k, none⟩) nga (.slice D5 (L.length + E.length) d5)
            have kqX := KQ.out.far (p := ⟨gv, k, none⟩) nqa (.slice D5 (L.length + E.length) d5)
            have apX : ∀ u ∈ us.set k (.slice D5 (L.length + E.length) d5), u.ownBlock ≠ some g := fun u hm => by
              rcases List.mem_or_eq_of_mem_set hm with a | a
              · exact fun e => hR.out.apart u a g e rfl
              · rw [a]; exact hnew
            generalize w5.setCell ⟨gv, k, none⟩ (.slice D5 (L.length + E.length) d5) = Y at *
            have HS := hide oS
            have HBW := hide bW
            have HAP := hide apX
            clear HO HGR HAT BK KQ A5 A6 AC SC hc5 hf5 oS bW apX hnew hlen hu hu2 hu3 hru hru3 hHeld HOW
            have b1 := (bkX.cell 1).trans (rfl : _ = some (Value.int .i64 at_))
            have b3 := (bkX.cell 3).trans (rfl : _ = some (Value.int .i64 last))
            have b4 := (bkX.cell 4).trans (rfl : _ = some (Value.int .i64 n))
            have k3 := (kqX.cell 3).trans (rfl : _ = some (Value.int .i64 z))
            have x1 := bkX.frozen 1
            have x3 := bkX.frozen 3
            have x4 := bkX.frozen 4
            have ngq : q ≠ g := by omega
            have hat1 : at_ + z ≤ 4000 := by omega
            go_wp2
            have gr : Y.grownBy (((Y.setCell ⟨g, 3, none⟩ (.int .i64 (k : Int))).setCell ⟨g, 4, none⟩ (.int .i64 ((n : Int) + 1))).setCell ⟨g, 1, none⟩ (.int .i64 ((at_ : Int) + (z : Int)))) (some g) := ((grown_set Y g 3 _).trans (grown_set _ g 4 _)).trans (grown_set _ g 1 _)
            have hMl : M.length = cs.length := by rw [HN.out, List.length_set]
            have bW : Below w0.heap.size V (((Y.setCell ⟨g, 3, none⟩ (.int .i64 (k : Int))).setCell ⟨g, 4, none⟩ (.int .i64 ((n : Int) + 1))).setCell ⟨g, 1, none⟩ (.int .i64 ((at_ : Int) + (z : Int)))) := HBW.out.grown gr (by have := HBW.out.size; have := hR.out.old.size; omega) (fun b hb => by simp only [Option.some.injEq] at hb; subst hb; have := hR.out.lo; have := hR.out.hv; omega)
            have blkX : Bk (((Y.setCell ⟨g, 3, none⟩ (.int .i64 (k : Int))).setCell ⟨g, 4, none⟩ (.int .i64 ((n : Int) + 1))).setCell ⟨g, 1, none⟩ (.int .i64 ((at_ : Int) + (z : Int)))) g #[.slice A file.length c, .int .i64 ((at_ + z : Nat) : Int), .slice (some ⟨gv, 0, none⟩) M.length M.length, .int .i64 (k : Int), .int .i64 ((n + 1 : Nat) : Int)] 226 := by rw [hMl]; exact (((bkX.set_ 3 (.int .i64 (k : Int))).set_ 4 (.int .i64 ((n : Int) + 1))).set_ 1 (.int .i64 ((at_ : Int) + (z : Int))))
            have FIN : RdrAt w0 g gv base file A c (at_ + z) (n + 1) (k : Int) M (us.set k (.slice D5 (L.length + E.length) d5)) (((Y.setCell ⟨g, 3, none⟩ (.int .i64 (k : Int))).setCell ⟨g, 4, none⟩ (.int .i64 ((n : Int) + 1))).setCell ⟨g, 1, none⟩ (.int .i64 ((at_ : Int) + (z : Int)))) := by
              refine ⟨blkX, ?_, hR.out.rd.below bW, hR.out.old.trans bW, hR.out.lo, hR.out.hv, fun u hu b hb e => HAP.out u hu (by rw [hb, e])⟩
              have oo := HS.out.off gr (by simp only [Value.ownBlock, ne_eq, Option.some.injEq]; have := hR.out.hv; omega) HAP.out
              rw [hMl]
              rw [HN.out, HG.out]
              exact oo
            have HFIN := hide FIN
            clear gr bW blkX FIN hMl
            go_region
            all_goals
              go_wp2
              go_ret
              exact .inr ⟨HFo.out, rfl, _, by first | exact HFIN.out | exact HFIN.out.below (below_drewN (Below.refl _ _) _)⟩
          · have HFo : Hid (G = 1) := hide (by rw [HF.out, if_pos rfl, if_neg (by rw [HG.out]; omega)])
            have hD1 : (8 : Int) < (L.length : Int) + (E.length : Int) := by omega
            have hD2 : 8 < L.length + E.length := by omega
            clear hD hu hown hu3
            go_wp2
            go_quiet (fail)
            go_wp2
            go_ret
            exact .inl ⟨by rw [HFo.out]; omega, by rw [HFo.out]; rfl, below_drewN hr.old _⟩
        · have hB1 : decide ((k : Int) < last) = true := decide_eq_true (by omega)
          have hB2 : (k : Int) < last := by omega
          have HFo : Hid (G = 1) := hide (by rw [HF.out, if_pos rfl, if_neg (by omega)])
          clear hB hu hown hu3
          go_wp2
          go_quiet (fail)
          go_wp2
          go_ret
          exact .inl ⟨by rw [HFo.out]; omega, by rw [HFo.out]; rfl, below_drewN hr.old _⟩
      · have hA1 : decide (cs.length ≤ k) = true := decide_eq_true (by omega)
        have hA2 : cs.length ≤ k := by omega
        have HFo : Hid (G = 1) := hide (by rw [HF.out, if_pos rfl, if_neg (by omega)])
        clear hA
        go_wp2
        go_quiet (fail)
        go_wp2
        go_ret
        exact .inl ⟨by rw [HFo.out]; omega, by rw [HFo.out]; rfl, below_drewN hr.old _⟩
    · have g0 : (C != 0) = true := bne_iff_ne.2 hC
      have g1 : (C == 0) = false := beq_eq_false_iff_ne.2 hC
      have HFo : Hid (G = C) := hide (by rw [HF.out, if_neg hC])
      have HC := hide hC
      clear hC
      go_wp2
      go_ret
      exact .inl ⟨by rw [HFo.out]; exact HC.out, by rw [HFo.out]; rfl, hr.old⟩
end Go.Proofs.YtnnfkmjhaljplaaGreatDoor
