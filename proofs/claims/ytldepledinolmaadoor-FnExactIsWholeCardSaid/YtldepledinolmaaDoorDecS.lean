/- The contract of the model's DecodeTrace. -/
import Derived.Test.YtldepledinolmaaDoorRdr2
import Derived.Test.YtldepledinolmaaDoorGLine
namespace Go.Proofs.YtldepledinolmaaDoor
open Go.RowKit

/-- What DecodeTrace tells. -/
def DtPost (R : Int × List (List Ev)) (w : World) (e : Ending) (w' : World) : Prop :=
  ∃ A c us, e = .returned (.agg #[.int .i64 R.1, .slice A R.2.length c]) ∧ OwnT w' w.heap.size (.slice A R.2.length c) R.2 us ∧ Below w.heap.size w w'
theorem DtPost.bad {C : Int} {w w' : World} (hb : Below w.heap.size w w') : DtPost (C, []) w (.returned (.agg #[.int .i64 C, .slice none 0 0])) w' :=
  ⟨none, 0, [], rfl, ⟨World.ownsRow_nil _ _ _ _, fun i hi => by simp at hi, fun i j u u' _ hu => by simp at hu⟩, hb⟩
/-- How far the reader in block g is. -/
def atOf (g : Nat) (w : World) : Nat := match w.cell? ⟨g, 1, none⟩ with
  | some (.int _ n) => n.toNat
  | _ => 0
theorem RdrAt.atOf_ {w0 w : World} {g gv base : Nat} {file : List Int} {A : Option Addr} {c at_ n : Nat} {last : Int} {cs : List (List Ev)} {us : List Value} (h : RdrAt w0 g gv base file A c at_ n last cs us w) : atOf g w = at_ := by
  unfold atOf
  rw [(h.blk.cell 1).trans (rfl : _ = some (Value.int .i64 at_))]
  simp
theorem drop_head {file : List Int} {i : Nat} (h : i < file.length) : (file.drop i).getD 0 0 = file[i] := by simp [h]
set_option maxRecDepth 100000 in
set_option maxHeartbeats 4000000 in
theorem specDec_any (file : List Int) (A : Option Addr) (c : Nat) (w : World) (hm : file.length ≤ 1048576) (hc : file.length ≤ c) (hR : Rd .u8 w w.heap.size A file) (b8 : B8 file) :
    Calls Tryd.prog 31 #[.slice A file.length c] w (DtPost (dc file) w) := by
  obtain ⟨i0, hi, hz0, hz1, hz2⟩ := info_parts info_events
  obtain ⟨W, hW⟩ : ∃ W, W = w.alloc (Obj.cells #[Value.int .i64 0, .slice none 0 0] 32) := ⟨_, rfl⟩
  have HW := hide hW
  have hR' : Rd .u8 W W.heap.size A file := by subst hW; exact (hR.alloc (Nat.le_refl _) _).lt
  clear hW hR
  by_cases h2k : file.length ≤ 2000
  · by_cases hh : dcHd file
    · obtain ⟨h2, h67, hn1, hn4⟩ := hh
      have HG := hide (dc_go h2k ⟨h2, h67, hn1, hn4⟩)
      obtain ⟨bk, off, hA, hbb, hx⟩ := hR'.all (by omega)
      have q0 := hx 0 (by omega)
      have q1 := hx 1 (by omega)
      rw [Nat.add_zero] at q0
      rw [← getD_at file 0 (by omega), h67] at q0
      rw [← getD_at file 1 (by omega)] at q1
      obtain ⟨N, hN⟩ := Int.eq_ofNat_of_zero_le (show 0 ≤ file.getD 1 0 by omega)
      rw [hN] at q1 hn1 hn4 HG
      rw [Int.toNat_natCast] at HG
      obtain ⟨R, hRR⟩ : ∃ R, R = dc file := ⟨_, rfl⟩
      rw [← hRR] at HG ⊢
      have LI := hide (fun W => l1In_yes (N : Int) 1 4 W (by omega))
      have W1 : IntKind.i64.wrap (N : Int) = (N : Int) := wraps_i64_62 _ (by omega) (by omega)
      have hN4 : N ≤ 4 := by omega
      clear hRR hN h67 hx
      subst hA
      have p0 := q0
      have p1 := q1
      rw [HW.out] at p0 p1
      go_enter Tryd.func31, Tryd.ntmps31
      go_wp2_with fail
      rw [← HW.out]
      refine (LI.out _).mono ?_
      rintro e w1 ⟨rfl, rfl⟩
      clear p0 p1
      go_wp2_with (at_make; refine wpList_make_full _ rfl _ _ 24 rfl W.heap.size 50 i0 (.slice none 0 0) 1 Tryd.underlying24 hi hz0 hz1 .u8 .u8 _ _ N rfl rfl rfl rfl (by rw [hz2]; omega) (by unfold maxLen; omega) (Nat.le_refl _) ?_; intro w1 hown hg)
      rw [made_slices] at hown
      have oT := ownT_made hown
      have BW1 : Below W.heap.size W w1 := (Below.refl _ _).grown hg (Nat.le_refl _) (by simp)
      have zz : W.heap.size < w1.heap.size := (hown.lt W.heap.size rfl).2
      have RA : RdrAt W w1.heap.size W.heap.size W.heap.size file (some ⟨bk, off, none⟩) c 2 0 0 (List.replicate N []) (List.replicate N (.slice none 0 0)) (w1.alloc (Obj.cells #[.slice (some ⟨bk, off, none⟩) file.length c, .int .i64 2, .slice (some ⟨W.heap.size, 0, none⟩) N N, .int .i64 0, .int .i64 0] 94)) := by
        refine ⟨?_, ?_, (hR'.below BW1).alloc (by omega) _, BW1.alloc BW1.size _, Nat.le_refl _, ⟨Nat.le_refl _, zz⟩, fun u hu b hb => by rw [List.eq_of_mem_replicate hu] at hb; cases hb⟩
        · rw [List.length_replicate]; exact Bk.new w1 _ _
        · rw [List.length_replicate]; exact oT.alloc _
      obtain ⟨g, hg1⟩ : ∃ g, g = w1.heap.size := ⟨_, rfl⟩
      rw [← hg1] at RA ⊢
      generalize w1.alloc (Obj.cells #[.slice (some ⟨bk, off, none⟩) file.length c, .int .i64 2, .slice (some ⟨W.heap.size, 0, none⟩) N N, .int .i64 0, .int .i64 0] 94) = w2 at *
      clear hg1 hown oT BW1 zz hg q0 q1 LI W1
      go_loopw [4] (fun _ wr => ∃ (f at_ n : Nat) (last : Int) (cs : List (List Ev)) (us : List Value), RdrAt W g W.heap.size W.heap.size file (some ⟨bk, off, none⟩) c at_ n last cs us wr ∧ at_ ≤ file.length ∧ n ≤ at_ ∧ cs.length ≤ 4 ∧ (∀ l ∈ cs, l.length ≤ 8) ∧ file.length + 1 ≤ f + at_ ∧ Hid (dcS f file at_ cs last n = R)) (fun _ wr => file.length - atOf g wr)
      case atStart => exact ⟨file.length + 1, 2, 0, 0, _, _, RA, h2, by omega, by rw [List.length_replicate]; exact hN4, fun l hl => by rw [List.eq_of_mem_replicate hl]; simp, by omega, hide HG.out.symm⟩
      case round =>
        obtain ⟨f, at_, n, last, cs, us, hr, ha, hna, hcN, hall, hfa, HS⟩ := hrel
        obtain ⟨f', hf1⟩ : ∃ f', f = f' + 1 := ⟨f - 1, by omega⟩
        have c1 := (hr.blk.cell 1).trans (rfl : _ = some (Value.int .i64 at_))
        by_cases hlt : at_ < file.length
        · obtain ⟨b', off', hA', _, hx'⟩ := hr.rd.all (by omega)
          cases hA'
          have qa := hx' at_ hlt
          have ba := b8.get at_ hlt
          obtain ⟨x, hxx⟩ : ∃ x, x = file[at_] := ⟨_, rfl⟩
          rw [← hxx] at qa ba
          have HX : Hid ((file.drop at_).getD 0 0 = x) := hide (by rw [drop_head hlt, hxx])
          have hlt1 : (at_ : Int) < (file.length : Int) := by omega
          clear hxx hx'
          by_cases h66 : x = 66
          · have HE := hide (show at_ < file.length ∧ (file.drop at_).getD 0 0 = 66 from ⟨hlt, by rw [HX.out]; exact h66⟩)
            subst h66
            have FR := hide (rdrFrame_any W g W.heap.size W.heap.size file (some ⟨bk, off, none⟩) c at_ n last cs us wr h2k hc b8 ha (by omega) hall hr)
            go_wp2_with fail
            refine FR.out.mono ?_
            rintro e w3 (⟨h0, rfl, hb⟩ | ⟨h0, rfl, us', hr'⟩)
            · have HR : Hid (R = (dcFrame (file.drop at_) cs last, [])) := hide (by rw [← HS.out, hf1, dcS_stop HE.out h0])
              obtain ⟨G, hG⟩ : ∃ G, G = dcFrame (file.drop at_) cs last := ⟨_, rfl⟩
              rw [← hG] at HR h0 ⊢
              have g0 : (G != 0) = true := bne_iff_ne.2 h0
              have g1 : (G == 0) = false := beq_eq_false_iff_ne.2 h0
              have q0 := W_cell HW.out hb 0
              have q1 := W_cell HW.out hb 1
              have f0 := W_frozen HW.out hb 0
              have f1 := W_frozen HW.out hb 1
              simp at q0 q1
              clear HS h0 hr hG FR
              go_wp2
              refine bodyPost_ret (v := .agg #[.int .i64 G, .slice none 0 0]) (by simp [results, Tryd.results31, go_sem, q0, q1]) rfl ?_
              rw [HR.out]
              exact DtPost.bad (((W_below HW.out hb).setCell (Nat.le_refl _) _).setCell (Nat.le_refl _) _)
            · obtain ⟨hC, hK1, hK2, hK3⟩ := dcFrame_zero h0
              obtain ⟨_, _, hz3, hz4, hz5, hz6⟩ := frE_right (b8.drop at_) hC
              rw [List.length_drop] at hz6
              have HS2 := hide (by have e := HS.out; rw [hf1, dcS_frame HE.out h0] at e; exact e)
              have hfew := dcNext_few h0 hall
              have hlen := dcNext_length (file.drop at_) cs
              have m1 := hr.atOf_
              have m2 := hr'.atOf_
              have HM := hide m1
              have HM2 := hide m2
              have HL := hide hlen
              clear m1 m2 hlen h0 hC hK1 hK2 HS FR
              go_wp2
              go_roundw
              case rel => exact ⟨f', _, _, _, _, us', hr', by omega, by omega, by rw [HL.out]; exact hcN, hfew, by omega, HS2⟩
              case measure => rw [HM.out, HM2.out]; omega
          · have HE := hide (show ¬ (at_ < file.length ∧ (file.drop at_).getD 0 0 = 66) from fun h => h66 (by rw [← HX.out]; exact h.2))
            have g66 : (x == 66) = false := beq_eq_false_iff_ne.2 h66
            clear h66
            go_wp2_with fail
            refine (rdrEnd_any W g W.heap.size W.heap.size file (some ⟨bk, off, none⟩) c at_ n last cs us wr h2k hc b8 ha (by omega) hall hr).mono ?_
            rintro e w3 ⟨rfl, b3⟩
            have hr3 := hr.below b3
            have hb := hr3.old
            have q0 := W_cell HW.out hb 0
            have q1 := W_cell HW.out hb 1
            have f0 := W_frozen HW.out hb 0
            have f1 := W_frozen HW.out hb 1
            simp at q0 q1
            have zW := W_size HW.out
            have hgW : w.heap.size < g := by have := hr3.hv; omega
            have r2 := (hr3.blk.cell 2).trans (rfl : _ = some (Value.slice (some ⟨W.heap.size, 0, none⟩) cs.length cs.length))
            by_cases h0 : dcEnd file at_ cs n = 0
            · have HR : Hid (R = (0, cs)) := hide (by rw [← HS.out, hf1, dcS_end HE.out, if_pos h0])
              have HO := hide hr3.own
              have HZ := hide zW
              rw [h0]
              clear HS h0 hr hr3 zW b3
              go_wp2
              refine bodyPost_ret (v := .agg #[.int .i64 0, .slice (some ⟨W.heap.size, 0, none⟩) cs.length cs.length]) (by simp [results, Tryd.results31, go_sem, q0, q1]) rfl ?_
              rw [HR.out]
              exact ⟨_, _, us, rfl, ((HO.out.kept (grown_set w3 w.heap.size 0 (.int .i64 0)) (fun b e => by simp at e; have := HZ.out; omega)).kept (grown_set _ w.heap.size 1 (.slice (some ⟨W.heap.size, 0, none⟩) cs.length cs.length)) (fun b e => by simp at e; have := HZ.out; omega)).mono (by have := HZ.out; omega), ((W_below HW.out hb).setCell (Nat.le_refl _) _).setCell (Nat.le_refl _) _⟩
            · have HR : Hid (R = (dcEnd file at_ cs n, [])) := hide (by rw [← HS.out, hf1, dcS_end HE.out, if_neg h0])
              obtain ⟨G, hG⟩ : ∃ G, G = dcEnd file at_ cs n := ⟨_, rfl⟩
              rw [← hG] at HR h0 ⊢
              have g0 : (G != 0) = true := bne_iff_ne.2 h0
              have g1 : (G == 0) = false := beq_eq_false_iff_ne.2 h0
              clear HS h0 hr hr3 zW b3 hG
              go_wp2
              refine bodyPost_ret (v := .agg #[.int .i64 G, .slice none 0 0]) (by simp [results, Tryd.results31, go_sem, q0, q1]) rfl ?_
              rw [HR.out]
              exact DtPost.bad (((W_below HW.out hb).setCell (Nat.le_refl _) _).setCell (Nat.le_refl _) _)
        · have HE := hide (show ¬ (at_ < file.length ∧ (file.drop at_).getD 0 0 = 66) from fun h => hlt h.1)
          have hlt1 : ¬ (at_ : Int) < (file.length : Int) := by omega
          go_wp2_with fail
          refine (rdrEnd_any W g W.heap.size W.heap.size file (some ⟨bk, off, none⟩) c at_ n last cs us wr h2k hc b8 ha (by omega) hall hr).mono ?_
          rintro e w3 ⟨rfl, b3⟩
          have hr3 := hr.below b3
          have hb := hr3.old
          have q0 := W_cell HW.out hb 0
          have q1 := W_cell HW.out hb 1
          have f0 := W_frozen HW.out hb 0
          have f1 := W_frozen HW.out hb 1
          simp at q0 q1
          have zW := W_size HW.out
          have hgW : w.heap.size < g := by have := hr3.hv; omega
          have r2 := (hr3.blk.cell 2).trans (rfl : _ = some (Value.slice (some ⟨W.heap.size, 0, none⟩) cs.length cs.length))
          by_cases h0 : dcEnd file at_ cs n = 0
          · have HR : Hid (R = (0, cs)) := hide (by rw [← HS.out, hf1, dcS_end HE.out, if_pos h0])
            have HO := hide hr3.own
            have HZ := hide zW
            rw [h0]
            clear HS h0 hr hr3 zW b3
            go_wp2
            refine bodyPost_ret (v := .agg #[.int .i64 0, .slice (some ⟨W.heap.size, 0, none⟩) cs.length cs.length]) (by simp [results, Tryd.results31, go_sem, q0, q1]) rfl ?_
            rw [HR.out]
            exact ⟨_, _, us, rfl, ((HO.out.kept (grown_set w3 w.heap.size 0 (.int .i64 0)) (fun b e => by simp at e; have := HZ.out; omega)).kept (grown_set _ w.heap.size 1 (.slice (some ⟨W.heap.size, 0, none⟩) cs.length cs.length)) (fun b e => by simp at e; have := HZ.out; omega)).mono (by have := HZ.out; omega), ((W_below HW.out hb).setCell (Nat.le_refl _) _).setCell (Nat.le_refl _) _⟩
          · have HR : Hid (R = (dcEnd file at_ cs n, [])) := hide (by rw [← HS.out, hf1, dcS_end HE.out, if_neg h0])
            obtain ⟨G, hG⟩ : ∃ G, G = dcEnd file at_ cs n := ⟨_, rfl⟩
            rw [← hG] at HR h0 ⊢
            have g0 : (G != 0) = true := bne_iff_ne.2 h0
            have g1 : (G == 0) = false := beq_eq_false_iff_ne.2 h0
            clear HS h0 hr hr3 zW b3 hG
            go_wp2
            refine bodyPost_ret (v := .agg #[.int .i64 G, .slice none 0 0]) (by simp [results, Tryd.results31, go_sem, q0, q1]) rfl ?_
            rw [HR.out]
            exact DtPost.bad (((W_below HW.out hb).setCell (Nat.le_refl _) _).setCell (Nat.le_refl _) _)
    · rw [dc_text h2k hh]
      by_cases h2 : 2 ≤ file.length
      · obtain ⟨bk, off, hA, hbb, hx⟩ := hR'.all (by omega)
        have p0 := hx 0 (by omega)
        have p1 := hx 1 (by omega)
        rw [Nat.add_zero] at p0
        rw [← getD_at file 0 (by omega)] at p0
        rw [← getD_at file 1 (by omega)] at p1
        have y1 := b8.get 1 (by omega)
        rw [← getD_at file 1 (by omega)] at y1
        obtain ⟨x0, hx0⟩ : ∃ x, x = file.getD 0 0 := ⟨_, rfl⟩
        obtain ⟨x1, hx1⟩ : ∃ x, x = file.getD 1 0 := ⟨_, rfl⟩
        rw [← hx0] at p0
        rw [← hx1] at p1 y1
        rw [HW.out] at p0 p1
        subst hA
        clear hx
        by_cases h67 : x0 = 67
        · have hout : x1 < 1 ∨ 4 < x1 := by
            by_cases h : x1 < 1 ∨ 4 < x1
            · exact h
            · exact absurd ⟨h2, by rw [← hx0]; exact h67, by rw [← hx1]; omega, by rw [← hx1]; omega⟩ hh
          have LI := hide (fun W => l1In_no x1 1 4 W hout)
          have W1 : IntKind.i64.wrap x1 = x1 := wraps_i64_62 _ (by omega) (by omega)
          subst h67
          clear hh hx0 hx1 hout
          go_enter Tryd.func31, Tryd.ntmps31
          go_wp2_with fail
          refine (LI.out _).mono ?_
          rintro e w1 ⟨rfl, rfl⟩
          go_wp2
          refine bodyPost_ret (v := .agg #[.int .i64 5, .slice none 0 0]) (by simp [results, Tryd.results31, go_sem]) rfl ?_
          exact DtPost.bad ((Below.refl _ _).alloc (Nat.le_refl _) _)
        · have g0 : (x0 != 67) = true := bne_iff_ne.2 h67
          have g1 : (x0 == 67) = false := beq_eq_false_iff_ne.2 h67
          clear hh hx0 hx1 h67 p1
          go_enter Tryd.func31, Tryd.ntmps31
          go_wp2
          refine bodyPost_ret (v := .agg #[.int .i64 5, .slice none 0 0]) (by simp [results, Tryd.results31, go_sem]) rfl ?_
          exact DtPost.bad ((Below.refl _ _).alloc (Nat.le_refl _) _)
      · clear hh
        go_enter Tryd.func31, Tryd.ntmps31
        go_wp2
        refine bodyPost_ret (v := .agg #[.int .i64 5, .slice none 0 0]) (by simp [results, Tryd.results31, go_sem]) rfl ?_
        exact DtPost.bad ((Below.refl _ _).alloc (Nat.le_refl _) _)
  · rw [dc_many h2k]
    have h3 : (2000 : Int) < (file.length : Int) := by omega
    go_enter Tryd.func31, Tryd.ntmps31
    go_wp2
    refine bodyPost_ret (v := .agg #[.int .i64 2, .slice none 0 0]) (by simp [results, Tryd.results31, go_sem]) rfl ?_
    exact DtPost.bad ((Below.refl _ _).alloc (Nat.le_refl _) _)
end Go.Proofs.YtldepledinolmaaDoor
