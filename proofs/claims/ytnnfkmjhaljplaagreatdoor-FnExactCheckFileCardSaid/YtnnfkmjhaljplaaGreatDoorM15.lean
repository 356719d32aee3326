/- What the laws' walks rest upon, part 15. -/
import Derived.Test.YtnnfkmjhaljplaaGreatDoorM14
import Derived.Test.YtnnfkmjhaljplaaGreatDoorM13
namespace Go.Proofs.YtnnfkmjhaljplaaGreatDoor
open Go.RowKit
/-- What DecodeTrace tells. -/
def DtPost (R : Int × List (List Ev)) (w : World) (e : Ending) (w' : World) : Prop :=
  ∃ A c us, e = .returned (.agg #[.int .i64 R.1, .slice A R.2.length c]) ∧ OwnT w' w.heap.size (.slice A R.2.length c) R.2 us ∧ Below w.heap.size w w'
theorem DtPost.bad {C : Int} {w w' : World} (hb : Below w.heap.size w w') : DtPost (C, []) w (.returned (.agg #[.int .i64 C, .slice none 0 0])) w' :=
  ⟨none, 0, [], rfl, ⟨World.ownsRow_nil _ _ _ _, fun i hi => by simp at hi, fun i j u u' _ hu => by simp at hu⟩, hb⟩
/-- How far the reader in block g is. -/
def atOf (g : Nat) (w : World) : Nat := match w.cell? ⟨g, 1, none⟩ with
  | some (.int _ n) => n.toNat
  | _ => 0
theorem RdrAt.atOf_ {w0 w : World} {g gv base : Nat} {file : List Int} {A : Option Addr} {c at_ n : Nat} {last : Int} {cs : List (List Ev)} {us : List Value} (h : RdrAt w0 g gv base file A c at_ n last cs us w) : atOf g w = at_ := by
  unfold atOf
  rw [(h.blk.cell 1).trans (rfl : _ = some (Value.int .i64 at_))]
  simp
theorem drop_head {file : List Int} {i : Nat} (h : i < file.length) : (file.drop i).getD 0 0 = file[i] := by simp [h]
set_option maxRecDepth 100000 in
set_option maxHeartbeats 4000000 in
theorem specDec_any (file : List Int) (A : Option Addr) (c : Nat) (w : World) (hm : file.length ≤ 1048576) (hc : file.length ≤ c) (hR : Rd .u8 w w.heap.size A file) (b8 : B8 file) :
    Calls Tryz.prog 103 #[.slice A file.length c] w (DtPost (dc file) w) := by
  obtain ⟨i0, hi, hz0, hz1, hz2⟩ := info_parts info_events
  obtain ⟨W, hW⟩ : ∃ W, W = w.alloc (Obj.cells #[Value.int .i64 0, .slice none 0 0] 36) := ⟨_, rfl⟩
  have HW := hide hW
  have hR' : Rd .u8 W W.heap.size A file := by subst hW; exact (hR.alloc (Nat.le_refl _) _).lt
  clear hW hR
  by_cases h2k : file.length ≤ 2000
  · by_cases hh : dcHd file
    · obtain ⟨h2, h67, hn1, hn4⟩ := hh
      have HG := hide (dc_go h2k ⟨h2, h67, hn1, hn4⟩)
      obtain ⟨bk, off, hA, hbb, hx⟩ := hR'.all (by omega)
      have q0 := hx 0 (by omega)
      have q1 := hx 1 (by omega)
      rw [Nat.add_zero] at q0
      rw [← getD_at file 0 (by omega), h67] at q0
      rw [← getD_at file 1 (by omega)] at q1
      obtain ⟨N, hN⟩ := Int.eq_ofNat_of_zero_le (show 0 ≤ file.getD 1 0 by omega)
      rw [hN] at q1 hn1 hn4 HG
      rw [Int.toNat_natCast] at HG
      obtain ⟨R, hRR⟩ : ∃ R, R = dc file := ⟨_, rfl⟩
      rw [← hRR] at HG ⊢
      have LI := hide (fun W => l1In_yes (N : Int) 1 4 W (by omega))
      have W1 : IntKind.i64.wrap (N : Int) = (N : Int) := wraps_i64_62 _ (by omega) (by omega)
      have hN4 : N ≤ 4 := by omega
      clear hRR hN h67 hx
      subst hA
      have p0 := q0
      have p1 := q1
      rw [HW.out] at p0 p1
      go_enter Tryz.func103, Tryz.ntmps103
      go_wp2_with fail
      rw [← HW.out]
      refine (LI.out _).mono ?_
      rintro e w1 ⟨rfl, rfl⟩
      clear p0 p1
      go_wp2_with (at_make; refine wpList_make_full _ rfl _ _ 34 rfl W.heap.size 45 i0 (.slice none 0 0) 1 Tryz.underlying34 hi hz0 hz1 .u8 .u8 _ _ N rfl rfl rfl rfl (by rw [hz2]; omega) (by unfold maxLen; omega) (Nat.le_refl _) ?_; intro w1 hown hg)
      rw [made_slices] at hown
      have oT := ownT_made hown
      have BW1 : Below W.heap.size W w1 := (Below.refl _ _).grown hg (Nat.le_refl _) (by simp)
      have zz : W.heap.size < w1.heap.size := (hown.lt W.heap.size rfl).2
      have RA : RdrAt W w1.heap.size W.heap.size W.heap.size file (some ⟨bk, off, none⟩) c 2 0 0 (List.replicate N []) (List.replicate N (.slice none 0 0)) (w1.alloc (Obj.cells #[.slice (some ⟨bk, off, none⟩) file.length c, .int .i64 2, .slice (some ⟨W.heap.size, 0, none⟩) N N, .int .i64 0, .int .i64 0] 226)) := by
        refine ⟨?_, ?_, (hR'.below BW1).alloc (by omega) _, BW1.alloc BW1.size _, Nat.le_refl _, ⟨Nat.le_refl _, zz⟩, fun u hu b hb => by rw [List.eq_of_mem_replicate hu] at hb; cases hb⟩
        · rw [List.length_replicate]; exact Bk.new w1 _ _
        · rw [List.length_replicate]; exact oT.alloc _
      obtain ⟨g, hg1⟩ : ∃ g, g = w1.heap.size := ⟨_, rfl⟩
      rw [← hg1] at RA ⊢
      generalize w1.alloc (Obj.cells #[.slice (some ⟨bk, off, none⟩) file.length c, .int .i64 2, .slice (some ⟨W.heap.size, 0, none⟩) N N, .int .i64 0, .int .i64 0] 226) = w2 at *
      clear hg1 hown oT BW1 zz hg q0 q1 LI W1
      go_loopw [4] (fun _ wr => ∃ (f at_ n : Nat) (last : Int) (cs : List (List Ev)) (us : List Value), RdrAt W g W.heap.size W.heap.size file (some ⟨bk, off, none⟩) c at_ n last cs us wr ∧ at_ ≤ file.length ∧ n ≤ at_ ∧ cs.length ≤ 4 ∧ (∀ l ∈ cs, l.length ≤ 8) ∧ file.length + 1 ≤ f + at_ ∧ Hid (dcS f file at_ cs last n = R)) (fun _ wr => file.length - atOf g wr)
      case atStart => exact ⟨file.length + 1, 2, 0, 0, _, _, RA, h2, by omega, by rw [List.length_replicate]; exact hN4, fun l hl => by rw [List.eq_of_mem_replicate hl]; simp, by omega, hide HG.out.symm⟩
      case round =>
        obtain ⟨f, at_, n, last, cs, us, hr, ha, hna, hcN, hall, hfa, HS⟩ := hrel
        obtain ⟨f', hf1⟩ : ∃ f', f = f' + 1 := ⟨f - 1, by omega⟩
        have c1 := (hr.blk.cell 1).trans (rfl : _ = some (Value.int .i64 at_))
        by_cases hlt : at_ < file.length
        · obtain ⟨b', off', hA', _, hx'⟩ := hr.rd.all (by omega)
          cases hA'
          have qa := hx' at_ hlt
          have ba := b8.get at_ hlt
          obtain ⟨x, hxx⟩ : ∃ x, x = file[at_] := ⟨_, rfl⟩
          rw [← hxx] at qa ba
          have HX : Hid ((file.drop at_).getD 0 0 = x) := hide (by rw [drop_head hlt, hxx])
          have hlt1 : (at_ : Int) < (file.length : Int) := by omega
          clear hxx hx'
          by_cases h66 : x = 66
          · have HE := hide (show at_ < file.length ∧ (file.drop at_).getD 0 0 = 66 from ⟨hlt, by rw [HX.out]; exact h66⟩)
            subst h66
            have FR := hide (rdrFrame_any W g W.heap.size W.heap.size file (some ⟨bk, off, none⟩) c at_ n last cs us wr h2k hc b8 ha (by omega) hall hr)
            go_wp2_with fail
            refine FR.out.mono ?_
            rintro e w3 (⟨h0, rfl, hb⟩ | ⟨h0, rfl, us', hr'⟩)
            · have HR : Hid (R = (dcFrame (file.drop at_) cs last, [])) := hide (by rw [← HS.out, hf1, dcS_stop HE.out h0])
              obtain ⟨G, hG⟩ : ∃ G, G = dcFrame (file.drop at_) cs last := ⟨_, rfl⟩
              rw [← hG] at HR h0 ⊢
              have g0 : (G != 0) = true := bne_iff_ne.2 h0
              have g1 : (G == 0) = false := beq_eq_false_iff_ne.2 h0
              have q0 := W_cell HW.out hb 0
              have q1 := W_cell HW.out hb 1
              have f0 := W_frozen HW.out hb 0
              have f1 := W_frozen HW.out hb 1
              simp at q0 q1
              clear HS h0 hr hG FR
              go_wp2
              refine bodyPost_ret (v := .agg #[.int .i64 G, .slice none 0 0]) (by simp [results, Tryz.results103, go_sem, q0, q1]) rfl ?_
              rw [HR.out]
              exact DtPost.bad (((W_below HW.out hb).setCell (Nat.le_refl _) _).setCell (Nat.le_refl _) _)
            · obtain ⟨hC, hK1, hK2, hK3⟩ := dcFrame_zero h0
              obtain ⟨_, _, hz3, hz4, hz5, hz6⟩ := frE_right (b8.drop at_) hC
              rw [List.length_drop] at hz6
              have HS2 := hide (by have e := HS.out; rw [hf1, dcS_frame HE.out h0] at e; exact e)
              have hfew := dcNext_few h0 hall
              have hlen := dcNext_length (file.drop at_) cs
              have m1 := hr.atOf_
              have m2 := hr'.atOf_
              have HM := hide m1
              have HM2 := hide m2
              have HL := hide hlen
              clear m1 m2 hlen h0 hC hK1 hK2 HS FR
              go_wp2
              go_roundw
              case rel => exact ⟨f', _, _, _, _, us', hr', by omega, by omega, by rw [HL.out]; exact hcN, hfew, by omega, HS2⟩
              case measure => rw [HM.out, HM2.out]; omega
          · have HE := hide (show ¬ (at_ < file.length ∧ (file.drop at_).getD 0 0 = 66) from fun h => h66 (by rw [← HX.out]; exact h.2))
            have g66 : (x == 66) = false := beq_eq_false_iff_ne.2 h66
            clear h66
            go_wp2_with fail
            refine (rdrEnd_any W g W.heap.size W.heap.size file (some ⟨bk, off, none⟩) c at_ n last cs us wr h2k hc b8 ha (by omega) hall hr).mono ?_
            rintro e w3 ⟨rfl, b3⟩
            have hr3 := hr.below b3
            have hb := hr3.old
            have q0 := W_cell HW.out hb 0
            have q1 := W_cell HW.out hb 1
            have f0 := W_frozen HW.out hb 0
            have f1 := W_frozen HW.out hb 1
            simp at q0 q1
            have zW := W_size HW.out
            have hgW : w.heap.size < g := by have := hr3.hv; omega
            have r2 := (hr3.blk.cell 2).trans (rfl : _ = some (Value.slice (some ⟨W.heap.size, 0, none⟩) cs.length cs.length))
            by_cases h0 : dcEnd file at_ cs n = 0
            · have HR : Hid (R = (0, cs)) := hide (by rw [← HS.out, hf1, dcS_end HE.out, if_pos h0])
              have HO := hide hr3.own
              have HZ := hide zW
              rw [h0]
              clear HS h0 hr hr3 zW b3
              go_wp2
              refine bodyPost_ret (v := .agg #[.int .i64 0, .slice (some ⟨W.heap.size, 0, none⟩) cs.length cs.length]) (by simp [results, Tryz.results103, go_sem, q0, q1]) rfl ?_
              rw [HR.out]
              exact ⟨_, _, us, rfl, ((HO.out.kept (grown_set w3 w.heap.size 0 (.int .i64 0)) (fun b e => by simp at e; have := HZ.out; omega)).kept (grown_set _ w.heap.size 1 (.slice (some ⟨W.heap.size, 0, none⟩) cs.length cs.length)) (fun b e => by simp at e; have := HZ.out; omega)).mono (by have := HZ.out; omega), ((W_below HW.out hb).setCell (Nat.le_refl _) _).setCell (Nat.le_refl _) _⟩
            · have HR : Hid (R = (dcEnd file at_ cs n, [])) := hide (by rw [← HS.out, hf1, dcS_end HE.out, if_neg h0])
              obtain ⟨G, hG⟩ : ∃ G, G = dcEnd file at_ cs n := ⟨_, rfl⟩
              rw [← hG] at HR h0 ⊢
              have g0 : (G != 0) = true := bne_iff_ne.2 h0
              have g1 : (G == 0) = false := beq_eq_false_iff_ne.2 h0
              clear HS h0 hr hr3 zW b3 hG
              go_wp2
              refine bodyPost_ret (v := .agg #[.int .i64 G, .slice none 0 0]) (by simp [results, Tryz.results103, go_sem, q0, q1]) rfl ?_
              rw [HR.out]
              exact DtPost.bad (((W_below HW.out hb).setCell (Nat.le_refl _) _).setCell (Nat.le_refl _) _)
        · have HE := hide (show ¬ (at_ < file.length ∧ (file.drop at_).getD 0 0 = 66) from fun h => hlt h.1)
          have hlt1 : ¬ (at_ : Int) < (file.length : Int) := by omega
          go_wp2_with fail
          refine (rdrEnd_any W g W.heap.size W.heap.size file (some ⟨bk, off, none⟩) c at_ n last cs us wr h2k hc b8 ha (by omega) hall hr).mono ?_
          rintro e w3 ⟨rfl, b3⟩
          have hr3 := hr.below b3
          have hb := hr3.old
          have q0 := W_cell HW.out hb 0
          have q1 := W_cell HW.out hb 1
          have f0 := W_frozen HW.out hb 0
          have f1 := W_frozen HW.out hb 1
          simp at q0 q1
          have zW := W_size HW.out
          have hgW : w.heap.size < g := by have := hr3.hv; omega
          have r2 := (hr3.blk.cell 2).trans (rfl : _ = some (Value.slice (some ⟨W.heap.size, 0, none⟩) cs.length cs.length))
          by_cases h0 : dcEnd file at_ cs n = 0
          · have HR : Hid (R = (0, cs)) := hide (by rw [← HS.out, hf1, dcS_end HE.out, if_pos h0])
            have HO := hide hr3.own
            have HZ := hide zW
            rw [h0]
            clear HS h0 hr hr3 zW b3
            go_wp2
            refine bodyPost_ret (v := .agg #[.int .i64 0, .slice (some ⟨W.heap.size, 0, none⟩) cs.length cs.length]) (by simp [results, Tryz.results103, go_sem, q0, q1]) rfl ?_
            rw [HR.out]
            exact ⟨_, _, us, rfl, ((HO.out.kept (grown_set w3 w.heap.size 0 (.int .i64 0)) (fun b e => by simp at e; have := HZ.out; omega)).kept (grown_set _ w.heap.size 1 (.slice (some ⟨W.heap.size, 0, none⟩) cs.length cs.length)) (fun b e => by simp at e; have := HZ.out; omega)).mono (by have := HZ.out; omega), ((W_below HW.out hb).setCell (Nat.le_refl _) _).setCell (Nat.le_refl _) _⟩
          · have HR : Hid (R = (dcEnd file at_ cs n, [])) := hide (by rw [← HS.out, hf1, dcS_end HE.out, if_neg h0])
            obtain ⟨G, hG⟩ : ∃ G, G = dcEnd file at_ cs n := ⟨_, rfl⟩
            rw [← hG] at HR h0 ⊢
            have g0 : (G != 0) = true := bne_iff_ne.2 h0
            have g1 : (G == 0) = false := beq_eq_false_iff_ne.2 h0
            clear HS h0 hr hr3 zW b3 hG
            go_wp2
            refine bodyPost_ret (v := .agg #[.int .i64 G, .slice none 0 0]) (by simp [results, Tryz.results103, go_sem, q0, q1]) rfl ?_
            rw [HR.out]
            exact DtPost.bad (((W_below HW.out hb).setCell (Nat.le_refl _) _).setCell (Nat.le_refl _) _)
    · rw [dc_text h2k hh]
      by_cases h2 : 2 ≤ file.length
      · obtain ⟨bk, off, hA, hbb, hx⟩ := hR'.all (by omega)
        have p0 := hx 0 (by omega)
        have p1 := hx 1 (by omega)
        rw [Nat.add_zero] at p0
        rw [← getD_at file 0 (by omega)] at p0
        rw [← getD_at file 1 (by omega)] at p1
        have y1 := b8.get 1 (by omega)
        rw [← getD_at file 1 (by omega)] at y1
        obtain ⟨x0, hx0⟩ : ∃ x, x = file.getD 0 0 := ⟨_, rfl⟩
        obtain ⟨x1, hx1⟩ : ∃ x, x = file.getD 1 0 := ⟨_, rfl⟩
        rw [← hx0] at p0
        rw [← hx1] at p1 y1
        rw [HW.out] at p0 p1
        subst hA
        clear hx
        by_cases h67 : x0 = 67
        · have hout : x1 < 1 ∨ 4 < x1 := by
            by_cases h : x1 < 1 ∨ 4 < x1
            · exact h
            · exact absurd ⟨h2, by rw [← hx0]; exact h67, by rw [← hx1]; omega, by rw [← hx1]; omega⟩ hh
          have LI := hide (fun W => l1In_no x1 1 4 W hout)
          have W1 : IntKind.i64.wrap x1 = x1 := wraps_i64_62 _ (by omega) (by omega)
          subst h67
          clear hh hx0 hx1 hout
          go_enter Tryz.func103, Tryz.ntmps103
          go_wp2_with fail
          refine (LI.out _).mono ?_
          rintro e w1 ⟨rfl, rfl⟩
          go_wp2
          refine bodyPost_ret (v := .agg #[.int .i64 5, .slice none 0 0]) (by simp [results, Tryz.results103, go_sem]) rfl ?_
          exact DtPost.bad ((Below.refl _ _).alloc (Nat.le_refl _) _)
        · have g0 : (x0 != 67) = true := bne_iff_ne.2 h67
          have g1 : (x0 == 67) = false := beq_eq_false_iff_ne.2 h67
          clear hh hx0 hx1 h67 p1
          go_enter Tryz.func103, Tryz.ntmps103
          go_wp2
          refine bodyPost_ret (v := .agg #[.int .i64 5, .slice none 0 0]) (by simp [results, Tryz.results103, go_sem]) rfl ?_
          exact DtPost.bad ((Below.refl _ _).alloc (Nat.le_refl _) _)
      · clear hh
        go_enter Tryz.func103, Tryz.ntmps103
        go_wp2
        refine bodyPost_ret (v := .agg #[.int .i64 5, .slice none 0 0]) (by simp [results, Tryz.results103, go_sem]) rfl ?_
        exact DtPost.bad ((Below.refl _ _).alloc (Nat.le_refl _) _)
  · rw [dc_many h2k]
    have h3 : (2000 : Int) < (file.length : Int) := by omega
    go_enter Tryz.func103, Tryz.ntmps103
    go_wp2
    refine bodyPost_ret (v := .agg #[.int .i64 2, .slice none 0 0]) (by simp [results, Tryz.results103, go_sem]) rfl ?_
    exact DtPost.bad ((Below.refl _ _).alloc (Nat.le_refl _) _)
end Go.Proofs.YtnnfkmjhaljplaaGreatDoor
namespace Go.Proofs.YtnnfkmjhaljplaaGreatDoor
open Go.RowKit
/-- What readHead tells. -/
def HeadPost (w0 : World) (g : Nat) (file : List Int) (A : Option Addr) (c : Nat) (e : Ending) (w' : World) : Prop :=
  (file.length ≤ 2000 ∧ dcHd file ∧ e = .returned (.tuple #[]) ∧ ∃ gv us A2 c2, FrdAt w0 g gv (g + 1) file (file.drop 2) A A2 c c2 0 0 (List.replicate (file.getD 1 0).toNat []) us w') ∨
  (∃ C, C ≠ 0 ∧ dc file = (C, []) ∧ e = .panicked [{ v := pn C, recovered := false }] ∧ Below w0.heap.size w0 w')
set_option maxRecDepth 100000 in
set_option maxHeartbeats 2000000 in
theorem head_any (w0 : World) (g : Nat) (file : List Int) (A : Option Addr) (c : Nat) (w : World) (hm : file.length ≤ 1048576) (hc : file.length ≤ c) (b8 : B8 file) (hB : Bk w g #[.slice A file.length c, .slice A file.length c, .slice none 0 0, .int .i64 0, .int .i64 0] 117)
    (hR : Rd .u8 w w0.heap.size A file) (old : Below w0.heap.size w0 w) (lg : w0.heap.size ≤ g) :
    Calls Tryz.prog 76 #[.pointer (some ⟨g, 0, none⟩)] w (HeadPost w0 g file A c) := by
  unfold HeadPost
  have g0 := (hB.cell 0).trans (rfl : _ = some (Value.slice A file.length c))
  have g1 := (hB.cell 1).trans (rfl : _ = some (Value.slice A file.length c))
  by_cases h2k : file.length ≤ 2000
  · have h2k' : (file.length : Int) ≤ 2000 := by omega
    by_cases h2 : 2 ≤ file.length
    · have h2' : (2 : Int) ≤ (file.length : Int) := by omega
      have h2a : decide (file.length ≤ 0) = false := decide_eq_false (by omega)
      obtain ⟨bk, off, hA, hbb, hx⟩ := hR.all (by omega)
      have q0 := hx 0 (by omega)
      have q1 := hx 1 (by omega)
      rw [Nat.add_zero] at q0
      rw [← getD_at file 0 (by omega)] at q0
      rw [← getD_at file 1 (by omega)] at q1
      have bd1 := b8.get 1 (by omega)
      rw [← getD_at file 1 (by omega)] at bd1
      obtain ⟨x0, hx0⟩ : ∃ x, x = file.getD 0 0 := ⟨_, rfl⟩
      obtain ⟨x1, hx1⟩ : ∃ x, x = file.getD 1 0 := ⟨_, rfl⟩
      have HH := hide (show dcHd file ↔ (x0 = 67 ∧ 1 ≤ x1 ∧ x1 ≤ 4) by unfold dcHd; rw [hx0, hx1]; exact ⟨fun h => h.2, fun h => ⟨h2, h⟩⟩)
      have HX := hide hx1
      rw [← hx0] at q0
      rw [← hx1] at q1 bd1 ⊢
      clear hx hx0 hx1
      subst hA
      by_cases e0 : x0 = 67
      · subst e0
        have W1 : IntKind.i64.wrap x1 = x1 := IntWalk.i64_in _ (by omega)
        by_cases hv : 1 ≤ x1 ∧ x1 ≤ 4
        · obtain ⟨N, rfl⟩ := Int.eq_ofNat_of_zero_le (show 0 ≤ x1 by omega)
          obtain ⟨i0, hi, hz0, hz1, hz2⟩ := info_parts info_events
          have CUT := fun W => run_cut (some ⟨bk, off, none⟩) file.length 2 c 2 W rfl h2
          have hgl : g < w.heap.size := hB.lt
          go_enter Tryz.func76, Tryz.ntmps76
          go_wp2_with fail
          refine (must_yes 2 _).mono ?_
          rintro e w1 ⟨rfl, rfl⟩
          go_wp2_with fail
          refine (must_yes 5 _).mono ?_
          rintro e w1 ⟨rfl, rfl⟩
          go_wp2_with fail
          refine (allWithin_one _ _ _ _ _ _ (by simp [go_sem]) hv).mono ?_
          rintro e w2 ⟨rfl, rfl⟩
          have b1 := (Below.refl w1.heap.size w1).alloc (Nat.le_refl _) (Obj.cells #[.int .i64 N] 2)
          go_wp2_with fail
          refine (must_yes 5 _).mono ?_
          rintro e w2 ⟨rfl, rfl⟩
          have bX := hB.kept b1
          have rX := hR.below ((Below.refl w0.heap.size w1).alloc old.size (Obj.cells #[.int .i64 N] 2))
          have oX := old.alloc old.size (Obj.cells #[.int .i64 N] 2)
          generalize hX : w1.alloc (Obj.cells #[.int .i64 N] 2) = X at bX rX oX ⊢
          have hgX : g < X.heap.size := bX.lt
          clear hX b1 hB hR old g0 g1 q0 q1 hgl hbb
          go_wp2_with (at_make; refine wpList_make_full _ rfl _ _ 34 rfl (g + 1) 45 i0 (.slice none 0 0) 1 Tryz.underlying34 hi hz0 hz1 .i64 .i64 _ _ N rfl rfl rfl rfl (by rw [hz2]; omega) (by unfold maxLen; omega) hgX ?_; intro w3 hown hg; rw [made_slices] at hown; have b3 := bX.grown hg (by simp); have g1 := (b3.cell 1).trans (rfl : _ = some (Value.slice (some ⟨bk, off, none⟩) file.length c)); have g2 := (b3.cell 2).trans (rfl : _ = some (Value.slice none 0 0)); have f1 := b3.frozen 1; have f2 := b3.frozen 2)
          go_end0
          have oT := ownT_made hown
          have B3 : Below w0.heap.size w0 w3 := oX.grown hg oX.size (by simp)
          have r3 : Rd .u8 w3 w0.heap.size (some ⟨bk, off, none⟩) file := rX.below ((Below.refl _ _).grown hg oX.size (by simp))
          have B4 := (Below.refl w0.heap.size w3).setCell (p := ⟨g, 2, none⟩) lg (.slice (some ⟨X.heap.size, 0, none⟩) N N)
          have B5 := B4.setCell (p := ⟨g, 1, none⟩) lg (.slice (cutA (some ⟨bk, off, none⟩) 2 c) (file.length - 2) (c - 2))
          have b5 := (b3.set_ 2 (.slice (some ⟨X.heap.size, 0, none⟩) N N)).set_ 1 (.slice (cutA (some ⟨bk, off, none⟩) 2 c) (file.length - 2) (c - 2))
          refine .inl ⟨h2k, HH.out.2 ⟨by first | trivial | rfl, hv.1, hv.2⟩, rfl, X.heap.size, List.replicate N (.slice none 0 0), cutA (some ⟨bk, off, none⟩) 2 c, c - 2, ?_, ?_, r3.below B5, (r3.cut h2 hc).below B5, by rw [List.length_drop]; omega, B3.trans B5, lg, Nat.lt_succ_self _⟩
          · rw [List.length_drop, Int.toNat_natCast, List.length_replicate]
            exact b5
          · rw [Int.toNat_natCast, List.length_replicate]
            exact (oT.kept (grown_set w3 g 2 _) (fun b e => by cases e; exact Nat.lt_succ_self _)).kept (grown_set _ g 1 _) (fun b e => by cases e; exact Nat.lt_succ_self _)
        · have hv' : x1 < 1 ∨ 4 < x1 := by omega
          have hno : ¬ dcHd file := fun h => hv (HH.out.1 h).2
          clear hv
          go_enter Tryz.func76, Tryz.ntmps76
          go_wp2_with fail
          refine (must_yes 2 _).mono ?_
          rintro e w1 ⟨rfl, rfl⟩
          go_wp2_with fail
          refine (must_yes 5 _).mono ?_
          rintro e w1 ⟨rfl, rfl⟩
          go_wp2_with fail
          refine (allWithin_not _ _ _ _ _ _ (by simp [go_sem]) hv').mono ?_
          rintro e w2 ⟨rfl, rfl⟩
          go_wp2_with fail
          refine (must_no 5 _).mono ?_
          rintro e w2 ⟨rfl, rfl⟩
          exact ⟨rfl, .inr ⟨5, by decide, dc_text h2k hno, rfl, old.alloc old.size _⟩⟩
      · have e0' : (x0 == 67) = false := beq_eq_false_iff_ne.2 e0
        have hno : ¬ dcHd file := fun h => e0 (HH.out.1 h).1
        go_enter Tryz.func76, Tryz.ntmps76
        go_wp2_with fail
        refine (must_yes 2 _).mono ?_
        rintro e w1 ⟨rfl, rfl⟩
        go_wp2_with fail
        refine (must_no 5 _).mono ?_
        rintro e w1 ⟨rfl, rfl⟩
        exact ⟨rfl, .inr ⟨5, by decide, dc_text h2k hno, rfl, old⟩⟩
    · have h2' : ¬ (2 : Int) ≤ (file.length : Int) := by omega
      have h2'' : (file.length : Int) < 2 := by omega
      have hno : ¬ dcHd file := fun h => h2 h.1
      go_enter Tryz.func76, Tryz.ntmps76
      go_wp2_with fail
      refine (must_yes 2 _).mono ?_
      rintro e w1 ⟨rfl, rfl⟩
      go_wp2_with fail
      refine (must_no 5 _).mono ?_
      rintro e w1 ⟨rfl, rfl⟩
      exact ⟨rfl, .inr ⟨5, by decide, dc_text h2k hno, rfl, old⟩⟩
  · have h2k' : ¬ (file.length : Int) ≤ 2000 := by omega
    have h2k'' : (2000 : Int) < (file.length : Int) := by omega
    go_enter Tryz.func76, Tryz.ntmps76
    go_wp2_with fail
    refine (must_no 2 _).mono ?_
    rintro e w1 ⟨rfl, rfl⟩
    exact ⟨rfl, .inr ⟨2, by decide, dc_many h2k, rfl, old⟩⟩
end Go.Proofs.YtnnfkmjhaljplaaGreatDoor
namespace Go.Proofs.YtnnfkmjhaljplaaGreatDoor
open Go.RowKit
theorem sameB_yes {l m : List Int} (h : l = m) : sameB l m = true := by unfold sameB; rw [h]; exact beq_self_eq_true m
theorem sameB_no {l m : List Int} (h : ¬ l = m) : sameB l m = false := beq_eq_false_iff_ne.2 h
/-- What readEnd tells. -/
def EndPost (C : Int) (w : World) (e : Ending) (w' : World) : Prop :=
  ((C = 0 ∧ e = .returned (.tuple #[])) ∨ (C ≠ 0 ∧ e = .panicked [{ v := pn C, recovered := false }])) ∧ Below w.heap.size w w'
set_option maxRecDepth 100000 in
set_option maxHeartbeats 4000000 in
theorem end_any (w0 : World) (g gv base : Nat) (file : List Int) (A A2 : Option Addr) (c c2 at_ n : Nat) (cs : List (List Ev)) (us : List Value) (w : World) (hf : file.length ≤ 2000) (hc : file.length ≤ c) (b8 : B8 file) (hat : at_ ≤ file.length)
    (hr : FrdAt w0 g gv base file (file.drop at_) A A2 c c2 n (sumT cs) cs us w) (hT : Tab w) :
    Calls Tryz.prog 78 #[.pointer (some ⟨g, 0, none⟩)] w (EndPost (dcEnd file at_ cs n) w) := by
  unfold EndPost
  obtain ⟨d, hd⟩ : ∃ d, d = file.drop at_ := ⟨_, rfl⟩
  have hdl : d.length = file.length - at_ := by rw [hd, List.length_drop]
  have d8 : B8 d := by rw [hd]; exact b8.drop at_
  rw [← hd] at hr
  have g0 := (hr.blk.cell 0).trans (rfl : _ = some (Value.slice A file.length c))
  have g1 := (hr.blk.cell 1).trans (rfl : _ = some (Value.slice A2 d.length c2))
  have g3 := (hr.blk.cell 3).trans (rfl : _ = some (Value.int .i64 n))
  have g4 := (hr.blk.cell 4).trans (rfl : _ = some (Value.int .i64 (sumT cs : Nat)))
  have HD := hide hd
  have HF := hide hf
  by_cases h7 : d.length = 7
  · rw [h7] at g1
    have x0 := getD_at d 0 (by omega)
    have x1 := getD_at d 1 (by omega)
    have x2 := getD_at d 2 (by omega)
    obtain ⟨bk, off, hA, hbb, hx⟩ := hr.rdd.all (by omega)
    have q0 := hx 0 (by omega)
    have q1 := hx 1 (by omega)
    have q2 := hx 2 (by omega)
    rw [Nat.add_zero] at q0
    have y1 := d8.get 1 (by omega)
    have y2 := d8.get 2 (by omega)
    rw [← x0] at q0
    rw [← x1] at q1 y1
    rw [← x2] at q2 y2
    obtain ⟨v0, hv0⟩ : ∃ v, v = d.getD 0 0 := ⟨_, rfl⟩
    obtain ⟨v1, hv1⟩ : ∃ v, v = d.getD 1 0 := ⟨_, rfl⟩
    obtain ⟨v2, hv2⟩ : ∃ v, v = d.getD 2 0 := ⟨_, rfl⟩
    rw [← hv0] at q0
    rw [← hv1] at q1 y1
    rw [← hv2] at q2 y2
    clear x0 x1 x2 hx
    rw [hA] at g1
    have H7 := hide h7
    have HDL := hide hdl
    by_cases h69 : v0 = 69
    · have H1 : Hid ((file.drop at_).length = 7 ∧ (file.drop at_).getD 0 0 = 69) := hide (by rw [← hd]; exact ⟨h7, by rw [← hv0]; exact h69⟩)
      have H2 : Hid ((file.drop at_).getD 1 0 = n ∧ (file.drop at_).getD 2 0 = sumT cs ↔ v1 = n ∧ v2 = sumT cs) := hide (by rw [← hd, ← hv1, ← hv2])
      have H3 : Hid (file.drop (file.length - 4) = (file.drop at_).drop 3) := hide (by rw [List.drop_drop, show file.length - 4 = at_ + 3 by omega])
      have H4 : Hid (file.length - 4 = at_ + 3 ∧ file.length ≥ 7) := hide (by omega)
      subst h69
      have W1 : IntKind.i64.wrap v1 = v1 := IntWalk.i64_in _ (by omega)
      have W2 : IntKind.i64.wrap v2 = v2 := IntWalk.i64_in _ (by omega)
      obtain ⟨ev, hev⟩ : ∃ ev, ev = sumT cs := ⟨_, rfl⟩
      rw [← hev] at g4 H2
      clear hd hdl h7 hv0 hv1 hv2
      have p0 : w.drew.cell? ⟨g, 1, none⟩ = some (Value.slice (some ⟨bk, off, none⟩) 7 c2) := g1
      have p1 : w.drew.cell? ⟨bk, off + 1, none⟩ = some (.int .u8 v1) := q1
      have p2 : w.drew.cell? ⟨bk, off + 2, none⟩ = some (.int .u8 v2) := q2
      have p3 : w.drew.cell? ⟨g, 3, none⟩ = some (Value.int .i64 n) := g3
      have p4 : w.drew.cell? ⟨g, 4, none⟩ = some (Value.int .i64 ev) := g4
      have bD : Below w.heap.size w w.drew := (Below.refl _ _).drew
      by_cases e1 : v1 = n
      · by_cases e2 : v2 = ev
        · have HC : Hid (dcEnd file at_ cs n = if fourL (crcV (file.take (file.length - 4))) = file.drop (file.length - 4) then 0 else 6) := hide (by
            have a := H2.out.2 ⟨e1, e2⟩
            rw [hev] at a
            rw [H3.out, H4.out.1]
            by_cases h : fourL (crcV (file.take (at_ + 3))) = (file.drop at_).drop 3
            · rw [if_pos h]; exact dcEnd_ok H1.out a h
            · rw [if_neg h]; exact dcEnd_sum H1.out a h)
          rw [HC.out]
          have t1 : (v1 == (n : Int)) = true := beq_iff_eq.2 e1
          have t2 : (v2 == (ev : Int)) = true := beq_iff_eq.2 e2
          clear e1 e2 hev
          have h4 := H4.out.2
          obtain ⟨s, hs4⟩ : ∃ s, s = file.length - 4 := ⟨_, rfl⟩
          have hsc : ((file.length : Int) - 4) = (s : Int) := by omega
          have hsl : s ≤ file.length := by omega
          have S1 := fun W => run_head A file.length s c s W rfl (by omega)
          have S2 := fun W => run_cut A file.length s c s W rfl hsl
          have lY : (file.drop s).length = 4 := by rw [List.length_drop]; omega
          have lX : (file.take s).length = s := by rw [List.length_take]; omega
          rw [show file.length - s = 4 by omega] at S2
          rw [← hs4]
          have SB0 := fun W hR hT => sumBytes_any (file.take s) A c W (by rw [lX]; have := HF.out; omega) hR (b8.take s) hT
          have SM0 := fun (g6 : Nat) (W : World) h h' => implSame_any (fourL (crcV (file.take s))) (file.drop s) (some ⟨g6, 0, none⟩) (cutA A s c) 4 (c - s) W h h' (fourL_B8 (crcV_bd (b8.take s))) (b8.drop s)
          rw [lX] at SB0
          rw [fourL_length, lY] at SM0
          have SB := hide SB0
          have SM := hide SM0
          have rX := (hr.rd.take s).more hr.old.size
          have rY := (hr.rd.cut (n := s) hsl hc).more hr.old.size
          obtain ⟨X, hX⟩ : ∃ X, X = file.take s := ⟨_, rfl⟩
          obtain ⟨Y, hY⟩ : ∃ Y, Y = file.drop s := ⟨_, rfl⟩
          rw [← hX] at SB SM rX ⊢
          rw [← hY] at SM rY ⊢
          obtain ⟨F, hF⟩ : ∃ F, F = fourL (crcV X) := ⟨_, rfl⟩
          rw [← hF] at SB SM ⊢
          have g0d : w.drew.drew.cell? ⟨g, 0, none⟩ = some (Value.slice A file.length c) := g0
          have rXd : Rd .u8 w.drew.drew w.drew.drew.heap.size A X := rX
          have hTd : Tab w.drew.drew := hT
          have bDD : Below w.heap.size w w.drew.drew := (Below.refl _ _).drew.drew
          clear SB0 SM0 hX hY hF lX lY hs4 h4 H1 H2 H3 H4 HDL H7 HC
          go_enter Tryz.func78, Tryz.ntmps78
          go_wp2_with fail
          refine (must_yes 5 _).mono ?_
          rintro e w1 ⟨rfl, rfl⟩
          obtain ⟨w, rfl⟩ : ∃ w, w = w1 := ⟨_, rfl⟩
          go_wp2
          refine wp_region_F 26 (fun w' => w'.cell? ⟨g, 1, none⟩ = some (Value.slice (some ⟨bk, off, none⟩) 7 c2) ∧ w'.cell? ⟨bk, off + 1, none⟩ = some (.int .u8 v1) ∧ w'.cell? ⟨bk, off + 2, none⟩ = some (.int .u8 v2) ∧ w'.cell? ⟨g, 3, none⟩ = some (Value.int .i64 n) ∧ w'.cell? ⟨g, 4, none⟩ = some (Value.int .i64 ev)) (fun w' => True) (by kernel_rfl) ⟨⟨p0, p1, p2, p3, p4⟩, trivial⟩ (fun hHeld => ?_)
          try simp only [Act.put, List.setIfInBounds_toArray, List.set_cons_zero, List.set_cons_succ]
          refine wpAnyF_take (i := 0) (v := ?_) (by (simp only [List.getElem?_toArray, List.getElem?_cons_zero]; rfl)) (by kernel_rfl) (by kernel_rfl) (by kernel_rfl) (by decide) (by exact fun _ _ _ h => h) ⟨hHeld.1, .inr hHeld.2⟩ (Or.inl ⟨by rfl, ?_⟩) ?_
          rotate_left
          · (intro w' _; go_simp <;> with_reducible rfl)
          try simp only [Act.put, List.setIfInBounds_toArray, List.set_cons_zero, List.set_cons_succ]
          refine wpAnyF_take (i := 1) (v := ?_) (by (simp only [List.getElem?_toArray, List.getElem?_cons_succ, List.getElem?_cons_zero]; rfl)) (by kernel_rfl) (by kernel_rfl) (by kernel_rfl) (by decide) (by exact fun _ _ _ h => h) ⟨hHeld.1, .inr hHeld.2⟩ (Or.inl ⟨by rfl, ?_⟩) ?_
          rotate_left
          · (intro w' _; go_simp <;> with_reducible rfl)
          try simp only [Act.put, List.setIfInBounds_toArray, List.set_cons_zero, List.set_cons_succ]
          refine wpAnyF_take (i := 2) (v := ?_) (by (simp only [List.getElem?_toArray, List.getElem?_cons_succ, List.getElem?_cons_zero]; rfl)) (by kernel_rfl) (by kernel_rfl) (by kernel_rfl) (by decide) (by exact fun _ _ _ h => h) ⟨hHeld.1, .inr hHeld.2⟩ (Or.inl ⟨by rfl, ?_⟩) ?_
          rotate_left
          · (intro w' _; go_simp <;> with_reducible rfl)
          try simp only [Act.put, List.setIfInBounds_toArray, List.set_cons_zero, List.set_cons_succ]
          refine wpAnyF_keep (i := 3) (v := ?_) (by (simp only [List.getElem?_toArray, List.getElem?_cons_succ, List.getElem?_cons_zero]; rfl)) (by kernel_rfl) (by kernel_rfl) (by kernel_rfl) (by decide) (by exact fun _ _ _ h => h) ⟨hHeld.1, .inr hHeld.2⟩ (Or.inl ⟨by rfl, ?_⟩) ?_
          rotate_left
          · (intro w' hSw; (try dsimp only at hSw); obtain ⟨hSa0, hSa1, hSa2, hSa3, hSa4⟩ := hSw; go_simp <;> with_reducible rfl)
          try simp only [Act.put, List.setIfInBounds_toArray, List.set_cons_zero, List.set_cons_succ]
          refine wpAnyF_take (i := 4) (v := ?_) (by (simp only [List.getElem?_toArray, List.getElem?_cons_succ, List.getElem?_cons_zero]; rfl)) (by kernel_rfl) (by kernel_rfl) (by kernel_rfl) (by decide) (by exact fun _ _ _ h => h) ⟨hHeld.1, .inr hHeld.2⟩ (Or.inl ⟨by rfl, ?_⟩) ?_
          rotate_left
          · (intro w' _; go_simp <;> with_reducible rfl)
          try simp only [Act.put, List.setIfInBounds_toArray, List.set_cons_zero, List.set_cons_succ]
          refine wpAnyF_keep (i := 5) (v := ?_) (by (simp only [List.getElem?_toArray, List.getElem?_cons_succ, List.getElem?_cons_zero]; rfl)) (by kernel_rfl) (by kernel_rfl) (by kernel_rfl) (by decide) (by exact fun _ _ _ h => h) ⟨hHeld.1, .inr hHeld.2⟩ (Or.inl ⟨by rfl, ?_⟩) ?_
          rotate_left
          · (intro w' hSw; (try dsimp only at hSw); obtain ⟨hSa0, hSa1, hSa2, hSa3, hSa4⟩ := hSw; go_simp <;> with_reducible rfl)
          try simp only [Act.put, List.setIfInBounds_toArray, List.set_cons_zero, List.set_cons_succ]
          refine wpAnyF_take (i := 6) (v := ?_) (by (simp only [List.getElem?_toArray, List.getElem?_cons_succ, List.getElem?_cons_zero]; rfl)) (by kernel_rfl) (by kernel_rfl) (by kernel_rfl) (by decide) (by exact fun _ _ _ h => h) ⟨hHeld.1, .inr hHeld.2⟩ (Or.inl ⟨by rfl, ?_⟩) ?_
          rotate_left
          · (intro w' _; go_simp <;> with_reducible rfl)
          try simp only [Act.put, List.setIfInBounds_toArray, List.set_cons_zero, List.set_cons_succ]
          refine wpAnyF_take (i := 7) (v := ?_) (by (simp only [List.getElem?_toArray, List.getElem?_cons_succ, List.getElem?_cons_zero]; rfl)) (by kernel_rfl) (by kernel_rfl) (by kernel_rfl) (by decide) (by exact fun _ _ _ h => h) ⟨hHeld.1, .inr hHeld.2⟩ (Or.inl ⟨by rfl, ?_⟩) ?_
          rotate_left
          · (intro w' _; go_simp <;> with_reducible rfl)
          try simp only [Act.put, List.setIfInBounds_toArray, List.set_cons_zero, List.set_cons_succ]
          refine wpAnyF_take (i := 8) (v := ?_) (by (simp only [List.getElem?_toArray, List.getElem?_cons_succ, List.getElem?_cons_zero]; rfl)) (by kernel_rfl) (by kernel_rfl) (by kernel_rfl) (by decide) (by exact fun _ _ _ h => h) ⟨hHeld.1, .inr hHeld.2⟩ (Or.inl ⟨by rfl, ?_⟩) ?_
          rotate_left
          · (intro w' _; go_simp <;> with_reducible rfl)
          try simp only [Act.put, List.setIfInBounds_toArray, List.set_cons_zero, List.set_cons_succ]
          refine wpAnyF_take (i := 9) (v := ?_) (by (simp only [List.getElem?_toArray, List.getElem?_cons_succ, List.getElem?_cons_zero]; rfl)) (by kernel_rfl) (by kernel_rfl) (by kernel_rfl) (by decide) (by exact fun _ _ _ h => h) ⟨hHeld.1, .inr hHeld.2⟩ (Or.inl ⟨by rfl, ?_⟩) ?_
          rotate_left
          · (intro w' _; go_simp <;> with_reducible rfl)
          try simp only [Act.put, List.setIfInBounds_toArray, List.set_cons_zero, List.set_cons_succ]
          refine wpAnyF_keep (i := 10) (v := ?_) (by (simp only [List.getElem?_toArray, List.getElem?_cons_succ, List.getElem?_cons_zero]; rfl)) (by kernel_rfl) (by kernel_rfl) (by kernel_rfl) (by decide) (by exact fun _ _ _ h => h) ⟨hHeld.1, .inr hHeld.2⟩ (Or.inl ⟨by rfl, ?_⟩) ?_
          rotate_left
          · (intro w' hSw; (try dsimp only at hSw); obtain ⟨hSa0, hSa1, hSa2, hSa3, hSa4⟩ := hSw; go_simp <;> with_reducible rfl)
          try simp only [Act.put, List.setIfInBounds_toArray, List.set_cons_zero, List.set_cons_succ]
          refine wpAnyF_take (i := 11) (v := ?_) (by (simp only [List.getElem?_toArray, List.getElem?_cons_succ, List.getElem?_cons_zero]; rfl)) (by kernel_rfl) (by kernel_rfl) (by kernel_rfl) (by decide) (by exact fun _ _ _ h => h) ⟨hHeld.1, .inr hHeld.2⟩ (Or.inl ⟨by rfl, ?_⟩) ?_
          rotate_left
          · (intro w' _; go_simp <;> with_reducible rfl)
          try simp only [Act.put, List.setIfInBounds_toArray, List.set_cons_zero, List.set_cons_succ]
          refine wpAnyF_take (i := 12) (v := ?_) (by (simp only [List.getElem?_toArray, List.getElem?_cons_succ, List.getElem?_cons_zero]; rfl)) (by kernel_rfl) (by kernel_rfl) (by kernel_rfl) (by decide) (by exact fun _ _ _ h => h) ⟨hHeld.1, .inr hHeld.2⟩ (Or.inl ⟨by rfl, ?_⟩) ?_
          rotate_left
          · (intro w' _; go_simp <;> with_reducible rfl)
          try simp only [Act.put, List.setIfInBounds_toArray, List.set_cons_zero, List.set_cons_succ]
          refine wpAnyF_take (i := 13) (v := ?_) (by (simp only [List.getElem?_toArray, List.getElem?_cons_succ, List.getElem?_cons_zero]; rfl)) (by kernel_rfl) (by kernel_rfl) (by kernel_rfl) (by decide) (by exact fun _ _ _ h => h) ⟨hHeld.1, .inr hHeld.2⟩ (Or.inl ⟨by rfl, ?_⟩) ?_
          rotate_left
          · (intro w' _; go_simp <;> with_reducible rfl)
          try simp only [Act.put, List.setIfInBounds_toArray, List.set_cons_zero, List.set_cons_succ]
          refine wpAnyF_take (i := 14) (v := ?_) (by (simp only [List.getElem?_toArray, List.getElem?_cons_succ, List.getElem?_cons_zero]; rfl)) (by kernel_rfl) (by kernel_rfl) (by kernel_rfl) (by decide) (by exact fun _ _ _ h => h) ⟨hHeld.1, .inr hHeld.2⟩ (Or.inl ⟨by rfl, ?_⟩) ?_
          rotate_left
          · (intro w' _; go_simp <;> with_reducible rfl)
          try simp only [Act.put, List.setIfInBounds_toArray, List.set_cons_zero, List.set_cons_succ]
          refine wpAnyF_take (i := 15) (v := ?_) (by (simp only [List.getElem?_toArray, List.getElem?_cons_succ, List.getElem?_cons_zero]; rfl)) (by kernel_rfl) (by kernel_rfl) (by kernel_rfl) (by decide) (by exact fun _ _ _ h => h) ⟨hHeld.1, .inr hHeld.2⟩ (Or.inl ⟨by rfl, ?_⟩) ?_
          rotate_left
          · (intro w' _; go_simp <;> with_reducible rfl)
          try simp only [Act.put, List.setIfInBounds_toArray, List.set_cons_zero, List.set_cons_succ]
          refine wpAnyF_keep (i := 16) (v := ?_) (by (simp only [List.getElem?_toArray, List.getElem?_cons_succ, List.getElem?_cons_zero]; rfl)) (by kernel_rfl) (by kernel_rfl) (by kernel_rfl) (by decide) (by exact fun _ _ _ h => h) ⟨hHeld.1, .inr hHeld.2⟩ (Or.inl ⟨by rfl, ?_⟩) ?_
          rotate_left
          · (intro w' hSw; (try dsimp only at hSw); obtain ⟨hSa0, hSa1, hSa2, hSa3, hSa4⟩ := hSw; go_simp <;> with_reducible rfl)
          try simp only [Act.put, List.setIfInBounds_toArray, List.set_cons_zero, List.set_cons_succ]
          refine wpAnyF_take (i := 17) (v := ?_) (by (simp only [List.getElem?_toArray, List.getElem?_cons_succ, List.getElem?_cons_zero]; rfl)) (by kernel_rfl) (by kernel_rfl) (by kernel_rfl) (by decide) (by exact fun _ _ _ h => h) ⟨hHeld.1, .inr hHeld.2⟩ (Or.inl ⟨by rfl, ?_⟩) ?_
          rotate_left
          · (intro w' _; go_simp <;> with_reducible rfl)
          try simp only [Act.put, List.setIfInBounds_toArray, List.set_cons_zero, List.set_cons_succ]
          refine wpAnyF_keep (i := 18) (v := ?_) (by (simp only [List.getElem?_toArray, List.getElem?_cons_succ, List.getElem?_cons_zero]; rfl)) (by kernel_rfl) (by kernel_rfl) (by kernel_rfl) (by decide) (by exact fun _ _ _ h => h) ⟨hHeld.1, .inr hHeld.2⟩ (Or.inl ⟨by rfl, ?_⟩) ?_
          rotate_left
          · (intro w' hSw; (try dsimp only at hSw); obtain ⟨hSa0, hSa1, hSa2, hSa3, hSa4⟩ := hSw; go_simp <;> with_reducible rfl)
          try simp only [Act.put, List.setIfInBounds_toArray, List.set_cons_zero, List.set_cons_succ]
          refine wpAnyF_take (i := 19) (v := ?_) (by (simp only [List.getElem?_toArray, List.getElem?_cons_succ, List.getElem?_cons_zero]; rfl)) (by kernel_rfl) (by kernel_rfl) (by kernel_rfl) (by decide) (by exact fun _ _ _ h => h) ⟨hHeld.1, .inr hHeld.2⟩ (Or.inl ⟨by rfl, ?_⟩) ?_
          rotate_left
          · (intro w' _; go_simp <;> with_reducible rfl)
          try simp only [Act.put, List.setIfInBounds_toArray, List.set_cons_zero, List.set_cons_succ]
          refine wpAnyF_take (i := 20) (v := ?_) (by (simp only [List.getElem?_toArray, List.getElem?_cons_succ, List.getElem?_cons_zero]; rfl)) (by kernel_rfl) (by kernel_rfl) (by kernel_rfl) (by decide) (by exact fun _ _ _ h => h) ⟨hHeld.1, .inr hHeld.2⟩ (Or.inl ⟨by rfl, ?_⟩) ?_
          rotate_left
          · (intro w' _; go_simp <;> with_reducible rfl)
          try simp only [Act.put, List.setIfInBounds_toArray, List.set_cons_zero, List.set_cons_succ]
          refine wpAnyF_take (i := 21) (v := ?_) (by (simp only [List.getElem?_toArray, List.getElem?_cons_succ, List.getElem?_cons_zero]; rfl)) (by kernel_rfl) (by kernel_rfl) (by kernel_rfl) (by decide) (by exact fun _ _ _ h => h) ⟨hHeld.1, .inr hHeld.2⟩ (Or.inl ⟨by rfl, ?_⟩) ?_
          rotate_left
          · (intro w' _; go_simp <;> with_reducible rfl)
          try simp only [Act.put, List.setIfInBounds_toArray, List.set_cons_zero, List.set_cons_succ]
          refine wpAnyF_take (i := 22) (v := ?_) (by (simp only [List.getElem?_toArray, List.getElem?_cons_succ, List.getElem?_cons_zero]; rfl)) (by kernel_rfl) (by kernel_rfl) (by kernel_rfl) (by decide) (by exact fun _ _ _ h => h) ⟨hHeld.1, .inr hHeld.2⟩ (Or.inl ⟨by rfl, ?_⟩) ?_
          rotate_left
          · (intro w' _; go_simp <;> with_reducible rfl)
          try simp only [Act.put, List.setIfInBounds_toArray, List.set_cons_zero, List.set_cons_succ]
          refine wpAnyF_keep (i := 23) (v := ?_) (by (simp only [List.getElem?_toArray, List.getElem?_cons_succ, List.getElem?_cons_zero]; rfl)) (by kernel_rfl) (by kernel_rfl) (by kernel_rfl) (by decide) (by exact fun _ _ _ h => h) ⟨hHeld.1, .inr hHeld.2⟩ (Or.inl ⟨by rfl, ?_⟩) ?_
          rotate_left
          · (intro w' hSw; (try dsimp only at hSw); obtain ⟨hSa0, hSa1, hSa2, hSa3, hSa4⟩ := hSw; go_simp <;> with_reducible rfl)
          try simp only [Act.put, List.setIfInBounds_toArray, List.set_cons_zero, List.set_cons_succ]
          refine wpAnyF_take (i := 24) (v := ?_) (by (simp only [List.getElem?_toArray, List.getElem?_cons_succ, List.getElem?_cons_zero]; rfl)) (by kernel_rfl) (by kernel_rfl) (by kernel_rfl) (by decide) (by exact fun _ _ _ h => h) ⟨hHeld.1, .inr hHeld.2⟩ (Or.inl ⟨by rfl, ?_⟩) ?_
          rotate_left
          · (intro w' _; go_simp <;> with_reducible rfl)
          try simp only [Act.put, List.setIfInBounds_toArray, List.set_cons_zero, List.set_cons_succ]
          refine wpAnyF_take (i := 25) (v := ?_) (by (simp only [List.getElem?_toArray, List.getElem?_cons_succ, List.getElem?_cons_zero]; rfl)) (by kernel_rfl) (by kernel_rfl) (by kernel_rfl) (by decide) (by exact fun _ _ _ h => h) ⟨hHeld.1, .inr hHeld.2⟩ (Or.inl ⟨by rfl, ?_⟩) ?_
          rotate_left
          · (intro w' _; go_simp <;> with_reducible rfl)
          try simp only [Act.put, List.setIfInBounds_toArray, List.set_cons_zero, List.set_cons_succ]
          refine wpAnyF_ready (rs := [26]) (by kernel_rfl) (by simp) ?_
          refine AllReadyF.last (by (simp only [List.getElem?_toArray, List.getElem?_cons_succ, List.getElem?_cons_zero]; rfl)) (by kernel_rfl) (fun K hK => ?_) AllReadyF.nil
          go_simp
          go_at_call 146
          refine (must_yes 1 _).mono ?_
          rintro e w3 ⟨rfl, rfl⟩
          refine hK.out _ _ ⟨p0, p1, p2, p3, p4⟩ ?_
          clear hK K
          try simp only [Act.put, List.setIfInBounds_toArray, List.set_cons_zero, List.set_cons_succ]
          refine wpAnyF_done (by kernel_rfl) ?_ _
          have g0' : w.drew.cell? ⟨g, 0, none⟩ = some (Value.slice A file.length c) := g0
          go_wp2
          try rw [hsc]
          by_cases hsame : F = Y
          · have hsb := sameB_yes hsame
            have HSM := hide hsame
            clear hsame
            refine wp_region_F 14 (fun w' => w'.cell? ⟨g, 0, none⟩ = some (Value.slice A file.length c)) (fun w' => True) (by kernel_rfl) ⟨g0d, trivial⟩ (fun hHeld => ?_)
            try simp only [Act.put, List.setIfInBounds_toArray, List.set_cons_zero, List.set_cons_succ]
            refine wpAnyF_take (i := 0) (v := ?_) (by (simp only [List.getElem?_toArray, List.getElem?_cons_zero]; rfl)) (by kernel_rfl) (by kernel_rfl) (by kernel_rfl) (by decide) (by exact fun _ _ _ h => h) ⟨hHeld.1, .inr hHeld.2⟩ (Or.inl ⟨by rfl, ?_⟩) ?_
            rotate_left
            · (intro w' _; go_simp <;> with_reducible rfl)
            try simp only [Act.put, List.setIfInBounds_toArray, List.set_cons_zero, List.set_cons_succ]
            refine wpAnyF_take (i := 1) (v := ?_) (by (simp only [List.getElem?_toArray, List.getElem?_cons_succ, List.getElem?_cons_zero]; rfl)) (by kernel_rfl) (by kernel_rfl) (by kernel_rfl) (by decide) (by exact fun _ _ _ h => h) ⟨hHeld.1, .inr hHeld.2⟩ (Or.inl ⟨by rfl, ?_⟩) ?_
            rotate_left
            · (intro w' _; go_simp <;> with_reducible rfl)
            try simp only [Act.put, List.setIfInBounds_toArray, List.set_cons_zero, List.set_cons_succ]
            refine wpAnyF_take (i := 2) (v := ?_) (by (simp only [List.getElem?_toArray, List.getElem?_cons_succ, List.getElem?_cons_zero]; rfl)) (by kernel_rfl) (by kernel_rfl) (by kernel_rfl) (by decide) (by exact fun _ _ _ h => h) ⟨hHeld.1, .inr hHeld.2⟩ (Or.inl ⟨by rfl, ?_⟩) ?_
            rotate_left
            · (intro w' _; go_simp <;> with_reducible rfl)
            try simp only [Act.put, List.setIfInBounds_toArray, List.set_cons_zero, List.set_cons_succ]
            refine wpAnyF_keep (i := 3) (v := ?_) (by (simp only [List.getElem?_toArray, List.getElem?_cons_succ, List.getElem?_cons_zero]; rfl)) (by kernel_rfl) (by kernel_rfl) (by kernel_rfl) (by decide) (by exact fun _ _ _ h => h) ⟨hHeld.1, .inr hHeld.2⟩ (Or.inl ⟨by rfl, ?_⟩) ?_
            rotate_left
            · (intro w' hSw; (try dsimp only at hSw); obtain hSa0 := hSw; go_simp <;> with_reducible rfl)
            try simp only [Act.put, List.setIfInBounds_toArray, List.set_cons_zero, List.set_cons_succ]
            refine wpAnyF_take (i := 4) (v := ?_) (by (simp only [List.getElem?_toArray, List.getElem?_cons_succ, List.getElem?_cons_zero]; rfl)) (by kernel_rfl) (by kernel_rfl) (by kernel_rfl) (by decide) (by exact fun _ _ _ h => h) ⟨hHeld.1, .inr hHeld.2⟩ (Or.inl ⟨by rfl, ?_⟩) ?_
            rotate_left
            · (intro w' _; go_simp <;> with_reducible rfl)
            try simp only [Act.put, List.setIfInBounds_toArray, List.set_cons_zero, List.set_cons_succ]
            refine wpAnyF_take (i := 5) (v := ?_) (by (simp only [List.getElem?_toArray, List.getElem?_cons_succ, List.getElem?_cons_zero]; rfl)) (by kernel_rfl) (by kernel_rfl) (by kernel_rfl) (by decide) (by exact fun _ _ _ h => h) ⟨hHeld.1, .inr hHeld.2⟩ (Or.inl ⟨by rfl, ?_⟩) ?_
            rotate_left
            · (intro w' _; go_simp <;> with_reducible rfl)
            try simp only [Act.put, List.setIfInBounds_toArray, List.set_cons_zero, List.set_cons_succ]
            refine wpAnyF_take (i := 7) (v := ?_) (by (simp only [List.getElem?_toArray, List.getElem?_cons_succ, List.getElem?_cons_zero]; rfl)) (by kernel_rfl) (by kernel_rfl) (by kernel_rfl) (by decide) (by exact fun _ _ _ h => h) ⟨hHeld.1, .inr hHeld.2⟩ (Or.inl ⟨by rfl, ?_⟩) ?_
            rotate_left
            · (intro w' _; go_simp <;> with_reducible rfl)
            try simp only [Act.put, List.setIfInBounds_toArray, List.set_cons_zero, List.set_cons_succ]
            refine wpAnyF_take (i := 8) (v := ?_) (by (simp only [List.getElem?_toArray, List.getElem?_cons_succ, List.getElem?_cons_zero]; rfl)) (by kernel_rfl) (by kernel_rfl) (by kernel_rfl) (by decide) (by exact fun _ _ _ h => h) ⟨hHeld.1, .inr hHeld.2⟩ (Or.inl ⟨by rfl, ?_⟩) ?_
            rotate_left
            · (intro w' _; go_simp <;> with_reducible rfl)
            try simp only [Act.put, List.setIfInBounds_toArray, List.set_cons_zero, List.set_cons_succ]
            refine wpAnyF_take (i := 9) (v := ?_) (by (simp only [List.getElem?_toArray, List.getElem?_cons_succ, List.getElem?_cons_zero]; rfl)) (by kernel_rfl) (by kernel_rfl) (by kernel_rfl) (by decide) (by exact fun _ _ _ h => h) ⟨hHeld.1, .inr hHeld.2⟩ (Or.inl ⟨by rfl, ?_⟩) ?_
            rotate_left
            · (intro w' _; go_simp <;> with_reducible rfl)
            try simp only [Act.put, List.setIfInBounds_toArray, List.set_cons_zero, List.set_cons_succ]
            refine wpAnyF_keep (i := 10) (v := ?_) (by (simp only [List.getElem?_toArray, List.getElem?_cons_succ, List.getElem?_cons_zero]; rfl)) (by kernel_rfl) (by kernel_rfl) (by kernel_rfl) (by decide) (by exact fun _ _ _ h => h) ⟨hHeld.1, .inr hHeld.2⟩ (Or.inl ⟨by rfl, ?_⟩) ?_
            rotate_left
            · (intro w' hSw; (try dsimp only at hSw); obtain hSa0 := hSw; go_simp <;> with_reducible rfl)
            try simp only [Act.put, List.setIfInBounds_toArray, List.set_cons_zero, List.set_cons_succ]
            refine wpAnyF_take (i := 11) (v := ?_) (by (simp only [List.getElem?_toArray, List.getElem?_cons_succ, List.getElem?_cons_zero]; rfl)) (by kernel_rfl) (by kernel_rfl) (by kernel_rfl) (by decide) (by exact fun _ _ _ h => h) ⟨hHeld.1, .inr hHeld.2⟩ (Or.inl ⟨by rfl, ?_⟩) ?_
            rotate_left
            · (intro w' _; go_simp <;> with_reducible rfl)
            try simp only [Act.put, List.setIfInBounds_toArray, List.set_cons_zero, List.set_cons_succ]
            refine wpAnyF_take (i := 12) (v := ?_) (by (simp only [List.getElem?_toArray, List.getElem?_cons_succ, List.getElem?_cons_zero]; rfl)) (by kernel_rfl) (by kernel_rfl) (by kernel_rfl) (by decide) (by exact fun _ _ _ h => h) ⟨hHeld.1, .inr hHeld.2⟩ (Or.inl ⟨by rfl, ?_⟩) ?_
            rotate_left
            · (intro w' _; go_simp <;> with_reducible rfl)
            try simp only [Act.put, List.setIfInBounds_toArray, List.set_cons_zero, List.set_cons_succ]
            refine wpAnyF_ready (rs := [6]) (by kernel_rfl) (by simp) ?_
            refine AllReadyF.cons (by (simp only [List.getElem?_toArray, List.getElem?_cons_succ, List.getElem?_cons_zero]; rfl)) (fun K hK => ?_) AllReadyF.nil
            go_simp
            go_at_call 149
            refine (SB.out _ rXd hTd).mono ?_
            rintro e w6 ⟨g6, rfl, o6, b6⟩
            have g06 := cell_kept b6 g0d
            have r6 := Rd.of_own (k := .u8) (l := F) o6
            refine hK.out _ _ ⟨g06, trivial⟩ (fun hNew => ?_)
            clear hK K hHeld
            have hHeld := hNew
            clear hNew
            try simp only [Act.put, List.setIfInBounds_toArray, List.set_cons_zero, List.set_cons_succ]
            refine wpAnyF_ready (rs := [13]) (by kernel_rfl) (by simp) ?_
            refine AllReadyF.cons (by (simp only [List.getElem?_toArray, List.getElem?_cons_succ, List.getElem?_cons_zero]; rfl)) (fun K hK => ?_) AllReadyF.nil
            go_simp
            go_at_call 68
            refine (SM.out g6 _ r6 ((rY.below bDD).below (b6.mono (Nat.le_refl _))).lt).mono ?_
            rintro e w7 ⟨rfl, rfl⟩
            refine hK.out _ _ ⟨g06, trivial⟩ (fun hNew => ?_)
            clear hK K hHeld
            have hHeld := hNew
            clear hNew
            try simp only [Act.put, List.setIfInBounds_toArray, List.set_cons_zero, List.set_cons_succ]
            refine wpAnyF_ready (rs := [14]) (by kernel_rfl) (by simp) ?_
            refine AllReadyF.last (by (simp only [List.getElem?_toArray, List.getElem?_cons_succ, List.getElem?_cons_zero]; rfl)) (by kernel_rfl) (fun K hK => ?_) AllReadyF.nil
            go_simp
            go_at_call 146
            refine (must_yes 6 _).mono ?_
            rintro e w8 ⟨rfl, rfl⟩
            refine hK.out _ _ g06 ?_
            clear hK K
            try simp only [Act.put, List.setIfInBounds_toArray, List.set_cons_zero, List.set_cons_succ]
            refine wpAnyF_done (by kernel_rfl) ?_ _
            go_wp2
            go_end0
            first | exact ⟨.inl ⟨if_pos HSM.out, rfl⟩, bDD.trans b6⟩ | exact ⟨rfl, bDD.trans b6⟩
          · have hsb := sameB_no hsame
            have HSM := hide hsame
            clear hsame
            refine wp_region_F 14 (fun w' => w'.cell? ⟨g, 0, none⟩ = some (Value.slice A file.length c)) (fun w' => True) (by kernel_rfl) ⟨g0d, trivial⟩ (fun hHeld => ?_)
            try simp only [Act.put, List.setIfInBounds_toArray, List.set_cons_zero, List.set_cons_succ]
            refine wpAnyF_take (i := 0) (v := ?_) (by (simp only [List.getElem?_toArray, List.getElem?_cons_zero]; rfl)) (by kernel_rfl) (by kernel_rfl) (by kernel_rfl) (by decide) (by exact fun _ _ _ h => h) ⟨hHeld.1, .inr hHeld.2⟩ (Or.inl ⟨by rfl, ?_⟩) ?_
            rotate_left
            · (intro w' _; go_simp <;> with_reducible rfl)
            try simp only [Act.put, List.setIfInBounds_toArray, List.set_cons_zero, List.set_cons_succ]
            refine wpAnyF_take (i := 1) (v := ?_) (by (simp only [List.getElem?_toArray, List.getElem?_cons_succ, List.getElem?_cons_zero]; rfl)) (by kernel_rfl) (by kernel_rfl) (by kernel_rfl) (by decide) (by exact fun _ _ _ h => h) ⟨hHeld.1, .inr hHeld.2⟩ (Or.inl ⟨by rfl, ?_⟩) ?_
            rotate_left
            · (intro w' _; go_simp <;> with_reducible rfl)
            try simp only [Act.put, List.setIfInBounds_toArray, List.set_cons_zero, List.set_cons_succ]
            refine wpAnyF_take (i := 2) (v := ?_) (by (simp only [List.getElem?_toArray, List.getElem?_cons_succ, List.getElem?_cons_zero]; rfl)) (by kernel_rfl) (by kernel_rfl) (by kernel_rfl) (by decide) (by exact fun _ _ _ h => h) ⟨hHeld.1, .inr hHeld.2⟩ (Or.inl ⟨by rfl, ?_⟩) ?_
            rotate_left
            · (intro w' _; go_simp <;> with_reducible rfl)
            try simp only [Act.put, List.setIfInBounds_toArray, List.set_cons_zero, List.set_cons_succ]
            refine wpAnyF_keep (i := 3) (v := ?_) (by (simp only [List.getElem?_toArray, List.getElem?_cons_succ, List.getElem?_cons_zero]; rfl)) (by kernel_rfl) (by kernel_rfl) (by kernel_rfl) (by decide) (by exact fun _ _ _ h => h) ⟨hHeld.1, .inr hHeld.2⟩ (Or.inl ⟨by rfl, ?_⟩) ?_
            rotate_left
            · (intro w' hSw; (try dsimp only at hSw); obtain hSa0 := hSw; go_simp <;> with_reducible rfl)
            try simp only [Act.put, List.setIfInBounds_toArray, List.set_cons_zero, List.set_cons_succ]
            refine wpAnyF_take (i := 4) (v := ?_) (by (simp only [List.getElem?_toArray, List.getElem?_cons_succ, List.getElem?_cons_zero]; rfl)) (by kernel_rfl) (by kernel_rfl) (by kernel_rfl) (by decide) (by exact fun _ _ _ h => h) ⟨hHeld.1, .inr hHeld.2⟩ (Or.inl ⟨by rfl, ?_⟩) ?_
            rotate_left
            · (intro w' _; go_simp <;> with_reducible rfl)
            try simp only [Act.put, List.setIfInBounds_toArray, List.set_cons_zero, List.set_cons_succ]
            refine wpAnyF_take (i := 5) (v := ?_) (by (simp only [List.getElem?_toArray, List.getElem?_cons_succ, List.getElem?_cons_zero]; rfl)) (by kernel_rfl) (by kernel_rfl) (by kernel_rfl) (by decide) (by exact fun _ _ _ h => h) ⟨hHeld.1, .inr hHeld.2⟩ (Or.inl ⟨by rfl, ?_⟩) ?_
            rotate_left
            · (intro w' _; go_simp <;> with_reducible rfl)
            try simp only [Act.put, List.setIfInBounds_toArray, List.set_cons_zero, List.set_cons_succ]
            refine wpAnyF_take (i := 7) (v := ?_) (by (simp only [List.getElem?_toArray, List.getElem?_cons_succ, List.getElem?_cons_zero]; rfl)) (by kernel_rfl) (by kernel_rfl) (by kernel_rfl) (by decide) (by exact fun _ _ _ h => h) ⟨hHeld.1, .inr hHeld.2⟩ (Or.inl ⟨by rfl, ?_⟩) ?_
            rotate_left
            · (intro w' _; go_simp <;> with_reducible rfl)
            try simp only [Act.put, List.setIfInBounds_toArray, List.set_cons_zero, List.set_cons_succ]
            refine wpAnyF_take (i := 8) (v := ?_) (by (simp only [List.getElem?_toArray, List.getElem?_cons_succ, List.getElem?_cons_zero]; rfl)) (by kernel_rfl) (by kernel_rfl) (by kernel_rfl) (by decide) (by exact fun _ _ _ h => h) ⟨hHeld.1, .inr hHeld.2⟩ (Or.inl ⟨by rfl, ?_⟩) ?_
            rotate_left
            · (intro w' _; go_simp <;> with_reducible rfl)
            try simp only [Act.put, List.setIfInBounds_toArray, List.set_cons_zero, List.set_cons_succ]
            refine wpAnyF_take (i := 9) (v := ?_) (by (simp only [List.getElem?_toArray, List.getElem?_cons_succ, List.getElem?_cons_zero]; rfl)) (by kernel_rfl) (by kernel_rfl) (by kernel_rfl) (by decide) (by exact fun _ _ _ h => h) ⟨hHeld.1, .inr hHeld.2⟩ (Or.inl ⟨by rfl, ?_⟩) ?_
            rotate_left
            · (intro w' _; go_simp <;> with_reducible rfl)
            try simp only [Act.put, List.setIfInBounds_toArray, List.set_cons_zero, List.set_cons_succ]
            refine wpAnyF_keep (i := 10) (v := ?_) (by (simp only [List.getElem?_toArray, List.getElem?_cons_succ, List.getElem?_cons_zero]; rfl)) (by kernel_rfl) (by kernel_rfl) (by kernel_rfl) (by decide) (by exact fun _ _ _ h => h) ⟨hHeld.1, .inr hHeld.2⟩ (Or.inl ⟨by rfl, ?_⟩) ?_
            rotate_left
            · (intro w' hSw; (try dsimp only at hSw); obtain hSa0 := hSw; go_simp <;> with_reducible rfl)
            try simp only [Act.put, List.setIfInBounds_toArray, List.set_cons_zero, List.set_cons_succ]
            refine wpAnyF_take (i := 11) (v := ?_) (by (simp only [List.getElem?_toArray, List.getElem?_cons_succ, List.getElem?_cons_zero]; rfl)) (by kernel_rfl) (by kernel_rfl) (by kernel_rfl) (by decide) (by exact fun _ _ _ h => h) ⟨hHeld.1, .inr hHeld.2⟩ (Or.inl ⟨by rfl, ?_⟩) ?_
            rotate_left
            · (intro w' _; go_simp <;> with_reducible rfl)
            try simp only [Act.put, List.setIfInBounds_toArray, List.set_cons_zero, List.set_cons_succ]
            refine wpAnyF_take (i := 12) (v := ?_) (by (simp only [List.getElem?_toArray, List.getElem?_cons_succ, List.getElem?_cons_zero]; rfl)) (by kernel_rfl) (by kernel_rfl) (by kernel_rfl) (by decide) (by exact fun _ _ _ h => h) ⟨hHeld.1, .inr hHeld.2⟩ (Or.inl ⟨by rfl, ?_⟩) ?_
            rotate_left
            · (intro w' _; go_simp <;> with_reducible rfl)
            try simp only [Act.put, List.setIfInBounds_toArray, List.set_cons_zero, List.set_cons_succ]
            refine wpAnyF_ready (rs := [6]) (by kernel_rfl) (by simp) ?_
            refine AllReadyF.cons (by (simp only [List.getElem?_toArray, List.getElem?_cons_succ, List.getElem?_cons_zero]; rfl)) (fun K hK => ?_) AllReadyF.nil
            go_simp
            go_at_call 149
            refine (SB.out _ rXd hTd).mono ?_
            rintro e w6 ⟨g6, rfl, o6, b6⟩
            have g06 := cell_kept b6 g0d
            have r6 := Rd.of_own (k := .u8) (l := F) o6
            refine hK.out _ _ ⟨g06, trivial⟩ (fun hNew => ?_)
            clear hK K hHeld
            have hHeld := hNew
            clear hNew
            try simp only [Act.put, List.setIfInBounds_toArray, List.set_cons_zero, List.set_cons_succ]
            refine wpAnyF_ready (rs := [13]) (by kernel_rfl) (by simp) ?_
            refine AllReadyF.cons (by (simp only [List.getElem?_toArray, List.getElem?_cons_succ, List.getElem?_cons_zero]; rfl)) (fun K hK => ?_) AllReadyF.nil
            go_simp
            go_at_call 68
            refine (SM.out g6 _ r6 ((rY.below bDD).below (b6.mono (Nat.le_refl _))).lt).mono ?_
            rintro e w7 ⟨rfl, rfl⟩
            refine hK.out _ _ ⟨g06, trivial⟩ (fun hNew => ?_)
            clear hK K hHeld
            have hHeld := hNew
            clear hNew
            try simp only [Act.put, List.setIfInBounds_toArray, List.set_cons_zero, List.set_cons_succ]
            refine wpAnyF_ready (rs := [14]) (by kernel_rfl) (by simp) ?_
            refine AllReadyF.last (by (simp only [List.getElem?_toArray, List.getElem?_cons_succ, List.getElem?_cons_zero]; rfl)) (by kernel_rfl) (fun K hK => ?_) AllReadyF.nil
            go_simp
            go_at_call 146
            refine (must_no 6 _).mono ?_
            rintro e w8 ⟨rfl, rfl⟩
            first | exact ⟨rfl, .inr ⟨by rw [if_neg HSM.out]; decide, by rw [if_neg HSM.out]⟩, bDD.trans b6⟩ | exact ⟨rfl, rfl, bDD.trans b6⟩
        · have HC : Hid (dcEnd file at_ cs n = 1) := hide (dcEnd_form H1.out (fun h => by have a := (H2.out.1 (by rw [hev]; exact h)).2; exact e2 a))
          rw [HC.out]
          have t1 : (v1 == (n : Int)) = true := beq_iff_eq.2 e1
          have t2 : (v2 == (ev : Int)) = false := beq_eq_false_iff_ne.2 e2
          clear e1 e2 hev
          go_enter Tryz.func78, Tryz.ntmps78
          go_wp2_with fail
          refine (must_yes 5 _).mono ?_
          rintro e w1 ⟨rfl, rfl⟩
          obtain ⟨w, rfl⟩ : ∃ w, w = w1 := ⟨_, rfl⟩
          go_wp2
          refine wp_region_F 26 (fun w' => w'.cell? ⟨g, 1, none⟩ = some (Value.slice (some ⟨bk, off, none⟩) 7 c2) ∧ w'.cell? ⟨bk, off + 1, none⟩ = some (.int .u8 v1) ∧ w'.cell? ⟨bk, off + 2, none⟩ = some (.int .u8 v2) ∧ w'.cell? ⟨g, 3, none⟩ = some (Value.int .i64 n) ∧ w'.cell? ⟨g, 4, none⟩ = some (Value.int .i64 ev)) (fun w' => True) (by kernel_rfl) ⟨⟨p0, p1, p2, p3, p4⟩, trivial⟩ (fun hHeld => ?_)
          try simp only [Act.put, List.setIfInBounds_toArray, List.set_cons_zero, List.set_cons_succ]
          refine wpAnyF_take (i := 0) (v := ?_) (by (simp only [List.getElem?_toArray, List.getElem?_cons_zero]; rfl)) (by kernel_rfl) (by kernel_rfl) (by kernel_rfl) (by decide) (by exact fun _ _ _ h => h) ⟨hHeld.1, .inr hHeld.2⟩ (Or.inl ⟨by rfl, ?_⟩) ?_
          rotate_left
          · (intro w' _; go_simp <;> with_reducible rfl)
          try simp only [Act.put, List.setIfInBounds_toArray, List.set_cons_zero, List.set_cons_succ]
          refine wpAnyF_take (i := 1) (v := ?_) (by (simp only [List.getElem?_toArray, List.getElem?_cons_succ, List.getElem?_cons_zero]; rfl)) (by kernel_rfl) (by kernel_rfl) (by kernel_rfl) (by decide) (by exact fun _ _ _ h => h) ⟨hHeld.1, .inr hHeld.2⟩ (Or.inl ⟨by rfl, ?_⟩) ?_
          rotate_left
          · (intro w' _; go_simp <;> with_reducible rfl)
          try simp only [Act.put, List.setIfInBounds_toArray, List.set_cons_zero, List.set_cons_succ]
          refine wpAnyF_take (i := 2) (v := ?_) (by (simp only [List.getElem?_toArray, List.getElem?_cons_succ, List.getElem?_cons_zero]; rfl)) (by kernel_rfl) (by kernel_rfl) (by kernel_rfl) (by decide) (by exact fun _ _ _ h => h) ⟨hHeld.1, .inr hHeld.2⟩ (Or.inl ⟨by rfl, ?_⟩) ?_
          rotate_left
          · (intro w' _; go_simp <;> with_reducible rfl)
          try simp only [Act.put, List.setIfInBounds_toArray, List.set_cons_zero, List.set_cons_succ]
          refine wpAnyF_keep (i := 3) (v := ?_) (by (simp only [List.getElem?_toArray, List.getElem?_cons_succ, List.getElem?_cons_zero]; rfl)) (by kernel_rfl) (by kernel_rfl) (by kernel_rfl) (by decide) (by exact fun _ _ _ h => h) ⟨hHeld.1, .inr hHeld.2⟩ (Or.inl ⟨by rfl, ?_⟩) ?_
          rotate_left
          · (intro w' hSw; (try dsimp only at hSw); obtain ⟨hSa0, hSa1, hSa2, hSa3, hSa4⟩ := hSw; go_simp <;> with_reducible rfl)
          try simp only [Act.put, List.setIfInBounds_toArray, List.set_cons_zero, List.set_cons_succ]
          refine wpAnyF_take (i := 4) (v := ?_) (by (simp only [List.getElem?_toArray, List.getElem?_cons_succ, List.getElem?_cons_zero]; rfl)) (by kernel_rfl) (by kernel_rfl) (by kernel_rfl) (by decide) (by exact fun _ _ _ h => h) ⟨hHeld.1, .inr hHeld.2⟩ (Or.inl ⟨by rfl, ?_⟩) ?_
          rotate_left
          · (intro w' _; go_simp <;> with_reducible rfl)
          try simp only [Act.put, List.setIfInBounds_toArray, List.set_cons_zero, List.set_cons_succ]
          refine wpAnyF_keep (i := 5) (v := ?_) (by (simp only [List.getElem?_toArray, List.getElem?_cons_succ, List.getElem?_cons_zero]; rfl)) (by kernel_rfl) (by kernel_rfl) (by kernel_rfl) (by decide) (by exact fun _ _ _ h => h) ⟨hHeld.1, .inr hHeld.2⟩ (Or.inl ⟨by rfl, ?_⟩) ?_
          rotate_left
          · (intro w' hSw; (try dsimp only at hSw); obtain ⟨hSa0, hSa1, hSa2, hSa3, hSa4⟩ := hSw; go_simp <;> with_reducible rfl)
          try simp only [Act.put, List.setIfInBounds_toArray, List.set_cons_zero, List.set_cons_succ]
          refine wpAnyF_take (i := 6) (v := ?_) (by (simp only [List.getElem?_toArray, List.getElem?_cons_succ, List.getElem?_cons_zero]; rfl)) (by kernel_rfl) (by kernel_rfl) (by kernel_rfl) (by decide) (by exact fun _ _ _ h => h) ⟨hHeld.1, .inr hHeld.2⟩ (Or.inl ⟨by rfl, ?_⟩) ?_
          rotate_left
          · (intro w' _; go_simp <;> with_reducible rfl)
          try simp only [Act.put, List.setIfInBounds_toArray, List.set_cons_zero, List.set_cons_succ]
          refine wpAnyF_take (i := 7) (v := ?_) (by (simp only [List.getElem?_toArray, List.getElem?_cons_succ, List.getElem?_cons_zero]; rfl)) (by kernel_rfl) (by kernel_rfl) (by kernel_rfl) (by decide) (by exact fun _ _ _ h => h) ⟨hHeld.1, .inr hHeld.2⟩ (Or.inl ⟨by rfl, ?_⟩) ?_
          rotate_left
          · (intro w' _; go_simp <;> with_reducible rfl)
          try simp only [Act.put, List.setIfInBounds_toArray, List.set_cons_zero, List.set_cons_succ]
          refine wpAnyF_take (i := 8) (v := ?_) (by (simp only [List.getElem?_toArray, List.getElem?_cons_succ, List.getElem?_cons_zero]; rfl)) (by kernel_rfl) (by kernel_rfl) (by kernel_rfl) (by decide) (by exact fun _ _ _ h => h) ⟨hHeld.1, .inr hHeld.2⟩ (Or.inl ⟨by rfl, ?_⟩) ?_
          rotate_left
          · (intro w' _; go_simp <;> with_reducible rfl)
          try simp only [Act.put, List.setIfInBounds_toArray, List.set_cons_zero, List.set_cons_succ]
          refine wpAnyF_take (i := 9) (v := ?_) (by (simp only [List.getElem?_toArray, List.getElem?_cons_succ, List.getElem?_cons_zero]; rfl)) (by kernel_rfl) (by kernel_rfl) (by kernel_rfl) (by decide) (by exact fun _ _ _ h => h) ⟨hHeld.1, .inr hHeld.2⟩ (Or.inl ⟨by rfl, ?_⟩) ?_
          rotate_left
          · (intro w' _; go_simp <;> with_reducible rfl)
          try simp only [Act.put, List.setIfInBounds_toArray, List.set_cons_zero, List.set_cons_succ]
          refine wpAnyF_keep (i := 10) (v := ?_) (by (simp only [List.getElem?_toArray, List.getElem?_cons_succ, List.getElem?_cons_zero]; rfl)) (by kernel_rfl) (by kernel_rfl) (by kernel_rfl) (by decide) (by exact fun _ _ _ h => h) ⟨hHeld.1, .inr hHeld.2⟩ (Or.inl ⟨by rfl, ?_⟩) ?_
          rotate_left
          · (intro w' hSw; (try dsimp only at hSw); obtain ⟨hSa0, hSa1, hSa2, hSa3, hSa4⟩ := hSw; go_simp <;> with_reducible rfl)
          try simp only [Act.put, List.setIfInBounds_toArray, List.set_cons_zero, List.set_cons_succ]
          refine wpAnyF_take (i := 11) (v := ?_) (by (simp only [List.getElem?_toArray, List.getElem?_cons_succ, List.getElem?_cons_zero]; rfl)) (by kernel_rfl) (by kernel_rfl) (by kernel_rfl) (by decide) (by exact fun _ _ _ h => h) ⟨hHeld.1, .inr hHeld.2⟩ (Or.inl ⟨by rfl, ?_⟩) ?_
          rotate_left
          · (intro w' _; go_simp <;> with_reducible rfl)
          try simp only [Act.put, List.setIfInBounds_toArray, List.set_cons_zero, List.set_cons_succ]
          refine wpAnyF_take (i := 12) (v := ?_) (by (simp only [List.getElem?_toArray, List.getElem?_cons_succ, List.getElem?_cons_zero]; rfl)) (by kernel_rfl) (by kernel_rfl) (by kernel_rfl) (by decide) (by exact fun _ _ _ h => h) ⟨hHeld.1, .inr hHeld.2⟩ (Or.inl ⟨by rfl, ?_⟩) ?_
          rotate_left
          · (intro w' _; go_simp <;> with_reducible rfl)
          try simp only [Act.put, List.setIfInBounds_toArray, List.set_cons_zero, List.set_cons_succ]
          refine wpAnyF_take (i := 13) (v := ?_) (by (simp only [List.getElem?_toArray, List.getElem?_cons_succ, List.getElem?_cons_zero]; rfl)) (by kernel_rfl) (by kernel_rfl) (by kernel_rfl) (by decide) (by exact fun _ _ _ h => h) ⟨hHeld.1, .inr hHeld.2⟩ (Or.inl ⟨by rfl, ?_⟩) ?_
          rotate_left
          · (intro w' _; go_simp <;> with_reducible rfl)
          try simp only [Act.put, List.setIfInBounds_toArray, List.set_cons_zero, List.set_cons_succ]
          refine wpAnyF_take (i := 14) (v := ?_) (by (simp only [List.getElem?_toArray, List.getElem?_cons_succ, List.getElem?_cons_zero]; rfl)) (by kernel_rfl) (by kernel_rfl) (by kernel_rfl) (by decide) (by exact fun _ _ _ h => h) ⟨hHeld.1, .inr hHeld.2⟩ (Or.inl ⟨by rfl, ?_⟩) ?_
          rotate_left
          · (intro w' _; go_simp <;> with_reducible rfl)
          try simp only [Act.put, List.setIfInBounds_toArray, List.set_cons_zero, List.set_cons_succ]
          refine wpAnyF_take (i := 15) (v := ?_) (by (simp only [List.getElem?_toArray, List.getElem?_cons_succ, List.getElem?_cons_zero]; rfl)) (by kernel_rfl) (by kernel_rfl) (by kernel_rfl) (by decide) (by exact fun _ _ _ h => h) ⟨hHeld.1, .inr hHeld.2⟩ (Or.inl ⟨by rfl, ?_⟩) ?_
          rotate_left
          · (intro w' _; go_simp <;> with_reducible rfl)
          try simp only [Act.put, List.setIfInBounds_toArray, List.set_cons_zero, List.set_cons_succ]
          refine wpAnyF_keep (i := 16) (v := ?_) (by (simp only [List.getElem?_toArray, List.getElem?_cons_succ, List.getElem?_cons_zero]; rfl)) (by kernel_rfl) (by kernel_rfl) (by kernel_rfl) (by decide) (by exact fun _ _ _ h => h) ⟨hHeld.1, .inr hHeld.2⟩ (Or.inl ⟨by rfl, ?_⟩) ?_
          rotate_left
          · (intro w' hSw; (try dsimp only at hSw); obtain ⟨hSa0, hSa1, hSa2, hSa3, hSa4⟩ := hSw; go_simp <;> with_reducible rfl)
          try simp only [Act.put, List.setIfInBounds_toArray, List.set_cons_zero, List.set_cons_succ]
          refine wpAnyF_take (i := 17) (v := ?_) (by (simp only [List.getElem?_toArray, List.getElem?_cons_succ, List.getElem?_cons_zero]; rfl)) (by kernel_rfl) (by kernel_rfl) (by kernel_rfl) (by decide) (by exact fun _ _ _ h => h) ⟨hHeld.1, .inr hHeld.2⟩ (Or.inl ⟨by rfl, ?_⟩) ?_
          rotate_left
          · (intro w' _; go_simp <;> with_reducible rfl)
          try simp only [Act.put, List.setIfInBounds_toArray, List.set_cons_zero, List.set_cons_succ]
          refine wpAnyF_keep (i := 18) (v := ?_) (by (simp only [List.getElem?_toArray, List.getElem?_cons_succ, List.getElem?_cons_zero]; rfl)) (by kernel_rfl) (by kernel_rfl) (by kernel_rfl) (by decide) (by exact fun _ _ _ h => h) ⟨hHeld.1, .inr hHeld.2⟩ (Or.inl ⟨by rfl, ?_⟩) ?_
          rotate_left
          · (intro w' hSw; (try dsimp only at hSw); obtain ⟨hSa0, hSa1, hSa2, hSa3, hSa4⟩ := hSw; go_simp <;> with_reducible rfl)
          try simp only [Act.put, List.setIfInBounds_toArray, List.set_cons_zero, List.set_cons_succ]
          refine wpAnyF_take (i := 19) (v := ?_) (by (simp only [List.getElem?_toArray, List.getElem?_cons_succ, List.getElem?_cons_zero]; rfl)) (by kernel_rfl) (by kernel_rfl) (by kernel_rfl) (by decide) (by exact fun _ _ _ h => h) ⟨hHeld.1, .inr hHeld.2⟩ (Or.inl ⟨by rfl, ?_⟩) ?_
          rotate_left
          · (intro w' _; go_simp <;> with_reducible rfl)
          try simp only [Act.put, List.setIfInBounds_toArray, List.set_cons_zero, List.set_cons_succ]
          refine wpAnyF_take (i := 20) (v := ?_) (by (simp only [List.getElem?_toArray, List.getElem?_cons_succ, List.getElem?_cons_zero]; rfl)) (by kernel_rfl) (by kernel_rfl) (by kernel_rfl) (by decide) (by exact fun _ _ _ h => h) ⟨hHeld.1, .inr hHeld.2⟩ (Or.inl ⟨by rfl, ?_⟩) ?_
          rotate_left
          · (intro w' _; go_simp <;> with_reducible rfl)
          try simp only [Act.put, List.setIfInBounds_toArray, List.set_cons_zero, List.set_cons_succ]
          refine wpAnyF_take (i := 21) (v := ?_) (by (simp only [List.getElem?_toArray, List.getElem?_cons_succ, List.getElem?_cons_zero]; rfl)) (by kernel_rfl) (by kernel_rfl) (by kernel_rfl) (by decide) (by exact fun _ _ _ h => h) ⟨hHeld.1, .inr hHeld.2⟩ (Or.inl ⟨by rfl, ?_⟩) ?_
          rotate_left
          · (intro w' _; go_simp <;> with_reducible rfl)
          try simp only [Act.put, List.setIfInBounds_toArray, List.set_cons_zero, List.set_cons_succ]
          refine wpAnyF_take (i := 22) (v := ?_) (by (simp only [List.getElem?_toArray, List.getElem?_cons_succ, List.getElem?_cons_zero]; rfl)) (by kernel_rfl) (by kernel_rfl) (by kernel_rfl) (by decide) (by exact fun _ _ _ h => h) ⟨hHeld.1, .inr hHeld.2⟩ (Or.inl ⟨by rfl, ?_⟩) ?_
          rotate_left
          · (intro w' _; go_simp <;> with_reducible rfl)
          try simp only [Act.put, List.setIfInBounds_toArray, List.set_cons_zero, List.set_cons_succ]
          refine wpAnyF_keep (i := 23) (v := ?_) (by (simp only [List.getElem?_toArray, List.getElem?_cons_succ, List.getElem?_cons_zero]; rfl)) (by kernel_rfl) (by kernel_rfl) (by kernel_rfl) (by decide) (by exact fun _ _ _ h => h) ⟨hHeld.1, .inr hHeld.2⟩ (Or.inl ⟨by rfl, ?_⟩) ?_
          rotate_left
          · (intro w' hSw; (try dsimp only at hSw); obtain ⟨hSa0, hSa1, hSa2, hSa3, hSa4⟩ := hSw; go_simp <;> with_reducible rfl)
          try simp only [Act.put, List.setIfInBounds_toArray, List.set_cons_zero, List.set_cons_succ]
          refine wpAnyF_take (i := 24) (v := ?_) (by (simp only [List.getElem?_toArray, List.getElem?_cons_succ, List.getElem?_cons_zero]; rfl)) (by kernel_rfl) (by kernel_rfl) (by kernel_rfl) (by decide) (by exact fun _ _ _ h => h) ⟨hHeld.1, .inr hHeld.2⟩ (Or.inl ⟨by rfl, ?_⟩) ?_
          rotate_left
          · (intro w' _; go_simp <;> with_reducible rfl)
          try simp only [Act.put, List.setIfInBounds_toArray, List.set_cons_zero, List.set_cons_succ]
          refine wpAnyF_take (i := 25) (v := ?_) (by (simp only [List.getElem?_toArray, List.getElem?_cons_succ, List.getElem?_cons_zero]; rfl)) (by kernel_rfl) (by kernel_rfl) (by kernel_rfl) (by decide) (by exact fun _ _ _ h => h) ⟨hHeld.1, .inr hHeld.2⟩ (Or.inl ⟨by rfl, ?_⟩) ?_
          rotate_left
          · (intro w' _; go_simp <;> with_reducible rfl)
          try simp only [Act.put, List.setIfInBounds_toArray, List.set_cons_zero, List.set_cons_succ]
          refine wpAnyF_ready (rs := [26]) (by kernel_rfl) (by simp) ?_
          refine AllReadyF.last (by (simp only [List.getElem?_toArray, List.getElem?_cons_succ, List.getElem?_cons_zero]; rfl)) (by kernel_rfl) (fun K hK => ?_) AllReadyF.nil
          go_simp
          go_at_call 146
          refine (must_no 1 _).mono ?_
          rintro e w3 ⟨rfl, rfl⟩
          exact ⟨rfl, .inr ⟨by decide, rfl⟩, bD⟩
      · have HC : Hid (dcEnd file at_ cs n = 1) := hide (dcEnd_form H1.out (fun h => by have a := (H2.out.1 (by rw [hev]; exact h)).1; exact e1 a))
        rw [HC.out]
        have t1 : (v1 == (n : Int)) = false := beq_eq_false_iff_ne.2 e1
        clear e1 hev
        go_enter Tryz.func78, Tryz.ntmps78
        go_wp2_with fail
        refine (must_yes 5 _).mono ?_
        rintro e w1 ⟨rfl, rfl⟩
        obtain ⟨w, rfl⟩ : ∃ w, w = w1 := ⟨_, rfl⟩
        go_wp2
        refine wp_region_F 26 (fun w' => w'.cell? ⟨g, 1, none⟩ = some (Value.slice (some ⟨bk, off, none⟩) 7 c2) ∧ w'.cell? ⟨bk, off + 1, none⟩ = some (.int .u8 v1) ∧ w'.cell? ⟨bk, off + 2, none⟩ = some (.int .u8 v2) ∧ w'.cell? ⟨g, 3, none⟩ = some (Value.int .i64 n) ∧ w'.cell? ⟨g, 4, none⟩ = some (Value.int .i64 ev)) (fun w' => True) (by kernel_rfl) ⟨⟨p0, p1, p2, p3, p4⟩, trivial⟩ (fun hHeld => ?_)
        try simp only [Act.put, List.setIfInBounds_toArray, List.set_cons_zero, List.set_cons_succ]
        refine wpAnyF_take (i := 0) (v := ?_) (by (simp only [List.getElem?_toArray, List.getElem?_cons_zero]; rfl)) (by kernel_rfl) (by kernel_rfl) (by kernel_rfl) (by decide) (by exact fun _ _ _ h => h) ⟨hHeld.1, .inr hHeld.2⟩ (Or.inl ⟨by rfl, ?_⟩) ?_
        rotate_left
        · (intro w' _; go_simp <;> with_reducible rfl)
        try simp only [Act.put, List.setIfInBounds_toArray, List.set_cons_zero, List.set_cons_succ]
        refine wpAnyF_take (i := 1) (v := ?_) (by (simp only [List.getElem?_toArray, List.getElem?_cons_succ, List.getElem?_cons_zero]; rfl)) (by kernel_rfl) (by kernel_rfl) (by kernel_rfl) (by decide) (by exact fun _ _ _ h => h) ⟨hHeld.1, .inr hHeld.2⟩ (Or.inl ⟨by rfl, ?_⟩) ?_
        rotate_left
        · (intro w' _; go_simp <;> with_reducible rfl)
        try simp only [Act.put, List.setIfInBounds_toArray, List.set_cons_zero, List.set_cons_succ]
        refine wpAnyF_take (i := 2) (v := ?_) (by (simp only [List.getElem?_toArray, List.getElem?_cons_succ, List.getElem?_cons_zero]; rfl)) (by kernel_rfl) (by kernel_rfl) (by kernel_rfl) (by decide) (by exact fun _ _ _ h => h) ⟨hHeld.1, .inr hHeld.2⟩ (Or.inl ⟨by rfl, ?_⟩) ?_
        rotate_left
        · (intro w' _; go_simp <;> with_reducible rfl)
        try simp only [Act.put, List.setIfInBounds_toArray, List.set_cons_zero, List.set_cons_succ]
        refine wpAnyF_keep (i := 3) (v := ?_) (by (simp only [List.getElem?_toArray, List.getElem?_cons_succ, List.getElem?_cons_zero]; rfl)) (by kernel_rfl) (by kernel_rfl) (by kernel_rfl) (by decide) (by exact fun _ _ _ h => h) ⟨hHeld.1, .inr hHeld.2⟩ (Or.inl ⟨by rfl, ?_⟩) ?_
        rotate_left
        · (intro w' hSw; (try dsimp only at hSw); obtain ⟨hSa0, hSa1, hSa2, hSa3, hSa4⟩ := hSw; go_simp <;> with_reducible rfl)
        try simp only [Act.put, List.setIfInBounds_toArray, List.set_cons_zero, List.set_cons_succ]
        refine wpAnyF_take (i := 4) (v := ?_) (by (simp only [List.getElem?_toArray, List.getElem?_cons_succ, List.getElem?_cons_zero]; rfl)) (by kernel_rfl) (by kernel_rfl) (by kernel_rfl) (by decide) (by exact fun _ _ _ h => h) ⟨hHeld.1, .inr hHeld.2⟩ (Or.inl ⟨by rfl, ?_⟩) ?_
        rotate_left
        · (intro w' _; go_simp <;> with_reducible rfl)
        try simp only [Act.put, List.setIfInBounds_toArray, List.set_cons_zero, List.set_cons_succ]
        refine wpAnyF_keep (i := 5) (v := ?_) (by (simp only [List.getElem?_toArray, List.getElem?_cons_succ, List.getElem?_cons_zero]; rfl)) (by kernel_rfl) (by kernel_rfl) (by kernel_rfl) (by decide) (by exact fun _ _ _ h => h) ⟨hHeld.1, .inr hHeld.2⟩ (Or.inl ⟨by rfl, ?_⟩) ?_
        rotate_left
        · (intro w' hSw; (try dsimp only at hSw); obtain ⟨hSa0, hSa1, hSa2, hSa3, hSa4⟩ := hSw; go_simp <;> with_reducible rfl)
        try simp only [Act.put, List.setIfInBounds_toArray, List.set_cons_zero, List.set_cons_succ]
        refine wpAnyF_take (i := 6) (v := ?_) (by (simp only [List.getElem?_toArray, List.getElem?_cons_succ, List.getElem?_cons_zero]; rfl)) (by kernel_rfl) (by kernel_rfl) (by kernel_rfl) (by decide) (by exact fun _ _ _ h => h) ⟨hHeld.1, .inr hHeld.2⟩ (Or.inl ⟨by rfl, ?_⟩) ?_
        rotate_left
        · (intro w' _; go_simp <;> with_reducible rfl)
        try simp only [Act.put, List.setIfInBounds_toArray, List.set_cons_zero, List.set_cons_succ]
        refine wpAnyF_take (i := 7) (v := ?_) (by (simp only [List.getElem?_toArray, List.getElem?_cons_succ, List.getElem?_cons_zero]; rfl)) (by kernel_rfl) (by kernel_rfl) (by kernel_rfl) (by decide) (by exact fun _ _ _ h => h) ⟨hHeld.1, .inr hHeld.2⟩ (Or.inl ⟨by rfl, ?_⟩) ?_
        rotate_left
        · (intro w' _; go_simp <;> with_reducible rfl)
        try simp only [Act.put, List.setIfInBounds_toArray, List.set_cons_zero, List.set_cons_succ]
        refine wpAnyF_take (i := 8) (v := ?_) (by (simp only [List.getElem?_toArray, List.getElem?_cons_succ, List.getElem?_cons_zero]; rfl)) (by kernel_rfl) (by kernel_rfl) (by kernel_rfl) (by decide) (by exact fun _ _ _ h => h) ⟨hHeld.1, .inr hHeld.2⟩ (Or.inl ⟨by rfl, ?_⟩) ?_
        rotate_left
        · (intro w' _; go_simp <;> with_reducible rfl)
        try simp only [Act.put, List.setIfInBounds_toArray, List.set_cons_zero, List.set_cons_succ]
        refine wpAnyF_take (i := 9) (v := ?_) (by (simp only [List.getElem?_toArray, List.getElem?_cons_succ, List.getElem?_cons_zero]; rfl)) (by kernel_rfl) (by kernel_rfl) (by kernel_rfl) (by decide) (by exact fun _ _ _ h => h) ⟨hHeld.1, .inr hHeld.2⟩ (Or.inl ⟨by rfl, ?_⟩) ?_
        rotate_left
        · (intro w' _; go_simp <;> with_reducible rfl)
        try simp only [Act.put, List.setIfInBounds_toArray, List.set_cons_zero, List.set_cons_succ]
        refine wpAnyF_keep (i := 10) (v := ?_) (by (simp only [List.getElem?_toArray, List.getElem?_cons_succ, List.getElem?_cons_zero]; rfl)) (by kernel_rfl) (by kernel_rfl) (by kernel_rfl) (by decide) (by exact fun _ _ _ h => h) ⟨hHeld.1, .inr hHeld.2⟩ (Or.inl ⟨by rfl, ?_⟩) ?_
        rotate_left
        · (intro w' hSw; (try dsimp only at hSw); obtain ⟨hSa0, hSa1, hSa2, hSa3, hSa4⟩ := hSw; go_simp <;> with_reducible rfl)
        try simp only [Act.put, List.setIfInBounds_toArray, List.set_cons_zero, List.set_cons_succ]
        refine wpAnyF_take (i := 11) (v := ?_) (by (simp only [List.getElem?_toArray, List.getElem?_cons_succ, List.getElem?_cons_zero]; rfl)) (by kernel_rfl) (by kernel_rfl) (by kernel_rfl) (by decide) (by exact fun _ _ _ h => h) ⟨hHeld.1, .inr hHeld.2⟩ (Or.inl ⟨by rfl, ?_⟩) ?_
        rotate_left
        · (intro w' _; go_simp <;> with_reducible rfl)
        try simp only [Act.put, List.setIfInBounds_toArray, List.set_cons_zero, List.set_cons_succ]
        refine wpAnyF_take (i := 12) (v := ?_) (by (simp only [List.getElem?_toArray, List.getElem?_cons_succ, List.getElem?_cons_zero]; rfl)) (by kernel_rfl) (by kernel_rfl) (by kernel_rfl) (by decide) (by exact fun _ _ _ h => h) ⟨hHeld.1, .inr hHeld.2⟩ (Or.inl ⟨by rfl, ?_⟩) ?_
        rotate_left
        · (intro w' _; go_simp <;> with_reducible rfl)
        try simp only [Act.put, List.setIfInBounds_toArray, List.set_cons_zero, List.set_cons_succ]
        refine wpAnyF_take (i := 13) (v := undef) (by (simp only [List.getElem?_toArray, List.getElem?_cons_succ, List.getElem?_cons_zero]; rfl)) (by kernel_rfl) (by kernel_rfl) (by kernel_rfl) (by decide) (by exact fun _ _ _ h => h) ⟨hHeld.1, .inr hHeld.2⟩ (Or.inr ⟨by rfl, rfl⟩) ?_
        try simp only [Act.put, List.setIfInBounds_toArray, List.set_cons_zero, List.set_cons_succ]
        refine wpAnyF_take (i := 14) (v := undef) (by (simp only [List.getElem?_toArray, List.getElem?_cons_succ, List.getElem?_cons_zero]; rfl)) (by kernel_rfl) (by kernel_rfl) (by kernel_rfl) (by decide) (by exact fun _ _ _ h => h) ⟨hHeld.1, .inr hHeld.2⟩ (Or.inr ⟨by rfl, rfl⟩) ?_
        try simp only [Act.put, List.setIfInBounds_toArray, List.set_cons_zero, List.set_cons_succ]
        refine wpAnyF_take (i := 15) (v := undef) (by (simp only [List.getElem?_toArray, List.getElem?_cons_succ, List.getElem?_cons_zero]; rfl)) (by kernel_rfl) (by kernel_rfl) (by kernel_rfl) (by decide) (by exact fun _ _ _ h => h) ⟨hHeld.1, .inr hHeld.2⟩ (Or.inr ⟨by rfl, rfl⟩) ?_
        try simp only [Act.put, List.setIfInBounds_toArray, List.set_cons_zero, List.set_cons_succ]
        refine wpAnyF_take (i := 16) (v := undef) (by (simp only [List.getElem?_toArray, List.getElem?_cons_succ, List.getElem?_cons_zero]; rfl)) (by kernel_rfl) (by kernel_rfl) (by kernel_rfl) (by decide) (by exact fun _ _ _ h => h) ⟨hHeld.1, .inr hHeld.2⟩ (Or.inr ⟨by rfl, rfl⟩) ?_
        try simp only [Act.put, List.setIfInBounds_toArray, List.set_cons_zero, List.set_cons_succ]
        refine wpAnyF_take (i := 17) (v := undef) (by (simp only [List.getElem?_toArray, List.getElem?_cons_succ, List.getElem?_cons_zero]; rfl)) (by kernel_rfl) (by kernel_rfl) (by kernel_rfl) (by decide) (by exact fun _ _ _ h => h) ⟨hHeld.1, .inr hHeld.2⟩ (Or.inr ⟨by rfl, rfl⟩) ?_
        try simp only [Act.put, List.setIfInBounds_toArray, List.set_cons_zero, List.set_cons_succ]
        refine wpAnyF_take (i := 18) (v := undef) (by (simp only [List.getElem?_toArray, List.getElem?_cons_succ, List.getElem?_cons_zero]; rfl)) (by kernel_rfl) (by kernel_rfl) (by kernel_rfl) (by decide) (by exact fun _ _ _ h => h) ⟨hHeld.1, .inr hHeld.2⟩ (Or.inr ⟨by rfl, rfl⟩) ?_
        try simp only [Act.put, List.setIfInBounds_toArray, List.set_cons_zero, List.set_cons_succ]
        refine wpAnyF_take (i := 19) (v := undef) (by (simp only [List.getElem?_toArray, List.getElem?_cons_succ, List.getElem?_cons_zero]; rfl)) (by kernel_rfl) (by kernel_rfl) (by kernel_rfl) (by decide) (by exact fun _ _ _ h => h) ⟨hHeld.1, .inr hHeld.2⟩ (Or.inr ⟨by rfl, rfl⟩) ?_
        try simp only [Act.put, List.setIfInBounds_toArray, List.set_cons_zero, List.set_cons_succ]
        refine wpAnyF_take (i := 20) (v := undef) (by (simp only [List.getElem?_toArray, List.getElem?_cons_succ, List.getElem?_cons_zero]; rfl)) (by kernel_rfl) (by kernel_rfl) (by kernel_rfl) (by decide) (by exact fun _ _ _ h => h) ⟨hHeld.1, .inr hHeld.2⟩ (Or.inr ⟨by rfl, rfl⟩) ?_
        try simp only [Act.put, List.setIfInBounds_toArray, List.set_cons_zero, List.set_cons_succ]
        refine wpAnyF_take (i := 21) (v := undef) (by (simp only [List.getElem?_toArray, List.getElem?_cons_succ, List.getElem?_cons_zero]; rfl)) (by kernel_rfl) (by kernel_rfl) (by kernel_rfl) (by decide) (by exact fun _ _ _ h => h) ⟨hHeld.1, .inr hHeld.2⟩ (Or.inr ⟨by rfl, rfl⟩) ?_
        try simp only [Act.put, List.setIfInBounds_toArray, List.set_cons_zero, List.set_cons_succ]
        refine wpAnyF_take (i := 22) (v := undef) (by (simp only [List.getElem?_toArray, List.getElem?_cons_succ, List.getElem?_cons_zero]; rfl)) (by kernel_rfl) (by kernel_rfl) (by kernel_rfl) (by decide) (by exact fun _ _ _ h => h) ⟨hHeld.1, .inr hHeld.2⟩ (Or.inr ⟨by rfl, rfl⟩) ?_
        try simp only [Act.put, List.setIfInBounds_toArray, List.set_cons_zero, List.set_cons_succ]
        refine wpAnyF_take (i := 23) (v := undef) (by (simp only [List.getElem?_toArray, List.getElem?_cons_succ, List.getElem?_cons_zero]; rfl)) (by kernel_rfl) (by kernel_rfl) (by kernel_rfl) (by decide) (by exact fun _ _ _ h => h) ⟨hHeld.1, .inr hHeld.2⟩ (Or.inr ⟨by rfl, rfl⟩) ?_
        try simp only [Act.put, List.setIfInBounds_toArray, List.set_cons_zero, List.set_cons_succ]
        refine wpAnyF_take (i := 24) (v := undef) (by (simp only [List.getElem?_toArray, List.getElem?_cons_succ, List.getElem?_cons_zero]; rfl)) (by kernel_rfl) (by kernel_rfl) (by kernel_rfl) (by decide) (by exact fun _ _ _ h => h) ⟨hHeld.1, .inr hHeld.2⟩ (Or.inr ⟨by rfl, rfl⟩) ?_
        try simp only [Act.put, List.setIfInBounds_toArray, List.set_cons_zero, List.set_cons_succ]
        refine wpAnyF_take (i := 25) (v := ?_) (by (simp only [List.getElem?_toArray, List.getElem?_cons_succ, List.getElem?_cons_zero]; rfl)) (by kernel_rfl) (by kernel_rfl) (by kernel_rfl) (by decide) (by exact fun _ _ _ h => h) ⟨hHeld.1, .inr hHeld.2⟩ (Or.inl ⟨by rfl, ?_⟩) ?_
        rotate_left
        · (intro w' _; go_simp <;> with_reducible rfl)
        try simp only [Act.put, List.setIfInBounds_toArray, List.set_cons_zero, List.set_cons_succ]
        refine wpAnyF_ready (rs := [26]) (by kernel_rfl) (by simp) ?_
        refine AllReadyF.last (by (simp only [List.getElem?_toArray, List.getElem?_cons_succ, List.getElem?_cons_zero]; rfl)) (by kernel_rfl) (fun K hK => ?_) AllReadyF.nil
        go_simp
        go_at_call 146
        refine (must_no 1 _).mono ?_
        rintro e w3 ⟨rfl, rfl⟩
        exact ⟨rfl, .inr ⟨by decide, rfl⟩, bD⟩
    · have HC : Hid (dcEnd file at_ cs n = 5) := hide (dcEnd_text (fun h => h69 (by rw [hv0, hd]; exact h.2)))
      rw [HC.out]
      have t0 : (v0 == 69) = false := beq_eq_false_iff_ne.2 h69
      clear h69 hv0 hv1 hv2 hd hdl h7
      go_enter Tryz.func78, Tryz.ntmps78
      go_wp2_with fail
      refine (must_no 5 _).mono ?_
      rintro e w1 ⟨rfl, rfl⟩
      exact ⟨rfl, .inr ⟨by decide, rfl⟩, Below.refl _ _⟩
  · have HC : Hid (dcEnd file at_ cs n = 5) := hide (dcEnd_text (fun h => h7 (by rw [hd]; exact h.1)))
    rw [HC.out]
    have t0 : ((d.length : Int) == 7) = false := beq_eq_false_iff_ne.2 (by omega)
    have t0' : (d.length == 7) = false := beq_eq_false_iff_ne.2 h7
    have t0'' : ¬ (d.length : Int) = 7 := by omega
    clear hd hdl
    go_enter Tryz.func78, Tryz.ntmps78
    go_wp2_with fail
    refine (must_no 5 _).mono ?_
    rintro e w1 ⟨rfl, rfl⟩
    exact ⟨rfl, .inr ⟨by decide, rfl⟩, Below.refl _ _⟩
end Go.Proofs.YtnnfkmjhaljplaaGreatDoor
namespace Go.Proofs.YtnnfkmjhaljplaaGreatDoor
open Go.RowKit
theorem must_yes2 (c : Int) (w : World) : Calls Tryz.prog 146 #[.bool true, .int .i64 c] w fun e w' => e = .returned (.tuple #[]) ∧ w = w' := (must_yes c w).mono fun _ _ ⟨h1, h2⟩ => ⟨h1, h2.symm⟩
theorem must_no2 (c : Int) (w : World) : Calls Tryz.prog 146 #[.bool false, .int .i64 c] w fun e w' => e = .panicked [{ v := pn c, recovered := false }] ∧ w = w' := (must_no c w).mono fun _ _ ⟨h1, h2⟩ => ⟨h1, h2.symm⟩
/-- How much of the file the reader in block g has still to read. -/
def leftOf (g : Nat) (w : World) : Nat := match w.cell? ⟨g, 1, none⟩ with
  | some (.slice _ n _) => n
  | _ => 0
theorem FrdAt.leftOf_ {w0 w : World} {g gv base : Nat} {file d : List Int} {A A2 : Option Addr} {c c2 n ev : Nat} {cs : List (List Ev)} {us : List Value} (h : FrdAt w0 g gv base file d A A2 c c2 n ev cs us w) : leftOf g w = d.length := by
  unfold leftOf
  rw [(h.blk.cell 1).trans (rfl : _ = some (Value.slice A2 d.length c2))]
theorem sumT_few8 : ∀ {t : List (List Ev)}, (∀ l ∈ t, l.length ≤ 8) → sumT t ≤ 8 * t.length
  | [], _ => by simp [sumT]
  | l :: r, h => by
    have h1 := sumT_few8 fun x hx => h x (List.mem_cons_of_mem l hx)
    have := h l (List.mem_cons_self ..)
    simp only [sumT, List.length_cons]
    omega
theorem sumT_set : ∀ (t : List (List Ev)) (k : Nat) (E : List Ev), k < t.length → sumT (t.set k (t.getD k [] ++ E)) = sumT t + E.length
  | [], k, E, h => by simp at h
  | l :: r, 0, E, h => by simp [sumT]; omega
  | l :: r, k + 1, E, h => by
    have := sumT_set r k E (by simpa using h)
    simp only [List.set_cons_succ, sumT, List.getD_cons_succ, this]
    omega
/-- What readFrames tells: R is what is read of the file as mathematics. -/
def FrsPost (w0 : World) (g gv : Nat) (file : List Int) (A : Option Addr) (c : Nat) (R : Int × List (List Ev)) (e : Ending) (w' : World) : Prop :=
  (e = .returned (.tuple #[]) ∧ ∃ at_ n cs us A2 c2, FrdAt w0 g gv (g + 1) file (file.drop at_) A A2 c c2 n (sumT cs) cs us w' ∧ at_ ≤ file.length ∧ n ≤ at_ ∧ cs.length ≤ 4 ∧ (∀ l ∈ cs, l.length ≤ 8) ∧ R = if dcEnd file at_ cs n = 0 then (0, cs) else (dcEnd file at_ cs n, [])) ∨
  (∃ C, C ≠ 0 ∧ R = (C, []) ∧ e = .panicked [{ v := pn C, recovered := false }] ∧ Below w0.heap.size w0 w')
set_option maxRecDepth 100000 in
set_option maxHeartbeats 800000 in
theorem frames_any (w0 : World) (g gv : Nat) (file : List Int) (A A2 : Option Addr) (c c2 N : Nat) (us : List Value) (aN aS aE : Addr) (w : World) (R : Int × List (List Ev)) (hf : file.length ≤ 2000) (b8 : B8 file) (hN : N ≤ 4) (h2 : 2 ≤ file.length)
    (hr0 : FrdAt w0 g gv (g + 1) file (file.drop 2) A A2 c c2 0 0 (List.replicate N []) us w) (hT : Tab w0) (hS : Sent aN aS aE w0) (HR : dcS (file.length + 1) file 2 (List.replicate N []) 0 0 = R) :
    Calls Tryz.prog 77 #[.pointer (some ⟨g, 0, none⟩)] w (FrsPost w0 g gv file A c R) := by
  unfold FrsPost
  have hz : sumT (List.replicate N []) = 0 := by
    have := sumT_few8 (t := List.replicate N []) (fun l hl => by rw [List.eq_of_mem_replicate hl]; simp)
    have h0 : ∀ n, sumT (List.replicate n []) = 0 := fun n => by
      induction n with
      | zero => rfl
      | succ n ih => simp [List.replicate_succ, sumT, ih]
    exact h0 N
  have HRR := hide HR
  clear HR
  go_enter Tryz.func77, Tryz.ntmps77
  go_wp2
  go_loopw [2] (fun v wr => ∃ (f at_ n ev : Nat) (last : Int) (cs : List (List Ev)) (us : List Value) (A2 : Option Addr) (c2 : Nat), v = .int .i64 last ∧ FrdAt w0 g gv (g + 1) file (file.drop at_) A A2 c c2 n ev cs us wr ∧ ev = sumT cs ∧ at_ ≤ file.length ∧ n ≤ at_ ∧ cs.length ≤ 4 ∧ (∀ l ∈ cs, l.length ≤ 8) ∧ file.length + 1 ≤ f + at_ ∧ Hid (dcS f file at_ cs last n = R)) (fun _ wr => leftOf g wr)
  case atStart => exact ⟨file.length + 1, 2, 0, 0, 0, _, us, A2, c2, rfl, hr0, hz.symm, h2, by omega, by rw [List.length_replicate]; exact hN, fun l hl => by rw [List.eq_of_mem_replicate hl]; simp, by omega, HRR⟩
  case round =>
    obtain ⟨f, at_, n, ev, last, cs, us, A2, c2, rfl, hr, hev, ha, hna, hcN, hall, hfa, HS⟩ := hrel
    clear hr0
    obtain ⟨f', hf1⟩ : ∃ f', f = f' + 1 := ⟨f - 1, by omega⟩
    obtain ⟨d, hd⟩ : ∃ d, d = file.drop at_ := ⟨_, rfl⟩
    have hdl : d.length = file.length - at_ := by rw [hd, List.length_drop]
    have d8 : B8 d := by rw [hd]; exact b8.drop at_
    rw [← hd] at hr
    have g1 := (hr.blk.cell 1).trans (rfl : _ = some (Value.slice A2 d.length c2))
    have HM := hide hr.leftOf_
    have hold : ∀ u ∈ us, ∀ b, u.ownBlock = some b → b < wr.heap.size := fun u hu b hb => by
      obtain ⟨i, hi⟩ := List.getElem?_of_mem hu
      obtain ⟨_, h1, _⟩ := hr.own.at_ hi
      exact (h1.lt b hb).2
    have hgvw : gv < wr.heap.size := (hr.own.row.lt gv rfl).2
    have hev4 : ev ≤ 32 := by have := sumT_few8 hall; omega
    by_cases hlt : 0 < d.length
    · have hlt1 : (0 : Int) < (d.length : Int) := by omega
      have hlt2 : decide (d.length ≤ 0) = false := decide_eq_false (by omega)
      obtain ⟨bk, off, hA', hbb, hx⟩ := hr.rdd.all hlt
      have q0 := hx 0 hlt
      rw [Nat.add_zero] at q0
      obtain ⟨x, hxx⟩ : ∃ x, x = d[0] := ⟨_, rfl⟩
      rw [← hxx] at q0
      have HX : Hid ((file.drop at_).getD 0 0 = x) := hide (by rw [← hd, hxx]; simp [hlt])
      clear hxx hx
      subst hA'
      by_cases h66 : x = 66
      · have HE := hide (show at_ < file.length ∧ (file.drop at_).getD 0 0 = 66 from ⟨by omega, by rw [HX.out]; exact h66⟩)
        subst h66
        have bw := hr.old
        have RF := hide (implRf_any d (some ⟨bk, off, none⟩) c2 aN aS aE wr (by omega) hr.cd (hr.rdd.more hr.old.size) d8 (hT.below bw) (hS.below bw))
        unfold RfPost at RF
        have hk := frE_right d8
        obtain ⟨C, hC⟩ : ∃ C, C = frC d := ⟨_, rfl⟩
        obtain ⟨K, hK⟩ : ∃ K, K = frK d := ⟨_, rfl⟩
        obtain ⟨E, hE⟩ : ∃ E, E = frE d := ⟨_, rfl⟩
        obtain ⟨Z, hZ⟩ : ∃ Z, Z = frZ d := ⟨_, rfl⟩
        have HN : Hid (dcNext (file.drop at_) cs = cs.set K.toNat (cs.getD K.toNat [] ++ E)) := hide (by unfold dcNext; rw [← hd, hK, hE])
        have HF : Hid (dcFrame (file.drop at_) cs last = if C = 0 then (if K < cs.length ∧ last ≤ K ∧ (cs.getD K.toNat []).length + E.length ≤ 8 then 0 else 1) else C) := hide (by unfold dcFrame; rw [← hd, hC, hK, hE])
        have HKZ : Hid (frK (file.drop at_) = K ∧ frZ (file.drop at_) = Z) := hide ⟨by rw [← hd, hK], by rw [← hd, hZ]⟩
        rw [← hC, ← hK, ← hE, ← hZ] at hk
        rw [← hC, ← hK, ← hE, ← hZ] at RF
        have HD := hide hd
        have HDL := hide hdl
        have HEV := hide hev
        have HF1 := hide hf1
        clear hC hK hE hZ hd hdl hev hf1
        go_wp2_with fail
        refine RF.out.mono ?_
        rintro e w3 ⟨A3, c3, rfl, o3, b3⟩
        have hr3 := hr.below b3
        have z3 := b3.size
        have rE := RdE.of_own o3
        have kq := Bk.new w3 #[.int .i64 C, .int .i64 K, .slice A3 E.length c3, .int .i64 Z] 203
        have b4 := (Below.refl w3.heap.size w3).alloc (Nat.le_refl _) (Obj.cells #[.int .i64 C, .int .i64 K, .slice A3 E.length c3, .int .i64 Z] 203)
        have hr4 := hr3.below b4
        have rE4 := (rE.below b4).lt
        have hgq : g < w3.heap.size := hr3.blk.lt
        obtain ⟨q, hq⟩ : ∃ q, q = w3.heap.size := ⟨_, rfl⟩
        have hqo : ∀ u ∈ us, u.ownBlock ≠ some q := fun u hu e => by have := hold u hu q e; omega
        have hqv : q ≠ gv := by omega
        rw [← hq] at kq hgq
        have HQ := hide hq
        have k0 := (kq.cell 0).trans (rfl : _ = some (Value.int .i64 C))
        have k1 := (kq.cell 1).trans (rfl : _ = some (Value.int .i64 K))
        have k2 := (kq.cell 2).trans (rfl : _ = some (Value.slice A3 E.length c3))
        clear hr hr3 rE o3 b3 g1 q0 b4 RF hq hbb bw
        by_cases hC : C = 0
        · subst hC
          obtain ⟨hE0, hE1, hK0, hK3, hZ1, hZ2⟩ := hk rfl
          have h8 := (stF_zero hE0).1
          obtain ⟨k, rfl⟩ := Int.eq_ofNat_of_zero_le hK0
          obtain ⟨z, rfl⟩ := Int.eq_ofNat_of_zero_le (show 0 ≤ Z by omega)
          rw [Int.toNat_natCast] at HN HF
          clear hk
          have HZ2 := hide hZ2
          have HK3 := hide hK3
          clear hK0 hK3 hZ2
          go_wp2_with fail
          rw [← HQ.out]
          generalize w3.alloc (Obj.cells #[.int .i64 0, .int .i64 k, .slice A3 E.length c3, .int .i64 z] 203) = Y at kq hr4 rE4 k0 k1 k2 ⊢
          refine (must_yes2 0 _).mono ?_
          rintro e w5 ⟨rfl, rfl⟩
          have g2 := (hr4.blk.cell 2).trans (rfl : _ = some (Value.slice (some ⟨gv, 0, none⟩) cs.length cs.length))
          by_cases hw : last ≤ (k : Int) ∧ (k : Int) ≤ (cs.length : Int) - 1
          · have HW := hide hw
            go_wp2_with fail
            refine (allWithin_one _ _ _ _ _ _ (by simp [go_sem]) hw).mono ?_
            rintro e w6 ⟨rfl, rfl⟩
            clear hw
            have b5 := (Below.refl Y.heap.size Y).alloc (Nat.le_refl _) (Obj.cells #[.int .i64 k] 2)
            have hr5 := hr4.below b5
            have kq5 := kq.kept b5
            have rE5 := (rE4.below b5).lt
            clear kq hr4 rE4 k0 k1 k2 b5 g2
            generalize Y.alloc (Obj.cells #[.int .i64 k] 2) = Y1 at hr5 kq5 rE5 ⊢
            have k1 := (kq5.cell 1).trans (rfl : _ = some (Value.int .i64 k))
            have k2 := (kq5.cell 2).trans (rfl : _ = some (Value.slice A3 E.length c3))
            have hkn : k < cs.length := by have := HW.out.2; omega
            have TK := hide (take_any w0 g gv (g + 1) file d A (some ⟨bk, off, none⟩) c c2 n ev cs us k E A3 c3 Y1 hkn h8 hall (by omega) (by omega) hr5 rE5)
            unfold TkPost frV at TK
            go_wp2_with fail
            refine (must_yes2 1 _).mono ?_
            rintro e w6 ⟨rfl, rfl⟩
            go_wp2_with fail
            refine TK.out.mono ?_
            rintro e w7 (⟨t1, rfl, ⟨us', hr7⟩, KP⟩ | ⟨t1, rfl, hb7⟩)
            · have kq7 := KP q _ _ kq5 (by omega) hqv hqo
              have h0 : dcFrame (file.drop at_) cs last = 0 := by
                rw [HF.out, if_pos (by first | trivial | rfl), if_pos ⟨by omega, HW.out.1, t1⟩]
              have hfew := dcNext_few h0 hall
              rw [HN.out] at hfew
              have HS2 := hide (show dcS f' file (at_ + z) (cs.set k (cs.getD k [] ++ E)) (k : Int) (n + 1) = R by
                have e := HS.out
                rw [HF1.out, dcS_frame HE.out h0, HN.out, HKZ.out.1, HKZ.out.2, Int.toNat_natCast] at e
                exact e)
              have hsm := sumT_set cs k E hkn
              have hml : (cs.set k (cs.getD k [] ++ E)).length = cs.length := List.length_set
              obtain ⟨M, hM⟩ : ∃ M, M = cs.set k (cs.getD k [] ++ E) := ⟨_, rfl⟩
              rw [← hM] at hr7 hfew HS2 hsm hml
              have HFEW := hide hfew
              have hzd : z ≤ d.length := by have := HZ2.out; omega
              have CUT := fun W => run_cut (some ⟨bk, off, none⟩) d.length z c2 z W rfl hzd
              have HZD := hide hzd
              have HSM := hide hsm
              have HML := hide hml
              have a3 := (kq7.drew_.cell 3).trans (rfl : _ = some (Value.int .i64 z))
              have s1 := (hr7.drew.blk.cell 1).trans (rfl : _ = some (Value.slice (some ⟨bk, off, none⟩) d.length c2))
              have x1 := hr7.drew.blk.frozen 1
              clear hM hfew hsm hml kq5 hr5 rE5 TK KP hzd h0 HF HN HS k1 k2 hall hold hqo t1
              go_wp2
              refine wp_region_F 10 (fun w' => w'.cell? ⟨q, 3, none⟩ = some (Value.int .i64 z)) (fun w' => w'.cell? ⟨g, 1, none⟩ = some (Value.slice (some ⟨bk, off, none⟩) d.length c2)) (by kernel_rfl) ⟨a3, s1⟩ (fun hHeld => ?_)
              try simp only [Act.put, List.setIfInBounds_toArray, List.set_cons_zero, List.set_cons_succ]
              refine wpAnyF_take (i := 0) (v := ?_) (by (simp only [List.getElem?_toArray, List.getElem?_cons_zero]; rfl)) (by kernel_rfl) (by kernel_rfl) (by kernel_rfl) (by decide) (by exact fun _ _ _ h => h) ⟨hHeld.1, .inr hHeld.2⟩ (Or.inl ⟨by rfl, ?_⟩) ?_
              rotate_left
              · (intro w' _; go_simp <;> with_reducible rfl)
              try simp only [Act.put, List.setIfInBounds_toArray, List.set_cons_zero, List.set_cons_succ]
              refine wpAnyF_take (i := 1) (v := ?_) (by (simp only [List.getElem?_toArray, List.getElem?_cons_succ, List.getElem?_cons_zero]; rfl)) (by kernel_rfl) (by kernel_rfl) (by kernel_rfl) (by decide) (by exact fun _ _ _ h => h) ⟨hHeld.1, .inr hHeld.2⟩ (Or.inl ⟨by rfl, ?_⟩) ?_
              rotate_left
              · (intro w' _; go_simp <;> with_reducible rfl)
              try simp only [Act.put, List.setIfInBounds_toArray, List.set_cons_zero, List.set_cons_succ]
              refine wpAnyF_take (i := 2) (v := ?_) (by (simp only [List.getElem?_toArray, List.getElem?_cons_succ, List.getElem?_cons_zero]; rfl)) (by kernel_rfl) (by kernel_rfl) (by kernel_rfl) (by decide) (by exact fun _ _ _ h => h) ⟨hHeld.1, .inr hHeld.2⟩ (Or.inl ⟨by rfl, ?_⟩) ?_
              rotate_left
              · (intro w' _; go_simp <;> with_reducible rfl)
              try simp only [Act.put, List.setIfInBounds_toArray, List.set_cons_zero, List.set_cons_succ]
              refine wpAnyF_take (i := 3) (v := ?_) (by (simp only [List.getElem?_toArray, List.getElem?_cons_succ, List.getElem?_cons_zero]; rfl)) (by kernel_rfl) (by kernel_rfl) (by kernel_rfl) (by decide) (by exact fun _ _ _ h => h) ⟨hHeld.1, .inr hHeld.2⟩ (Or.inl ⟨by rfl, ?_⟩) ?_
              rotate_left
              · (intro w' _; go_simp <;> with_reducible rfl)
              try simp only [Act.put, List.setIfInBounds_toArray, List.set_cons_zero, List.set_cons_succ]
              refine wpAnyF_load (i := 4) (v := ?_) (by (simp only [List.getElem?_toArray, List.getElem?_cons_succ, List.getElem?_cons_zero]; rfl)) (by kernel_rfl) (by kernel_rfl) (by kernel_rfl) (by decide) (by exact fun _ _ _ h => h) hHeld (by kernel_rfl) (by kernel_rfl) (Or.inl ⟨by rfl, ?_⟩) ?_
              rotate_left
              · (intro w' hSw; (try dsimp only at hSw); obtain hSb0 := hSw; go_simp <;> with_reducible rfl)
              try simp only [Act.put, List.setIfInBounds_toArray, List.set_cons_zero, List.set_cons_succ]
              refine wpAnyF_take (i := 5) (v := ?_) (by (simp only [List.getElem?_toArray, List.getElem?_cons_succ, List.getElem?_cons_zero]; rfl)) (by kernel_rfl) (by kernel_rfl) (by kernel_rfl) (by decide) (by exact fun _ _ _ h => h) ⟨hHeld.1, .inr hHeld.2⟩ (Or.inl ⟨by rfl, ?_⟩) ?_
              rotate_left
              · (intro w' _; go_simp <;> with_reducible rfl)
              try simp only [Act.put, List.setIfInBounds_toArray, List.set_cons_zero, List.set_cons_succ]
              refine wpAnyF_keep (i := 6) (v := ?_) (by (simp only [List.getElem?_toArray, List.getElem?_cons_succ, List.getElem?_cons_zero]; rfl)) (by kernel_rfl) (by kernel_rfl) (by kernel_rfl) (by decide) (by exact fun _ _ _ h => h) ⟨hHeld.1, .inr hHeld.2⟩ (Or.inl ⟨by rfl, ?_⟩) ?_
              rotate_left
              · (intro w' hSw; (try dsimp only at hSw); obtain hSa0 := hSw; go_simp <;> with_reducible rfl)
              try simp only [Act.put, List.setIfInBounds_toArray, List.set_cons_zero, List.set_cons_succ]
              refine wpAnyF_take (i := 7) (v := ?_) (by (simp only [List.getElem?_toArray, List.getElem?_cons_succ, List.getElem?_cons_zero]; rfl)) (by kernel_rfl) (by kernel_rfl) (by kernel_rfl) (by decide) (by exact fun _ _ _ h => h) ⟨hHeld.1, .inr hHeld.2⟩ (Or.inl ⟨by rfl, ?_⟩) ?_
              rotate_left
              · (intro w' _; go_simp <;> with_reducible rfl)
              try simp only [Act.put, List.setIfInBounds_toArray, List.set_cons_zero, List.set_cons_succ]
              refine wpAnyF_take (i := 8) (v := ?_) (by (simp only [List.getElem?_toArray, List.getElem?_cons_succ, List.getElem?_cons_zero]; rfl)) (by kernel_rfl) (by kernel_rfl) (by kernel_rfl) (by decide) (by exact fun _ _ _ h => h) ⟨hHeld.1, .inr hHeld.2⟩ (Or.inl ⟨by rfl, ?_⟩) ?_
              rotate_left
              · (intro w' _; go_simp <;> with_reducible rfl)
              try simp only [Act.put, List.setIfInBounds_toArray, List.set_cons_zero, List.set_cons_succ]
              refine wpAnyF_take (i := 9) (v := ?_) (by (simp only [List.getElem?_toArray, List.getElem?_cons_succ, List.getElem?_cons_zero]; rfl)) (by kernel_rfl) (by kernel_rfl) (by kernel_rfl) (by decide) (by exact fun _ _ _ h => h) ⟨hHeld.1, .inr hHeld.2⟩ (Or.inl ⟨by rfl, ?_⟩) ?_
              rotate_left
              · (intro w' _; go_simp <;> with_reducible rfl)
              try simp only [Act.put, List.setIfInBounds_toArray, List.set_cons_zero, List.set_cons_succ]
              refine wpAnyF_ready (rs := [10]) (by kernel_rfl) (by simp) ?_
              refine AllReadyF.last (by (simp only [List.getElem?_toArray, List.getElem?_cons_succ, List.getElem?_cons_zero]; rfl)) (by kernel_rfl) (fun K hK => ?_) AllReadyF.nil
              go_simp
              refine hK.out _ _ (((kq7.drew_.far (p := ⟨g, 1, none⟩) (show q ≠ g by omega) _).cell 3).trans rfl) ?_
              clear hK K
              try simp only [Act.put, List.setIfInBounds_toArray, List.set_cons_zero, List.set_cons_succ]
              refine wpAnyF_done (by kernel_rfl) ?_ _
              go_wp2
              have F8 := hr7.store 1 (.slice (cutA (some ⟨bk, off, none⟩) z c2) (d.length - z) (c2 - z)) (d' := file.drop (at_ + z)) (A2' := cutA (some ⟨bk, off, none⟩) z c2) (c2' := c2 - z) (n' := n + 1) (ev' := ev + E.length)
                (by
                  have e : (file.drop (at_ + z)).length = d.length - z := by rw [← List.drop_drop, ← HD.out, List.length_drop]
                  rw [e]
                  have := hr7.blk.set_ 1 (.slice (cutA (some ⟨bk, off, none⟩) z c2) (d.length - z) (c2 - z))
                  exact this)
                (by rw [← List.drop_drop, ← HD.out]; exact hr7.rdd.cut HZD.out hr7.cd) (by rw [← List.drop_drop, ← HD.out, List.length_drop]; have := hr7.cd; omega)
              have F9 := F8.drew
              have hl8 := F9.leftOf_
              rw [← List.drop_drop, ← HD.out, List.length_drop] at hl8
              have HL8 := hide hl8
              clear hl8
              go_roundw
              case rel => exact ⟨f', at_ + z, n + 1, ev + E.length, (k : Int), M, us', _, _, rfl, F9, by rw [HSM.out, HEV.out], by have := HZD.out; have := HDL.out; omega, by omega, by rw [HML.out]; exact hcN, HFEW.out, by have := HF1.out; omega, HS2⟩
              case measure => rw [HM.out, HL8.out]; omega
            · have h0 : dcFrame (file.drop at_) cs last = 1 := by
                rw [HF.out, if_pos (by first | trivial | rfl), if_neg (fun h => by have := h.2.2; omega)]
              exact ⟨rfl, .inr ⟨1, by decide, by rw [← HS.out, HF1.out, dcS_stop HE.out (by rw [h0]; decide), h0], rfl, hb7⟩⟩
          · have h0 : dcFrame (file.drop at_) cs last = 1 := by
              rw [HF.out, if_pos (by first | trivial | rfl), if_neg (fun h => hw ⟨h.2.1, by have := h.1; omega⟩)]
            have HR : Hid (R = (1, [])) := hide (by rw [← HS.out, HF1.out, dcS_stop HE.out (by rw [h0]; decide), h0])
            have hw' : (k : Int) < last ∨ (cs.length : Int) - 1 < (k : Int) := by omega
            have ho := hr4.old
            clear hw h0 HF HN HS
            go_wp2_with fail
            refine (allWithin_not _ _ _ _ _ _ (by simp [go_sem]) hw').mono ?_
            rintro e w6 ⟨rfl, rfl⟩
            go_wp2_with fail
            refine (must_no2 1 _).mono ?_
            rintro e w7 ⟨rfl, rfl⟩
            exact ⟨rfl, .inr ⟨1, by decide, HR.out, rfl, ho.alloc ho.size _⟩⟩
        · have h0 : dcFrame (file.drop at_) cs last = C := by rw [HF.out, if_neg hC]
          have HR : Hid (R = (C, [])) := hide (by rw [← HS.out, HF1.out, dcS_stop HE.out (by rw [h0]; exact hC), h0])
          have gC : (C == 0) = false := beq_eq_false_iff_ne.2 hC
          have ho := hr4.old
          have HC := hide hC
          clear h0 HF HN HS hk hC
          go_wp2_with fail
          refine (must_no2 C _).mono ?_
          rintro e w5 ⟨rfl, rfl⟩
          exact ⟨rfl, .inr ⟨C, HC.out, HR.out, rfl, ho⟩⟩
      · have HE := hide (show ¬ (at_ < file.length ∧ (file.drop at_).getD 0 0 = 66) from fun h => h66 (by rw [← HX.out]; exact h.2))
        have g66 : (x == 66) = false := beq_eq_false_iff_ne.2 h66
        have HRE : Hid (R = if dcEnd file at_ cs n = 0 then (0, cs) else (dcEnd file at_ cs n, [])) := hide (by rw [← HS.out, hf1, dcS_end HE.out])
        have HD := hide hd
        have HEV := hide hev
        clear h66 hdl hd HS hev
        go_wp2
        go_end0
        rw [HD.out, HEV.out] at hr
        exact .inl ⟨rfl, at_, n, cs, us, _, c2, hr, ha, hna, hcN, hall, HRE.out⟩
    · have HE := hide (show ¬ (at_ < file.length ∧ (file.drop at_).getD 0 0 = 66) from fun h => hlt (by omega))
      have HRE : Hid (R = if dcEnd file at_ cs n = 0 then (0, cs) else (dcEnd file at_ cs n, [])) := hide (by rw [← HS.out, hf1, dcS_end HE.out])
      have hl0 : d.length = 0 := by omega
      have HD := hide hd
      have HEV := hide hev
      have HL0 := hide hl0
      rw [hl0] at g1
      clear hdl hd HS hev hlt hl0
      go_wp2
      go_end0
      rw [HD.out, HEV.out] at hr
      exact .inl ⟨rfl, at_, n, cs, us, _, c2, hr, ha, hna, hcN, hall, HRE.out⟩
end Go.Proofs.YtnnfkmjhaljplaaGreatDoor
namespace Go.Proofs.YtnnfkmjhaljplaaGreatDoor
open Go.RowKit
set_option maxRecDepth 100000 in
/-- A panic that bears a code goes through the door: what is answered is the code alone. -/
theorem dec_pan (file : List Int) (C : Int) (hdc : dc file = (C, [])) (w W w3 : World) (jW : Bk W w.heap.size #[Value.int .i64 0, .slice none 0 0] 36) (bW : Below w.heap.size w W) (b3 : Below W.heap.size W w3) (tmps : Array Value)
    (ht : tmps[2]? = some (.pointer (some ⟨w.heap.size, 0, none⟩))) :
    bodyPostD Tryz.prog Tryz.f13 (DtPost (dc file) w) (.panic [{ v := pn C, recovered := false }]) { tmps := tmps, defers := [{ target := .fn (.func 74) #[.pointer (some ⟨w.heap.size, 0, none⟩)], args := #[] }] } w3 := by
  have j3 := jW.kept b3
  refine leaves_cons (f := 74) (args := #[.pointer (some ⟨w.heap.size, 0, none⟩)]) (by simp) (by simp [go_sem]) ?_
  refine (catch_panicking w.heap.size C _ _ [] w3 j3).mono ?_
  rintro e u' w'' ⟨rfl, rfl, rfl⟩
  have j4 := (j3.set_ 0 (.int .i64 C)).set_ 1 (.slice none 0 0)
  have q0 := (j4.cell 0).trans (rfl : _ = some (Value.int .i64 C))
  have q1 := (j4.cell 1).trans (rfl : _ = some (Value.slice none 0 0))
  have zW := bW.size
  have bl := (((bW.trans (b3.mono zW))).setCell (p := ⟨w.heap.size, 0, none⟩) (Nat.le_refl _) (.int .i64 C)).setCell (p := ⟨w.heap.size, 1, none⟩) (Nat.le_refl _) (.slice none 0 0)
  refine ⟨.agg #[.int .i64 C, .slice none 0 0], ?_, ?_⟩
  · simp [results, Tryz.results13, go_sem, ht, q0, q1]
  · rw [hdc]
    exact DtPost.bad bl
set_option maxRecDepth 100000 in
set_option maxHeartbeats 800000 in
theorem implDec_any (file : List Int) (A : Option Addr) (c : Nat) (aN aS aE : Addr) (w : World) (hm : file.length ≤ 1048576) (hc : file.length ≤ c) (hR0 : Rd .u8 w w.heap.size A file) (b8 : B8 file) (hT0 : Tab w) (hS0 : Sent aN aS aE w) :
    Calls Tryz.prog 13 #[.slice A file.length c] w (DtPost (dc file) w) := by
  obtain ⟨W, hW⟩ : ∃ W, W = w.alloc (Obj.cells #[Value.int .i64 0, .slice none 0 0] 36) := ⟨_, rfl⟩
  have HW := hide hW
  have bW : Below w.heap.size w W := by rw [hW]; exact (Below.refl _ _).alloc (Nat.le_refl _) _
  have jW : Bk W w.heap.size #[Value.int .i64 0, .slice none 0 0] 36 := by rw [hW]; exact Bk.new _ _ _
  have zW : W.heap.size = w.heap.size + 1 := by rw [hW]; simp
  have hR := (hR0.below bW).lt
  have hT := hT0.below bW
  have hS := hS0.below bW
  have kV := Bk.new W #[.slice A file.length c, .slice A file.length c, .slice none 0 0, .int .i64 0, .int .i64 0] 117
  have bV := (Below.refl W.heap.size W).alloc (Nat.le_refl _) (Obj.cells #[.slice A file.length c, .slice A file.length c, .slice none 0 0, .int .i64 0, .int .i64 0] 117)
  have HH := hide (head_any W W.heap.size file A c _ hm hc b8 kV (hR.below bV) bV (Nat.le_refl _))
  unfold HeadPost at HH
  obtain ⟨g, hg⟩ : ∃ g, g = W.heap.size := ⟨_, rfl⟩
  rw [← hg] at HH
  have HG := hide hg
  have HZ := hide zW
  clear hW hR0 hT0 hS0 zW kV bV hg
  have hmf : ∀ (fn : Fn) (first cap : Array Value) (w : World), (Instr.makeFunc fn first cap).run Tryz.prog w = .ok (.func fn first cap) w := fun _ _ _ _ => rfl
  go_enter_defers Tryz.func13, Tryz.ntmps13
  go_wp2_with fail
  rw [← HW.out, ← HZ.out, ← HG.out]
  refine HH.out.mono ?_
  clear HH
  rintro e w1 (⟨h2k, hh, rfl, gv, us, A2, c2, hr1⟩ | ⟨C, hC, hdc, rfl, hb1⟩)
  · obtain ⟨R, hRR⟩ : ∃ R, R = dc file := ⟨_, rfl⟩
    have hgo := dc_go h2k hh
    have h2 := hh.1
    have hn4 := hh.2.2.2
    have HR := hide hRR
    have FR := hide (frames_any W g gv file A A2 c c2 (file.getD 1 0).toNat us aN aS aE w1 R h2k b8 (by omega) h2 hr1 hT hS (by rw [hRR, hgo]))
    unfold FrsPost at FR
    clear hgo hh hn4 hRR hr1
    go_wp2_with fail
    refine FR.out.mono ?_
    clear FR
    rintro e w2 (⟨rfl, at_, n, cs, us2, A2', c2', hr2, hat, hna, hcN, hall, hRe⟩ | ⟨C, hC, hRe, rfl, hb2⟩)
    · have EN := hide (end_any W g gv (g + 1) file A A2' c c2' at_ n cs us2 w2 h2k hc b8 hat hr2 (hT.below hr2.old))
      unfold EndPost at EN
      obtain ⟨G, hG⟩ : ∃ G, G = dcEnd file at_ cs n := ⟨_, rfl⟩
      rw [← hG] at EN hRe
      clear hG
      go_wp2_with fail
      refine EN.out.mono ?_
      clear EN
      rintro e w3 ⟨⟨rfl, rfl⟩ | ⟨hG0, rfl⟩, b3⟩
      · have hr3 := hr2.below b3
        have hRz : Hid (dc file = (0, cs)) := hide (by rw [← HR.out, hRe, if_pos rfl])
        have g2 := (hr3.blk.cell 2).trans (rfl : _ = some (Value.slice (some ⟨gv, 0, none⟩) cs.length cs.length))
        have j3 := jW.kept hr3.old
        have q0 := (j3.cell 0).trans (rfl : _ = some (Value.int .i64 0))
        have q1 := (j3.cell 1).trans (rfl : _ = some (Value.slice none 0 0))
        have f0 := j3.frozen 0
        have f1 := j3.frozen 1
        clear hRe
        have HRB := hide hr3
        clear hr3 hr2
        go_wp2
        have hr3 := HRB.out
        have j4 := (j3.set_ 0 (.int .i64 0)).set_ 1 (.slice (some ⟨gv, 0, none⟩) cs.length cs.length)
        have p0 := (j4.cell 0).trans (rfl : _ = some (Value.int .i64 0))
        have p1 := (j4.cell 1).trans (rfl : _ = some (Value.slice (some ⟨gv, 0, none⟩) cs.length cs.length))
        have hzg : w.heap.size < g + 1 := by have := HG.out; have := HZ.out; omega
        have bl := ((bW.trans (hr3.old.mono bW.size)).setCell (p := ⟨w.heap.size, 0, none⟩) (Nat.le_refl _) (.int .i64 0)).setCell (p := ⟨w.heap.size, 1, none⟩) (Nat.le_refl _) (.slice (some ⟨gv, 0, none⟩) cs.length cs.length)
        have oT := ((hr3.own.kept (grown_set w3 w.heap.size 0 (.int .i64 0)) (fun b e => by cases e; exact hzg)).kept (grown_set _ w.heap.size 1 (.slice (some ⟨gv, 0, none⟩) cs.length cs.length)) (fun b e => by cases e; exact hzg)).mono (Nat.le_of_lt hzg)
        refine leaves_cons (f := 74) (args := #[.pointer (some ⟨w.heap.size, 0, none⟩)]) (by simp) (by simp [go_sem]) ?_
        refine (catch_idle w.heap.size _).mono ?_
        rintro e u' w'' ⟨rfl, rfl, rfl⟩
        refine ⟨.agg #[.int .i64 0, .slice (some ⟨gv, 0, none⟩) cs.length cs.length], ?_, ?_⟩
        · simp [results, Tryz.results13, go_sem, p0, p1]
        · rw [hRz.out]
          exact ⟨_, _, us2, rfl, oT, bl⟩
      · have hRz : dc file = (G, []) := by rw [← HR.out, hRe, if_neg hG0]
        exact dec_pan file G hRz w W w3 jW bW (hr2.old.trans (b3.mono hr2.old.size)) _ rfl
    · exact dec_pan file C (by rw [← HR.out, hRe]) w W w2 jW bW hb2 _ rfl
  · rw [HG.out] at hb1
    exact dec_pan file C hdc w W w1 jW bW hb1 _ rfl
end Go.Proofs.YtnnfkmjhaljplaaGreatDoor
