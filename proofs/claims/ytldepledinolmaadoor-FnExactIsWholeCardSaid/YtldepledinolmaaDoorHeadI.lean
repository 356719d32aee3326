/- The contract of the program's reader of a file's beginning. -/
import Derived.Test.YtldepledinolmaaDoorFrd
import Derived.Test.YtldepledinolmaaDoorDecS
namespace Go.Proofs.YtldepledinolmaaDoor
open Go.RowKit

/-- What readHead tells. -/
def HeadPost (w0 : World) (g : Nat) (file : List Int) (A : Option Addr) (c : Nat) (e : Ending) (w' : World) : Prop :=
  (file.length ≤ 2000 ∧ dcHd file ∧ e = .returned (.tuple #[]) ∧ ∃ gv us A2 c2, FrdAt w0 g gv (g + 1) file (file.drop 2) A A2 c c2 0 0 (List.replicate (file.getD 1 0).toNat []) us w') ∨
  (∃ C, C ≠ 0 ∧ dc file = (C, []) ∧ e = .panicked [{ v := pn C, recovered := false }] ∧ Below w0.heap.size w0 w')

set_option maxRecDepth 100000 in
set_option maxHeartbeats 2000000 in
theorem head_any (w0 : World) (g : Nat) (file : List Int) (A : Option Addr) (c : Nat) (w : World) (hm : file.length ≤ 1048576) (hc : file.length ≤ c) (b8 : B8 file) (hB : Bk w g #[.slice A file.length c, .slice A file.length c, .slice none 0 0, .int .i64 0, .int .i64 0] 65)
    (hR : Rd .u8 w w0.heap.size A file) (old : Below w0.heap.size w0 w) (lg : w0.heap.size ≤ g) :
    Calls Tryd.prog 34 #[.pointer (some ⟨g, 0, none⟩)] w (HeadPost w0 g file A c) := by
  unfold HeadPost
  have g0 := (hB.cell 0).trans (rfl : _ = some (Value.slice A file.length c))
  have g1 := (hB.cell 1).trans (rfl : _ = some (Value.slice A file.length c))
  by_cases h2k : file.length ≤ 2000
  · have h2k' : (file.length : Int) ≤ 2000 := by omega
    by_cases h2 : 2 ≤ file.length
    · have h2' : (2 : Int) ≤ (file.length : Int) := by omega
      have h2a : decide (file.length ≤ 0) = false := decide_eq_false (by omega)
      obtain ⟨bk, off, hA, hbb, hx⟩ := hR.all (by omega)
      have q0 := hx 0 (by omega)
      have q1 := hx 1 (by omega)
      rw [Nat.add_zero] at q0
      rw [← getD_at file 0 (by omega)] at q0
      rw [← getD_at file 1 (by omega)] at q1
      have bd1 := b8.get 1 (by omega)
      rw [← getD_at file 1 (by omega)] at bd1
      obtain ⟨x0, hx0⟩ : ∃ x, x = file.getD 0 0 := ⟨_, rfl⟩
      obtain ⟨x1, hx1⟩ : ∃ x, x = file.getD 1 0 := ⟨_, rfl⟩
      have HH := hide (show dcHd file ↔ (x0 = 67 ∧ 1 ≤ x1 ∧ x1 ≤ 4) by unfold dcHd; rw [hx0, hx1]; exact ⟨fun h => h.2, fun h => ⟨h2, h⟩⟩)
      have HX := hide hx1
      rw [← hx0] at q0
      rw [← hx1] at q1 bd1 ⊢
      clear hx hx0 hx1
      subst hA
      by_cases e0 : x0 = 67
      · subst e0
        have W1 : IntKind.i64.wrap x1 = x1 := IntWalk.i64_in _ (by omega)
        by_cases hv : 1 ≤ x1 ∧ x1 ≤ 4
        · obtain ⟨N, rfl⟩ := Int.eq_ofNat_of_zero_le (show 0 ≤ x1 by omega)
          obtain ⟨i0, hi, hz0, hz1, hz2⟩ := info_parts info_events
          have CUT := fun W => run_cut (some ⟨bk, off, none⟩) file.length 2 c 2 W rfl h2
          have hgl : g < w.heap.size := hB.lt
          go_enter Tryd.func34, Tryd.ntmps34
          go_wp2_with fail
          refine (must_yes 2 _).mono ?_
          rintro e w1 ⟨rfl, rfl⟩
          go_wp2_with fail
          refine (must_yes 5 _).mono ?_
          rintro e w1 ⟨rfl, rfl⟩
          go_wp2_with fail
          refine (allWithin_one _ _ _ _ _ _ (by simp [go_sem]) hv).mono ?_
          rintro e w2 ⟨rfl, rfl⟩
          have b1 := (Below.refl w1.heap.size w1).alloc (Nat.le_refl _) (Obj.cells #[.int .i64 N] 2)
          go_wp2_with fail
          refine (must_yes 5 _).mono ?_
          rintro e w2 ⟨rfl, rfl⟩
          have bX := hB.kept b1
          have rX := hR.below ((Below.refl w0.heap.size w1).alloc old.size (Obj.cells #[.int .i64 N] 2))
          have oX := old.alloc old.size (Obj.cells #[.int .i64 N] 2)
          generalize hX : w1.alloc (Obj.cells #[.int .i64 N] 2) = X at bX rX oX ⊢
          have hgX : g < X.heap.size := bX.lt
          clear hX b1 hB hR old g0 g1 q0 q1 hgl hbb
          go_wp2_with (at_make; refine wpList_make_full _ rfl _ _ 24 rfl (g + 1) 50 i0 (.slice none 0 0) 1 Tryd.underlying24 hi hz0 hz1 .i64 .i64 _ _ N rfl rfl rfl rfl (by rw [hz2]; omega) (by unfold maxLen; omega) hgX ?_; intro w3 hown hg; rw [made_slices] at hown; have b3 := bX.grown hg (by simp); have g1 := (b3.cell 1).trans (rfl : _ = some (Value.slice (some ⟨bk, off, none⟩) file.length c)); have g2 := (b3.cell 2).trans (rfl : _ = some (Value.slice none 0 0)); have f1 := b3.frozen 1; have f2 := b3.frozen 2)
          go_end0
          have oT := ownT_made hown
          have B3 : Below w0.heap.size w0 w3 := oX.grown hg oX.size (by simp)
          have r3 : Rd .u8 w3 w0.heap.size (some ⟨bk, off, none⟩) file := rX.below ((Below.refl _ _).grown hg oX.size (by simp))
          have B4 := (Below.refl w0.heap.size w3).setCell (p := ⟨g, 2, none⟩) lg (.slice (some ⟨X.heap.size, 0, none⟩) N N)
          have B5 := B4.setCell (p := ⟨g, 1, none⟩) lg (.slice (cutA (some ⟨bk, off, none⟩) 2 c) (file.length - 2) (c - 2))
          have b5 := (b3.set_ 2 (.slice (some ⟨X.heap.size, 0, none⟩) N N)).set_ 1 (.slice (cutA (some ⟨bk, off, none⟩) 2 c) (file.length - 2) (c - 2))
          refine .inl ⟨h2k, HH.out.2 ⟨by first | trivial | rfl, hv.1, hv.2⟩, rfl, X.heap.size, List.replicate N (.slice none 0 0), cutA (some ⟨bk, off, none⟩) 2 c, c - 2, ?_, ?_, r3.below B5, (r3.cut h2 hc).below B5, by rw [List.length_drop]; omega, B3.trans B5, lg, Nat.lt_succ_self _⟩
          · rw [List.length_drop, Int.toNat_natCast, List.length_replicate]
            exact b5
          · rw [Int.toNat_natCast, List.length_replicate]
            exact (oT.kept (grown_set w3 g 2 _) (fun b e => by cases e; exact Nat.lt_succ_self _)).kept (grown_set _ g 1 _) (fun b e => by cases e; exact Nat.lt_succ_self _)
        · have hv' : x1 < 1 ∨ 4 < x1 := by omega
          have hno : ¬ dcHd file := fun h => hv (HH.out.1 h).2
          clear hv
          go_enter Tryd.func34, Tryd.ntmps34
          go_wp2_with fail
          refine (must_yes 2 _).mono ?_
          rintro e w1 ⟨rfl, rfl⟩
          go_wp2_with fail
          refine (must_yes 5 _).mono ?_
          rintro e w1 ⟨rfl, rfl⟩
          go_wp2_with fail
          refine (allWithin_not _ _ _ _ _ _ (by simp [go_sem]) hv').mono ?_
          rintro e w2 ⟨rfl, rfl⟩
          go_wp2_with fail
          refine (must_no 5 _).mono ?_
          rintro e w2 ⟨rfl, rfl⟩
          exact ⟨rfl, .inr ⟨5, by decide, dc_text h2k hno, rfl, old.alloc old.size _⟩⟩
      · have e0' : (x0 == 67) = false := beq_eq_false_iff_ne.2 e0
        have hno : ¬ dcHd file := fun h => e0 (HH.out.1 h).1
        go_enter Tryd.func34, Tryd.ntmps34
        go_wp2_with fail
        refine (must_yes 2 _).mono ?_
        rintro e w1 ⟨rfl, rfl⟩
        go_wp2_with fail
        refine (must_no 5 _).mono ?_
        rintro e w1 ⟨rfl, rfl⟩
        exact ⟨rfl, .inr ⟨5, by decide, dc_text h2k hno, rfl, old⟩⟩
    · have h2' : ¬ (2 : Int) ≤ (file.length : Int) := by omega
      have h2'' : (file.length : Int) < 2 := by omega
      have hno : ¬ dcHd file := fun h => h2 h.1
      go_enter Tryd.func34, Tryd.ntmps34
      go_wp2_with fail
      refine (must_yes 2 _).mono ?_
      rintro e w1 ⟨rfl, rfl⟩
      go_wp2_with fail
      refine (must_no 5 _).mono ?_
      rintro e w1 ⟨rfl, rfl⟩
      exact ⟨rfl, .inr ⟨5, by decide, dc_text h2k hno, rfl, old⟩⟩
  · have h2k' : ¬ (file.length : Int) ≤ 2000 := by omega
    have h2k'' : (2000 : Int) < (file.length : Int) := by omega
    go_enter Tryd.func34, Tryd.ntmps34
    go_wp2_with fail
    refine (must_no 2 _).mono ?_
    rintro e w1 ⟨rfl, rfl⟩
    exact ⟨rfl, .inr ⟨2, by decide, dc_many h2k, rfl, old⟩⟩
end Go.Proofs.YtldepledinolmaaDoor
