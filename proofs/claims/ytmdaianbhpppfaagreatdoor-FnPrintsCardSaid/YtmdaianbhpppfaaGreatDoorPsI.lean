/- The contract of the program's ParseTrace. -/
import Derived.Test.YtmdaianbhpppfaaGreatDoorRdT
namespace Go.Proofs.YtmdaianbhpppfaaGreatDoor
open Go.RowKit

/-- What a text's reading tells: the code, and a trace of the call's own. -/
def PsPost (l : List Int) (w : World) (e : Ending) (w' : World) : Prop :=
  ∃ A c us, e = .returned (.agg #[.int .i64 (psC l), .slice A (psT l).length c]) ∧ OwnT w' w.heap.size (.slice A (psT l).length c) (psT l) us ∧ Below w.heap.size w w'
theorem OwnT.none_ (w : World) (B : Nat) : OwnT w B (.slice none 0 0) [] [] := ⟨World.ownsRow_nil _ _ _ _, fun i hi => by simp at hi, fun i j u u' _ hu => by simp at hu⟩
theorem OwnT.set_ {w : World} {base : Nat} {v : Value} {t : List (List Ev)} {us : List Value} (h : OwnT w base v t us) {g : Nat} (hg : g < base) (i : Nat) (u : Value) : OwnT (w.setCell ⟨g, i, none⟩ u) base v t us := h.kept (grown_set w g i u) (fun b e => by cases e; exact hg)

set_option maxRecDepth 100000 in
set_option maxHeartbeats 1600000 in
theorem ParseTrace_any (l : List Int) (w : World) (hM : ML w) (b8 : B8 l) (hl : l.length ≤ maxLen) :
    Calls Tryz.prog 8 #[.string (strOfNums l)] w (PsPost l w) := by
  unfold maxLen at hl
  unfold PsPost
  obtain ⟨W, hW⟩ : ∃ W, W = w.alloc (Obj.cells #[Value.int .i64 0, .slice none 0 0] 31) := ⟨_, rfl⟩
  have HW := hide hW
  have bW : Below w.heap.size w W := by rw [hW]; exact (Below.refl _ _).alloc (Nat.le_refl _) _
  have zW := W_size hW
  clear hW
  have z0 := strOfNums_size l
  by_cases h2 : l.length ≤ 2000
  · have RT := hide (readTrace_any l W (hM.below bW) b8 h2)
    obtain ⟨h1, h0⟩ := psT_read h2
    have q1 : ¬ (2000 : Int) < (l.length : Int) := by omega
    obtain ⟨M, hMM⟩ : ∃ M, M = rdT l := ⟨_, rfl⟩
    rw [← hMM] at RT h1 h0
    unfold RtPost at RT
    have H1 := hide h1
    have H0 := hide h0
    clear hMM h1 h0 hM
    obtain ⟨C, hC⟩ : ∃ C, C = psC l := ⟨_, rfl⟩
    obtain ⟨T, hT⟩ : ∃ T, T = psT l := ⟨_, rfl⟩
    rw [← hC, ← hT] at H1 H0
    rw [← hC, ← hT]
    clear hC hT
    go_enter Tryz.func8, Tryz.ntmps8
    go_wp2_with fail
    rw [← HW.out]
    refine RT.out.mono ?_
    rintro e w1 (⟨t, A, c, us, h1, rfl, h3, h4⟩ | ⟨h1, ⟨v, rfl⟩, h4⟩)
    · obtain ⟨hC, hT⟩ := H1.out t h1
      have q0 := (W_cell HW.out h4 0).trans (rfl : _ = some (Value.int .i64 0))
      have q1' := (W_cell HW.out h4 1).trans (rfl : _ = some (Value.slice none 0 0))
      have f0 := W_frozen HW.out h4 0
      have f1 := W_frozen HW.out h4 1
      have hbw := W_below HW.out h4
      clear H1 H0 RT h1 h4
      go_wp2
      refine bodyPost_ret (v := .agg #[.int .i64 0, .slice A t.length c]) (by simp [results, Tryz.results8, go_sem, q0, q1']) rfl ?_
      rw [hC, hT]
      exact ⟨A, c, us, rfl, ((h3.set_ (by omega) 0 _).set_ (by omega) 1 _).mono (by omega), (hbw.setCell (Nat.le_refl _) _).setCell (Nat.le_refl _) _⟩
    · obtain ⟨hC, hT⟩ := H0.out h1
      have q0 := (W_cell HW.out h4 0).trans (rfl : _ = some (Value.int .i64 0))
      have q1' := (W_cell HW.out h4 1).trans (rfl : _ = some (Value.slice none 0 0))
      have f0 := W_frozen HW.out h4 0
      have f1 := W_frozen HW.out h4 1
      have hbw := W_below HW.out h4
      clear H1 H0 RT h1 h4
      go_wp2
      refine bodyPost_ret (v := .agg #[.int .i64 5, .slice none 0 0]) (by simp [results, Tryz.results8, go_sem, q0, q1']) rfl ?_
      rw [hC, hT]
      exact ⟨none, 0, [], rfl, OwnT.none_ _ _, (hbw.setCell (Nat.le_refl _) _).setCell (Nat.le_refl _) _⟩
  · have hC : psC l = 2 := by unfold psC; rw [if_neg h2]
    have hT : psT l = [] := by unfold psT; rw [hC]; rfl
    have q1 : (2000 : Int) < (l.length : Int) := by omega
    rw [hC, hT]
    clear hC hT
    go_enter Tryz.func8, Tryz.ntmps8
    go_wp2
    go_returns
    exact ⟨none, 0, [], rfl, OwnT.none_ _ _, by go_grown⟩
end Go.Proofs.YtmdaianbhpppfaaGreatDoor
