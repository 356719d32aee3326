/- ReadHex, NumberOf of the program. -/
import Derived.Test.YtmdaianbhpppfaaNumIn2
import Derived.Test.YtmdaianbhpppfaaCutP
namespace Go.Proofs.Ytmdaianbhpppfaa
open Go.RowKit

theorem NumberOf_any (l : List Int) (w : World) (b8 : B8 l) (hl : l.length ≤ maxLen) :
    Calls Try.prog 9 #[.string (strOfNums l)] w fun e w' => e = .returned (intV (inC (numL 10 6 l)) (inV (numL 10 6 l))) ∧ Below w.heap.size w w' := by
  rw [nmV_dec]
  have hC := fun w => numberIn_any 10 l w (.inl rfl) b8 hl
  generalize inC (nmV 10 l) = C at hC ⊢
  generalize inV (nmV 10 l) = V at hC ⊢
  obtain ⟨o, ho⟩ : ∃ o, o = Obj.cells #[.int .i64 0, .int .i64 0] 23 := ⟨_, rfl⟩
  go_enter Try.func9, Try.ntmps9
  go_wp2_with fail
  rw [← ho]
  refine (hC _).mono ?_
  rintro e w2 ⟨rfl, hb⟩
  rw [ho] at hb
  have r0 := res_cell hb 0
  have r1 := res_cell hb 1
  have r2 := res_frozen hb 0
  have r3 := res_frozen hb 1
  have hbw := below_alloc hb
  clear hb ho hC
  go_wp2
  refine bodyPost_ret (v := intV C V) (by simp [results, Try.results9, go_sem, r0, r1]) rfl ?_
  exact ⟨rfl, (hbw.setCell (Nat.le_refl _) _).setCell (Nat.le_refl _) _⟩
theorem ReadHex_any (l : List Int) (w : World) (b8 : B8 l) (hl : l.length ≤ maxLen) :
    Calls Try.prog 6 #[.string (strOfNums l)] w fun e w' => e = .returned (intV (inC (hexV l)) (inV (hexV l))) ∧ Below w.heap.size w w' := by
  have hP := fun w => cutPre_any l [48, 120] w b8 (fun x hx => by simp at hx; omega) hl (by simp [maxLen])
  obtain ⟨o, ho⟩ : ∃ o, o = Obj.cells #[.int .i64 0, .int .i64 0] 23 := ⟨_, rfl⟩
  by_cases h : (l.take 2 == [48, 120]) = true
  · have h' := beq_iff_eq.1 h
    have hV : hexV l = nmV 16 (l.drop 2) := by
      rw [← nmV_hex]
      unfold hexV
      by_cases h3 : l.length < 3
      · rw [if_pos (.inl h3)]
        have : numL 16 5 (l.drop 2) = -1 := numL_short (.inl (by rw [List.length_drop]; omega))
        rw [this]; rfl
      · rw [if_neg (by rintro (h4 | h4); exact h3 h4; exact h4 h')]
    rw [hV]
    have hC := fun w => numberIn_any 16 (l.drop 2) w (.inr rfl) (b8.drop 2) (by rw [List.length_drop]; omega)
    simp only [List.length_cons, List.length_nil, h, if_true] at hP
    generalize inC (nmV 16 (l.drop 2)) = C at hC ⊢
    generalize inV (nmV 16 (l.drop 2)) = V at hC ⊢
    generalize l.drop 2 = D at hP hC
    clear h h' hV
    go_enter Try.func6, Try.ntmps6
    go_wp2_with fail
    refine (hP _).mono ?_
    rintro e w1 ⟨rfl, rfl⟩
    go_wp2_with fail
    rw [← ho]
    refine (hC _).mono ?_
    rintro e w2 ⟨rfl, hb⟩
    rw [ho] at hb
    have r0 := res_cell hb 0
    have r1 := res_cell hb 1
    have r2 := res_frozen hb 0
    have r3 := res_frozen hb 1
    have hbw := below_alloc hb
    clear hb ho hC hP
    go_wp2
    refine bodyPost_ret (v := intV C V) (by simp [results, Try.results6, go_sem, r0, r1]) rfl ?_
    exact ⟨rfl, (hbw.setCell (Nat.le_refl _) _).setCell (Nat.le_refl _) _⟩
  · have h' : ¬ l.take 2 = [48, 120] := fun e => h (beq_iff_eq.2 e)
    rw [Bool.not_eq_true] at h
    have hV : hexV l = -1 := by unfold hexV; rw [if_pos (.inr h')]
    rw [hV]
    simp only [List.length_cons, List.length_nil, h] at hP
    clear h h' hV
    go_enter Try.func6, Try.ntmps6
    go_wp2_with fail
    refine (hP _).mono ?_
    rintro e w1 ⟨rfl, rfl⟩
    go_wp2
    go_returns
    exact ⟨rfl, by go_grown⟩
end Go.Proofs.Ytmdaianbhpppfaa
