/- strings.CutPrefix at strings known as rows of numbers. The library's own text is walked. ReadHex, NumberOf of the program. -/
import Derived.Test.YtmdaianbhpppfaaGreatDoorGTxA
import Derived.Test.YtmdaianbhpppfaaGreatDoorProg
import Derived.StillTailTactics
import Derived.Lib.Hide
import Derived.ProofKit
import Derived.OpenShut
import Derived.Handy
import Derived.Outline
import Derived.WalkLawsBesides
import Derived.Test.YtmdaianbhpppfaaGreatDoorGSig
namespace Go.Proofs.YtmdaianbhpppfaaGreatDoor
open Go.RowKit

set_option linter.unusedVariables false in
theorem hasPre_any (l p : List Int) (w : World) (bl : B8 l) (bp : B8 p) (hl : l.length ≤ maxLen) (hp : p.length ≤ maxLen) :
    Calls Tryz.prog 80 #[.string (strOfNums l), .string (strOfNums p)] w fun e w' => e = .returned (.bool (l.take p.length == p)) ∧ w = w' := by
  unfold maxLen at hl hp
  have z0 := strOfNums_size l
  have z1 := strOfNums_size p
  by_cases h : p.length ≤ l.length
  · have p1 := fun (k : IntKind) (w : World) => run_sto (P := Tryz.prog) Tryz.underlying9 (l := l) (j := p.length) h k (z := p.length) rfl w
    have q1 := seq_str (bl.take p.length) bp
    generalize (l.take p.length == p) = V at q1 ⊢
    go_enter Tryz.func80, Tryz.ntmps80
    go_wp2
    go_ret
    exact ⟨rfl, rfl⟩
  · have q : (l.take p.length == p) = false := beq_eq_false_iff_ne.2 (fun e => by have := congrArg List.length e; rw [List.length_take] at this; omega)
    rw [q]
    go_enter Tryz.func80, Tryz.ntmps80
    go_wp2
    go_ret
    exact ⟨rfl, rfl⟩
theorem slCutPre_any (l p : List Int) (w : World) (bl : B8 l) (bp : B8 p) (hl : l.length ≤ maxLen) (hp : p.length ≤ maxLen) :
    Calls Tryz.prog 61 #[.string (strOfNums l), .string (strOfNums p)] w fun e w' => e = .returned (.tuple #[.string (strOfNums (if (l.take p.length == p) = true then l.drop p.length else l)), .bool (l.take p.length == p)]) ∧ w = w' := by
  have hC := fun w => hasPre_any l p w bl bp hl hp
  unfold maxLen at hl hp
  have z0 := strOfNums_size l
  have z1 := strOfNums_size p
  by_cases h : (l.take p.length == p) = true
  · rw [h] at hC ⊢
    have hle : p.length ≤ l.length := by have := congrArg List.length (beq_iff_eq.1 h); rw [List.length_take] at this; omega
    have p1 := fun (k : IntKind) (w : World) => run_sfrom (P := Tryz.prog) Tryz.underlying9 (l := l) (i := p.length) hle k (z := p.length) rfl w
    rw [if_pos rfl]
    clear h
    go_enter Tryz.func61, Tryz.ntmps61
    go_wp2_with (go_at_call 80; refine (hC _).mono ?_; rintro e w' ⟨rfl, rfl⟩)
    go_wp2
    go_returns
    exact ⟨rfl, rfl⟩
  · rw [Bool.not_eq_true] at h
    rw [h] at hC ⊢
    rw [if_neg (by simp)]
    clear h
    go_enter Tryz.func61, Tryz.ntmps61
    go_wp2_with (go_at_call 80; refine (hC _).mono ?_; rintro e w' ⟨rfl, rfl⟩)
    go_wp2
    go_returns
    exact ⟨rfl, rfl⟩
theorem cutPre_any (l p : List Int) (w : World) (bl : B8 l) (bp : B8 p) (hl : l.length ≤ maxLen) (hp : p.length ≤ maxLen) :
    Calls Tryz.prog 38 #[.string (strOfNums l), .string (strOfNums p)] w fun e w' => e = .returned (.tuple #[.string (strOfNums (if (l.take p.length == p) = true then l.drop p.length else l)), .bool (l.take p.length == p)]) ∧ w = w' := by
  have hC := fun w => slCutPre_any l p w bl bp hl hp
  generalize strOfNums (if (l.take p.length == p) = true then l.drop p.length else l) = S at hC ⊢
  generalize (l.take p.length == p) = V at hC ⊢
  go_enter Tryz.func38, Tryz.ntmps38
  go_wp2_with (go_at_call 61; refine (hC _).mono ?_; rintro e w' ⟨rfl, rfl⟩)
  go_wp2
  go_returns
  exact ⟨rfl, rfl⟩
end Go.Proofs.YtmdaianbhpppfaaGreatDoor
namespace Go.Proofs.YtmdaianbhpppfaaGreatDoor
open Go.RowKit

theorem NumberOf_any (l : List Int) (w : World) (b8 : B8 l) (hl : l.length ≤ maxLen) :
    Calls Tryz.prog 20 #[.string (strOfNums l)] w fun e w' => e = .returned (intV (inC (numL 10 6 l)) (inV (numL 10 6 l))) ∧ Below w.heap.size w w' := by
  rw [nmV_dec]
  have hC := fun w => numberIn_any 10 l w (.inl rfl) b8 hl
  generalize inC (nmV 10 l) = C at hC ⊢
  generalize inV (nmV 10 l) = V at hC ⊢
  obtain ⟨o, ho⟩ : ∃ o, o = Obj.cells #[.int .i64 0, .int .i64 0] 36 := ⟨_, rfl⟩
  go_enter Tryz.func20, Tryz.ntmps20
  go_wp2_with fail
  rw [← ho]
  refine (hC _).mono ?_
  rintro e w2 ⟨rfl, hb⟩
  rw [ho] at hb
  have r0 := res_cell hb 0
  have r1 := res_cell hb 1
  have r2 := res_frozen hb 0
  have r3 := res_frozen hb 1
  have hbw := below_alloc hb
  clear hb ho hC
  go_wp2
  refine bodyPost_ret (v := intV C V) (by simp [results, Tryz.results20, go_sem, r0, r1]) rfl ?_
  exact ⟨rfl, (hbw.setCell (Nat.le_refl _) _).setCell (Nat.le_refl _) _⟩
theorem ReadHex_any (l : List Int) (w : World) (b8 : B8 l) (hl : l.length ≤ maxLen) :
    Calls Tryz.prog 12 #[.string (strOfNums l)] w fun e w' => e = .returned (intV (inC (hexV l)) (inV (hexV l))) ∧ Below w.heap.size w w' := by
  have hP := fun w => cutPre_any l [48, 120] w b8 (fun x hx => by simp at hx; omega) hl (by simp [maxLen])
  obtain ⟨o, ho⟩ : ∃ o, o = Obj.cells #[.int .i64 0, .int .i64 0] 36 := ⟨_, rfl⟩
  by_cases h : (l.take 2 == [48, 120]) = true
  · have h' := beq_iff_eq.1 h
    have hV : hexV l = nmV 16 (l.drop 2) := by
      rw [← nmV_hex]
      unfold hexV
      by_cases h3 : l.length < 3
      · rw [if_pos (.inl h3)]
        have : numL 16 5 (l.drop 2) = -1 := numL_short (.inl (by rw [List.length_drop]; omega))
        rw [this]; rfl
      · rw [if_neg (by rintro (h4 | h4); exact h3 h4; exact h4 h')]
    rw [hV]
    have hC := fun w => numberIn_any 16 (l.drop 2) w (.inr rfl) (b8.drop 2) (by rw [List.length_drop]; omega)
    simp only [List.length_cons, List.length_nil, h, if_true] at hP
    generalize inC (nmV 16 (l.drop 2)) = C at hC ⊢
    generalize inV (nmV 16 (l.drop 2)) = V at hC ⊢
    generalize l.drop 2 = D at hP hC
    clear h h' hV
    go_enter Tryz.func12, Tryz.ntmps12
    go_wp2_with fail
    refine (hP _).mono ?_
    rintro e w1 ⟨rfl, rfl⟩
    go_wp2_with fail
    rw [← ho]
    refine (hC _).mono ?_
    rintro e w2 ⟨rfl, hb⟩
    rw [ho] at hb
    have r0 := res_cell hb 0
    have r1 := res_cell hb 1
    have r2 := res_frozen hb 0
    have r3 := res_frozen hb 1
    have hbw := below_alloc hb
    clear hb ho hC hP
    go_wp2
    refine bodyPost_ret (v := intV C V) (by simp [results, Tryz.results12, go_sem, r0, r1]) rfl ?_
    exact ⟨rfl, (hbw.setCell (Nat.le_refl _) _).setCell (Nat.le_refl _) _⟩
  · have h' : ¬ l.take 2 = [48, 120] := fun e => h (beq_iff_eq.2 e)
    rw [Bool.not_eq_true] at h
    have hV : hexV l = -1 := by unfold hexV; rw [if_pos (.inr h')]
    rw [hV]
    simp only [List.length_cons, List.length_nil, h] at hP
    clear h h' hV
    go_enter Tryz.func12, Tryz.ntmps12
    go_wp2_with fail
    refine (hP _).mono ?_
    rintro e w1 ⟨rfl, rfl⟩
    go_wp2
    go_returns
    exact ⟨rfl, by go_grown⟩
end Go.Proofs.YtmdaianbhpppfaaGreatDoor
