/- strings.CutPrefix at strings known as rows of numbers. The library's own text is walked. -/
import Derived.Test.YtmdaianbhpppfaaStr
import Derived.Test.YtmdaianbhpppfaaProg
import Derived.StillTailTactics
import Derived.Lib.Hide
import Derived.ProofKit
import Derived.OpenShut
import Derived.Handy
import Derived.Outline
import Derived.WalkLawsBesides
namespace Go.Proofs.Ytmdaianbhpppfaa
open Go.RowKit

set_option linter.unusedVariables false in
theorem hasPre_any (l p : List Int) (w : World) (bl : B8 l) (bp : B8 p) (hl : l.length ≤ maxLen) (hp : p.length ≤ maxLen) :
    Calls Try.prog 18 #[.string (strOfNums l), .string (strOfNums p)] w fun e w' => e = .returned (.bool (l.take p.length == p)) ∧ w = w' := by
  unfold maxLen at hl hp
  have z0 := strOfNums_size l
  have z1 := strOfNums_size p
  by_cases h : p.length ≤ l.length
  · have p1 := fun (k : IntKind) (w : World) => run_sto (P := Try.prog) Try.underlying9 (l := l) (j := p.length) h k (z := p.length) rfl w
    have q1 := seq_str (bl.take p.length) bp
    generalize (l.take p.length == p) = V at q1 ⊢
    go_enter Try.func18, Try.ntmps18
    go_wp2
    go_ret
    exact ⟨rfl, rfl⟩
  · have q : (l.take p.length == p) = false := beq_eq_false_iff_ne.2 (fun e => by have := congrArg List.length e; rw [List.length_take] at this; omega)
    rw [q]
    go_enter Try.func18, Try.ntmps18
    go_wp2
    go_ret
    exact ⟨rfl, rfl⟩
theorem slCutPre_any (l p : List Int) (w : World) (bl : B8 l) (bp : B8 p) (hl : l.length ≤ maxLen) (hp : p.length ≤ maxLen) :
    Calls Try.prog 14 #[.string (strOfNums l), .string (strOfNums p)] w fun e w' => e = .returned (.tuple #[.string (strOfNums (if (l.take p.length == p) = true then l.drop p.length else l)), .bool (l.take p.length == p)]) ∧ w = w' := by
  have hC := fun w => hasPre_any l p w bl bp hl hp
  unfold maxLen at hl hp
  have z0 := strOfNums_size l
  have z1 := strOfNums_size p
  by_cases h : (l.take p.length == p) = true
  · rw [h] at hC ⊢
    have hle : p.length ≤ l.length := by have := congrArg List.length (beq_iff_eq.1 h); rw [List.length_take] at this; omega
    have p1 := fun (k : IntKind) (w : World) => run_sfrom (P := Try.prog) Try.underlying9 (l := l) (i := p.length) hle k (z := p.length) rfl w
    rw [if_pos rfl]
    clear h
    go_enter Try.func14, Try.ntmps14
    go_wp2_with (go_at_call 18; refine (hC _).mono ?_; rintro e w' ⟨rfl, rfl⟩)
    go_wp2
    go_returns
    exact ⟨rfl, rfl⟩
  · rw [Bool.not_eq_true] at h
    rw [h] at hC ⊢
    rw [if_neg (by simp)]
    clear h
    go_enter Try.func14, Try.ntmps14
    go_wp2_with (go_at_call 18; refine (hC _).mono ?_; rintro e w' ⟨rfl, rfl⟩)
    go_wp2
    go_returns
    exact ⟨rfl, rfl⟩
theorem cutPre_any (l p : List Int) (w : World) (bl : B8 l) (bp : B8 p) (hl : l.length ≤ maxLen) (hp : p.length ≤ maxLen) :
    Calls Try.prog 11 #[.string (strOfNums l), .string (strOfNums p)] w fun e w' => e = .returned (.tuple #[.string (strOfNums (if (l.take p.length == p) = true then l.drop p.length else l)), .bool (l.take p.length == p)]) ∧ w = w' := by
  have hC := fun w => slCutPre_any l p w bl bp hl hp
  generalize strOfNums (if (l.take p.length == p) = true then l.drop p.length else l) = S at hC ⊢
  generalize (l.take p.length == p) = V at hC ⊢
  go_enter Try.func11, Try.ntmps11
  go_wp2_with (go_at_call 14; refine (hC _).mono ?_; rintro e w' ⟨rfl, rfl⟩)
  go_wp2
  go_returns
  exact ⟨rfl, rfl⟩
end Go.Proofs.Ytmdaianbhpppfaa
