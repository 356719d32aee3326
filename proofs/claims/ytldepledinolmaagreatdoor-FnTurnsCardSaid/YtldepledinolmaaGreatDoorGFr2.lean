/- Contracts of FrameFault, in the program and in its model. Contracts of the exact laws' own helpers on frames and on answers with a frame: compared, marked, held. -/
import Derived.Test.YtldepledinolmaaGreatDoorGFr
import Derived.Test.YtldepledinolmaaGreatDoorGEv
import Derived.Test.YtldepledinolmaaGreatDoorGMarks
namespace Go.Proofs.YtldepledinolmaaGreatDoor
open Go.RowKit

/-- What is wrong with a frame. -/
noncomputable def frF (k : Int) (es : List Ev) : Int := if 0 ≤ k ∧ k ≤ 3 then (if es.length = 0 then 2 else stF es) else 3
theorem frF_out {k : Int} {es : List Ev} (h : ¬ (0 ≤ k ∧ k ≤ 3)) : frF k es = 3 := if_neg h
theorem frF_none {k : Int} {es : List Ev} (h : 0 ≤ k ∧ k ≤ 3) (h0 : es.length = 0) : frF k es = 2 := by unfold frF; rw [if_pos h, if_pos h0]
theorem frF_in {k : Int} {es : List Ev} (h : 0 ≤ k ∧ k ≤ 3) (h0 : ¬ es.length = 0) : frF k es = stF es := by unfold frF; rw [if_pos h, if_neg h0]

theorem implFrF_any (k : Int) (es : List Ev) (A : Option Addr) (c : Nat) (w : World) (hm : es.length ≤ maxLen) (h : RdE w w.heap.size A es) :
    Calls Tryz.prog 73 #[frV k A es.length c] w fun e w' => e = .returned (.int .i64 (frF k es)) ∧ Below w.heap.size w w' := by
  obtain ⟨o, ho⟩ : ∃ o, o = Obj.cells #[.int .i64 k, .slice A es.length c] 86 := ⟨_, rfl⟩
  have hle := hm
  unfold maxLen at hle
  by_cases hk : 0 ≤ k ∧ k ≤ 3
  · by_cases h0 : es.length = 0
    · rw [frF_none hk h0, h0]
      go_enter Tryz.func73, Tryz.ntmps73
      go_wp2_with fail
      refine (allWithin_one _ _ _ _ _ _ (by simp [go_sem]) hk).mono ?_
      rintro e w' ⟨rfl, rfl⟩
      go_wp2
      go_ret
      exact ⟨rfl, by go_grown⟩
    · obtain ⟨F, hF⟩ : ∃ F, F = stF es := ⟨_, rfl⟩
      rw [frF_in hk h0, ← hF]
      have SF := hide (fun A c w => implStF_any es A c w hm)
      rw [← hF] at SF
      have g0 : ((es.length : Int) == 0) = false := beq_eq_false_iff_ne.2 (by omega)
      clear hF h0
      go_enter Tryz.func73, Tryz.ntmps73
      go_wp2_with fail
      refine (allWithin_one _ _ _ _ _ _ (by simp [go_sem]) hk).mono ?_
      rintro e w' ⟨rfl, rfl⟩
      go_wp2_with fail
      refine (SF.out _ _ _ ((h.alloc (Nat.le_refl _) _).alloc (by simp) _).lt).mono ?_
      rintro e w1 ⟨rfl, hb⟩
      go_wp2
      go_ret
      exact ⟨rfl, below_alloc (below_alloc hb)⟩
  · rw [frF_out hk]
    have hk' : k < 0 ∨ 3 < k := by omega
    clear hk
    go_enter Tryz.func73, Tryz.ntmps73
    go_wp2_with fail
    refine (allWithin_not _ _ _ _ _ _ (by simp [go_sem]) hk').mono ?_
    rintro e w' ⟨rfl, rfl⟩
    go_wp2
    go_ret
    exact ⟨rfl, by go_grown⟩

end Go.Proofs.YtldepledinolmaaGreatDoor
namespace Go.Proofs.YtldepledinolmaaGreatDoor
open Go.RowKit

/-- An answer with a frame as a value. -/
abbrev frR (a k : Int) (A : Option Addr) (n c : Nat) (z : Int) : Value := .agg #[.int .i64 a, .int .i64 k, .slice A n c, .int .i64 z]

end Go.Proofs.YtldepledinolmaaGreatDoor
