/- Contracts of SameFrames, in the program and in its model. -/
import Derived.Test.YtkeifkdaddmkfaaDoorFr
import Derived.Test.YtkeifkdaddmkfaaDoorSS
namespace Go.Proofs.YtkeifkdaddmkfaaDoor
open Go.RowKit

/-- Two frames are one. -/
noncomputable def sameF (k k' : Int) (es fs : List Ev) : Bool := if k = k' then sameE es fs else false
theorem sameF_refl (k : Int) (es : List Ev) : sameF k k es es = true := by unfold sameF; rw [if_pos rfl, sameE_refl]

theorem specFrS_any (k k' : Int) (es fs : List Ev) (A A' : Option Addr) (c c' : Nat) (w : World) (hm : es.length ≤ maxLen) (h : RdE w w.heap.size A es) (h' : RdE w w.heap.size A' fs) :
    Calls Tryd.prog 16 #[frV k A es.length c, frV k' A' fs.length c'] w fun e w' => e = .returned (.bool (sameF k k' es fs)) ∧ Below w.heap.size w w' := by
  by_cases hk : k = k'
  · subst hk
    obtain ⟨F, hF⟩ : ∃ F, F = sameE es fs := ⟨_, rfl⟩
    rw [show sameF k k es fs = F by rw [hF]; exact if_pos rfl]
    have SF := hide (fun A A' c c' w => specSS_any es fs A A' c c' w hm)
    rw [← hF] at SF
    clear hF
    go_enter Tryd.func16, Tryd.ntmps16
    go_wp2_with fail
    refine (SF.out _ _ _ _ _ ((h.alloc (Nat.le_refl _) _).alloc (by simp) _).lt ((h'.alloc (Nat.le_refl _) _).alloc (by simp) _).lt).mono ?_
    rintro e w1 ⟨rfl, hb⟩
    go_wp2
    go_ret
    exact ⟨rfl, below_alloc (below_alloc hb)⟩
  · rw [show sameF k k' es fs = false from if_neg hk]
    have f0 : (k == k') = false := beq_eq_false_iff_ne.2 hk
    clear hk
    go_enter Tryd.func16, Tryd.ntmps16
    go_wp2
    go_ret
    exact ⟨rfl, by go_grown⟩

theorem implFrS_any (k k' : Int) (es fs : List Ev) (A A' : Option Addr) (c c' : Nat) (w : World) (hm : es.length ≤ maxLen) (h : RdE w w.heap.size A es) (h' : RdE w w.heap.size A' fs) :
    Calls Tryd.prog 15 #[frV k A es.length c, frV k' A' fs.length c'] w fun e w' => e = .returned (.bool (sameF k k' es fs)) ∧ Below w.heap.size w w' := by
  by_cases hk : k = k'
  · subst hk
    obtain ⟨F, hF⟩ : ∃ F, F = sameE es fs := ⟨_, rfl⟩
    rw [show sameF k k es fs = F by rw [hF]; exact if_pos rfl]
    have SF := hide (fun A A' c c' w => implSS_any es fs A A' c c' w hm)
    rw [← hF] at SF
    clear hF
    go_enter Tryd.func15, Tryd.ntmps15
    go_wp2_with fail
    refine (SF.out _ _ _ _ _ ((h.alloc (Nat.le_refl _) _).alloc (by simp) _).lt ((h'.alloc (Nat.le_refl _) _).alloc (by simp) _).lt).mono ?_
    rintro e w1 ⟨rfl, hb⟩
    go_wp2
    go_ret
    exact ⟨rfl, below_alloc (below_alloc hb)⟩
  · rw [show sameF k k' es fs = false from if_neg hk]
    have f0 : (k == k') = false := beq_eq_false_iff_ne.2 hk
    clear hk
    go_enter Tryd.func15, Tryd.ntmps15
    go_wp2
    go_ret
    exact ⟨rfl, by go_grown⟩
end Go.Proofs.YtkeifkdaddmkfaaDoor
