/- The model's UnpackSteps. -/
import Derived.Test.YtjdbakebcdkfcaaUnpS
namespace Go.Proofs.Ytjdbakebcdkfcaa
open Go.RowKit

theorem UnPost.none_ {d : List Int} {w : World} {e : Ending} {w' : World} (h : UnPost d w e w') (hu : unpN 8 d 0 = none) : e = .returned (.tuple #[.slice none 0 0, .bool false]) ∧ Below w.heap.size w w' := by
  rcases h with ⟨_, h2, h3⟩ | ⟨es, A, c, h1, _⟩
  · exact ⟨h2, h3⟩
  · rw [hu] at h1; cases h1
theorem UnPost.some_ {d : List Int} {w : World} {e : Ending} {w' : World} {es : List Ev} (h : UnPost d w e w') (hu : unpN 8 d 0 = some es) :
    ∃ A c, e = .returned (.tuple #[.slice A es.length c, .bool true]) ∧ w'.ownsRow w.heap.size 39 3 (.slice A es.length c) es.length (evs es) ∧ Below w.heap.size w w' := by
  rcases h with ⟨h1, _⟩ | ⟨es', A, c, h1, h2, h3, h4⟩
  · rw [hu] at h1; cases h1
  · rw [hu] at h1
    cases h1
    exact ⟨A, c, h2, h3, h4⟩

set_option maxHeartbeats 400000 in
theorem specUn_any (d : List Int) (A : Option Addr) (c : Nat) (w : World) (hm : d.length ≤ 1048576) (hc : d.length ≤ c) (h : Rd .u8 w w.heap.size A d) (b8 : B8 d) :
    Calls Try.prog 22 #[.slice A d.length c] w fun e w' => ∃ A c, e = .returned (.agg #[.int .i64 (unC d), .slice A (unE d).length c]) ∧ w'.ownsRow w.heap.size 39 3 (.slice A (unE d).length c) (unE d).length (evs (unE d)) ∧ Below w.heap.size w w' := by
  obtain ⟨W, hW⟩ : ∃ W, W = w.alloc (Obj.cells #[Value.int .i64 0, .slice none 0 0] 31) := ⟨_, rfl⟩
  have HW := hide hW
  have hR : Rd .u8 W W.heap.size A d := by subst hW; exact (h.alloc (Nat.le_refl _) _).lt
  clear hW
  by_cases hl : d.length ≤ 4000
  · have LU := l2Unpack_any d A c W hm hc hR b8
    match hu : unpN 8 d 0 with
    | none =>
      rw [(un_none hl hu).1, (un_none hl hu).2]
      have LN := hide (LU.mono fun e w' hp => hp.none_ hu)
      clear LU hu
      go_enter Try.func22, Try.ntmps22
      go_wp2_with fail
      rw [← HW.out]
      refine LN.out.mono ?_
      rintro e w1 ⟨rfl, hb⟩
      have q0 := W_cell HW.out hb 0
      have q1 := W_cell HW.out hb 1
      have f0 := W_frozen HW.out hb 0
      have f1 := W_frozen HW.out hb 1
      simp at q0 q1
      go_wp2
      refine bodyPost_ret (v := .agg #[.int .i64 5, .slice none 0 0]) (by simp [results, Try.results22, go_sem, q0, q1]) rfl ?_
      exact ⟨none, 0, rfl, World.ownsRow_nil _ _ _ _, ((W_below HW.out hb).setCell (Nat.le_refl _) _).setCell (Nat.le_refl _) _⟩
    | some es =>
      rw [(un_some hl hu).1, (un_some hl hu).2]
      have LS := hide (LU.mono fun e w' hp => hp.some_ hu)
      clear LU hu
      go_enter Try.func22, Try.ntmps22
      go_wp2_with fail
      rw [← HW.out]
      refine LS.out.mono ?_
      rintro e w1 ⟨A2, c2, rfl, o2, hb⟩
      have q0 := W_cell HW.out hb 0
      have q1 := W_cell HW.out hb 1
      have f0 := W_frozen HW.out hb 0
      have f1 := W_frozen HW.out hb 1
      simp at q0 q1
      go_wp2
      refine bodyPost_ret (v := .agg #[.int .i64 0, .slice A2 es.length c2]) (by simp [results, Try.results22, go_sem, q0, q1]) rfl ?_
      exact ⟨A2, c2, rfl, W_own HW.out (W_set HW.out (W_set HW.out o2 _ _) _ _), ((W_below HW.out hb).setCell (Nat.le_refl _) _).setCell (Nat.le_refl _) _⟩
  · rw [(un_long hl).1, (un_long hl).2]
    go_enter Try.func22, Try.ntmps22
    go_wp2
    go_returns
    exact ⟨none, 0, rfl, World.ownsRow_nil _ _ _ _, by go_grown⟩
end Go.Proofs.Ytjdbakebcdkfcaa
