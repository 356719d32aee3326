/- lwTrace at two equal answers. -/
import Derived.Test.YthomadhdjapahaaGSS
import Derived.Test.YthomadhdjapahaaLw
import Derived.Test.YthomadhdjapahaaGFr
namespace Go.Proofs.Ythomadhdjapahaa
open Go.RowKit

set_option maxRecDepth 100000 in
set_option maxHeartbeats 800000 in
theorem lwTrace_same (a : Int) (t : List (List Ev)) (A A' : Option Addr) (c c' : Nat) (w : World) (hm : t.length ≤ maxLen) (h : RdT w w.heap.size A t) (h' : RdT w w.heap.size A' t) :
    Calls Try.prog 18 #[.agg #[.int .i64 a, .slice A t.length c], .agg #[.int .i64 a, .slice A' t.length c']] w fun e w' => e = .returned (.bool true) ∧ Below w.heap.size w w' := by
  obtain ⟨V, hV⟩ : ∃ V, V = (w.alloc (Obj.cells #[Value.int .i64 a, .slice A t.length c] 35)).alloc (Obj.cells #[Value.int .i64 a, .slice A' t.length c'] 35) := ⟨_, rfl⟩
  obtain ⟨K0, J0, hz, B0⟩ := two_new _ _ _ _ _ V hV
  have HV := hide hV
  have r := (h.below B0).lt
  have r' := (h'.below B0).lt
  have IS := hide (implST_any t t A A' c c' V hm r r')
  have SS := hide (fun W hW hW' => specST_any t t A A' c c' W hm hW hW')
  rw [sameT_refl] at IS SS
  clear hV h h' hz
  have q0 := K0.cell 0
  have q1 := K0.cell 1
  have p0 := J0.cell 0
  have p1 := J0.cell 1
  simp at q0 q1 p0 p1
  go_enter Try.func18, Try.ntmps18
  go_wp2_with fail
  rw [← HV.out]
  refine IS.out.mono ?_
  rintro e w1 ⟨rfl, b1⟩
  have x1 := (K0.kept b1).cell 1
  have y1 := (J0.kept b1).cell 1
  simp at x1 y1
  go_wp2_with fail
  refine (SS.out _ (r.below b1).lt (r'.below b1).lt).mono ?_
  rintro e w2 ⟨rfl, b2⟩
  go_wp2
  go_ret
  exact ⟨rfl, B0.trans ((b1.trans (b2.mono b1.size)).mono B0.size)⟩
end Go.Proofs.Ythomadhdjapahaa
