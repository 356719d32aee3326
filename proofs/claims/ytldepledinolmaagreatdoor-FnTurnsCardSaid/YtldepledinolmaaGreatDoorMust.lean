/- The contracts of mustHold, codeOfPanic, and of what DecodeTrace defers. -/
import Derived.Test.YtldepledinolmaaGreatDoorGFil
import Derived.Test.YtldepledinolmaaGreatDoorSame
import Derived.Tactics
import Derived.Tactics2
import Derived.Defers
import Derived.Recover
import Derived.WalkSmall
import Derived.Laws.Pointers
import Derived.WalkKit
namespace Go.Proofs.YtldepledinolmaaGreatDoor
open Go.RowKit

/-- The panic that bears a code. -/
def pn (c : Int) : Value := .iface 111 (.int .i64 c)
theorem must_yes (c : Int) (w : World) :
    Calls Tryz.prog 68 #[.bool true, .int .i64 c] w fun e w' => e = .returned (.tuple #[]) ∧ w' = w := by
  go_enter Tryz.func68, Tryz.ntmps68
  go_wp2
  go_end0
  exact ⟨rfl, rfl⟩
theorem must_no (c : Int) (w : World) :
    Calls Tryz.prog 68 #[.bool false, .int .i64 c] w fun e w' => e = .panicked [{ v := pn c, recovered := false }] ∧ w' = w := by
  go_enter Tryz.func68, Tryz.ntmps68
  go_wp2
  exact ⟨rfl, rfl, rfl⟩
set_option maxRecDepth 100000 in
theorem codeOf_any (c : Int) (w : World) :
    Calls Tryz.prog 43 #[pn c] w fun e w' => e = .returned (.int .i64 c) ∧ w' = w := by
  unfold pn
  have hta : ∀ w, (Instr.typeAssert (.iface 111 (.int .i64 c)) 20 111 true).run Tryz.prog w = .ok (.tuple #[.int .i64 c, .bool true]) w := fun _ => by kernel_rfl
  go_enter Tryz.func43, Tryz.ntmps43
  go_wp2
  go_ret
  exact ⟨rfl, rfl⟩

theorem catch_panicking (g : Nat) (c : Int) (u0 u1 : Value) (older : List PanicEntry) (w : World) (hg : Bk w g #[u0, u1] 41) :
    CallsD Tryz.prog 42 #[.pointer (some ⟨g, 0, none⟩)] (.panicking ({ v := pn c, recovered := false } :: older)) w fun e u' w' =>
      e = .returned (.tuple #[]) ∧ u' = .panicking ({ v := pn c, recovered := true } :: older) ∧ w' = (w.setCell ⟨g, 0, none⟩ (.int .i64 c)).setCell ⟨g, 1, none⟩ (.slice none 0 0) := by
  have q0 : w.cell? ⟨g, 0, none⟩ = some u0 := by rw [hg.cell 0]; rfl
  have q1 : w.cell? ⟨g, 1, none⟩ = some u1 := by rw [hg.cell 1]; rfl
  have f0 := hg.frozen 0
  have f1 := hg.frozen 1
  refine callsD_of_wpS Tryz.func42 rfl fun c₀ cs hu => ?_
  apply wpS_seq
  apply wpS_region
  simp [wpOpsS, go_sem, recoverD, hu, Tryz.ntmps42, Exit.thenS, pn]
  refine wpS_of_wp ?_
  go_wp2_with fail
  have hco := codeOf_any c w
  unfold pn at hco
  refine hco.mono ?_
  rintro e w1 ⟨rfl, rfl⟩
  go_wp2
  simp [bodyPostS, results, Tryz.results42]

theorem catch_idle (g : Nat) (w : World) :
    CallsD Tryz.prog 42 #[.pointer (some ⟨g, 0, none⟩)] .returning w fun e u' w' => e = .returned (.tuple #[]) ∧ u' = .returning ∧ w' = w := by
  refine callsD_of_wpS Tryz.func42 rfl fun c₀ cs hu => ?_
  apply wpS_seq
  apply wpS_region
  simp [wpOpsS, go_sem, recoverD, hu, Tryz.ntmps42, Exit.thenS]
  refine wpS_of_wp ?_
  go_wp2
  cases c₀
  simp_all [bodyPostS, results, Tryz.results42]
end Go.Proofs.YtldepledinolmaaGreatDoor
