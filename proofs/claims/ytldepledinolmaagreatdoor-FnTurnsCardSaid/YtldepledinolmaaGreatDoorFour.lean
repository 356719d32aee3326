/- Contracts of the four bytes of a sum, in the program and in its model. -/
import Derived.Test.YtldepledinolmaaGreatDoorCrc
import Derived.Test.YtldepledinolmaaGreatDoorPackI
namespace Go.Proofs.YtldepledinolmaaGreatDoor
open Go.RowKit

/-- A number's four bytes, the lowest one first. -/
def fourL (v : Int) : List Int := [v % 256, v / 256 % 256, v / 65536 % 256, v / 16777216]
theorem fourL_length (v : Int) : (fourL v).length = 4 := rfl
theorem fourL_B8 {v : Int} (h : 0 ≤ v ∧ v < 4294967296) : B8 (fourL v) := by
  intro x hx
  simp only [fourL, List.mem_cons, List.not_mem_nil, or_false] at hx
  rcases hx with rfl | rfl | rfl | rfl <;> omega
theorem crcV_bd {l : List Int} (b : B8 l) : 0 ≤ crcV l ∧ crcV l < 4294967296 := by
  unfold crcV
  split
  · have h1 : crcS 4294967295 l < 4294967296 := crcS_lt _ _ b (by omega)
    have : crcS 4294967295 l ^^^ 4294967295 < 2 ^ 32 := Nat.xor_lt_two_pow h1 (by decide)
    omega
  · omega

theorem l1Four_any (v : Int) (w : World) (h : 0 ≤ v ∧ v < 4294967296) :
    Calls Tryz.prog 64 #[.int .i64 v] w fun e w' => ∃ g, e = .returned (.slice (some ⟨g, 0, none⟩) 4 4) ∧ w'.ownsRow w.heap.size 5 1 (.slice (some ⟨g, 0, none⟩) 4 4) 4 ((fourL v).map (Value.int .u8)) ∧ Below w.heap.size w w' := by
  go_enter Tryz.func64, Tryz.ntmps64
  go_wp2
  go_ret
  exact ⟨_, rfl, World.ownsRow_lit w _ 4 (Nat.le_refl _) (by unfold maxLen; omega) rfl, (Below.refl _ _).alloc (Nat.le_refl _) _⟩

theorem sumBytes_any (l : List Int) (A : Option Addr) (c : Nat) (w : World) (hm : l.length ≤ 4000) (hR : Rd .u8 w w.heap.size A l) (b8 : B8 l) (hT : Tab w) :
    Calls Tryz.prog 49 #[.slice A l.length c] w fun e w' => ∃ g, e = .returned (.slice (some ⟨g, 0, none⟩) 4 4) ∧ w'.ownsRow w.heap.size 5 1 (.slice (some ⟨g, 0, none⟩) 4 4) 4 ((fourL (crcV l)).map (Value.int .u8)) ∧ Below w.heap.size w w' := by
  have hv := crcV_bd b8
  obtain ⟨C, hC⟩ : ∃ C, C = crcC l := ⟨_, rfl⟩
  obtain ⟨v, hV⟩ : ∃ V, V = crcV l := ⟨_, rfl⟩
  have IM := hide (implCrc_any l A c w (by omega) hR b8 hT)
  rw [← hC, ← hV] at IM
  rw [← hV] at hv ⊢
  clear hC hV hT
  have hfl := field_value
  go_enter Tryz.func49, Tryz.ntmps49
  go_wp2_with fail
  refine IM.out.mono ?_
  rintro e w1 ⟨rfl, b1⟩
  go_wp2
  go_ret
  exact ⟨_, rfl, World.ownsRow_lit w1 _ 4 b1.size (by unfold maxLen; omega) rfl, b1.alloc b1.size _⟩
end Go.Proofs.YtldepledinolmaaGreatDoor
