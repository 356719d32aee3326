/- The model's count of a trace's events. -/
import Derived.Test.YtldepledinolmaaGreatDoorGBase
import Derived.Test.YtldepledinolmaaGreatDoorGTrS
namespace Go.Proofs.YtldepledinolmaaGreatDoor
open Go.RowKit

set_option maxHeartbeats 400000 in
theorem l4Count_any (t : List (List Ev)) (A : Option Addr) (c : Nat) (w : World) (ht : t.length ≤ 1000) (hall : ∀ l ∈ t, l.length ≤ 1000) (h : RdT w w.heap.size A t) :
    Calls Tryz.prog 63 #[.slice A t.length c] w fun e w' => e = .returned (.int .i64 (sumT t : Nat)) ∧ w = w' := by
  have hb : ∀ t : List (List Ev), (∀ l ∈ t, l.length ≤ 1000) → sumT t ≤ 1000 * t.length := by
    intro t
    induction t with
    | nil => intro _; simp [sumT]
    | cons l r ih =>
      intro h
      have h1 := ih fun x hx => h x (List.mem_cons_of_mem _ hx)
      have := h l (List.mem_cons_self ..)
      simp only [sumT, List.length_cons]
      omega
  have hs : sumT t ≤ 1000000 := by have := hb t hall; omega
  go_enter Tryz.func63, Tryz.ntmps63
  go_wp2
  go_loop [3, 7] (fun q i => ∃ k l : Nat, k ≤ t.length ∧ i = .int .i64 k ∧ q = .int .i64 l ∧ Hid (l + sumT (t.drop k) = sumT t)) (fun _ i => t.length - (intOf i).toNat)
  case atStart => exact ⟨0, 0, Nat.zero_le _, rfl, rfl, hide (by simp)⟩
  case round =>
    obtain ⟨k, l, hk, rfl, rfl, HL⟩ := hrel
    have hl := HL.out
    by_cases hlt : k < t.length
    · obtain ⟨b, off, a, c', rfl, hbb, hc0, hle, hcm, hr⟩ := h.get hlt
      have hd := sumT_drop t k hlt
      have hx1 : l + t[k].length ≤ 1000000 := by omega
      have HD := hide hd
      clear hd hl
      go_wp2
      go_round
      case rel => exact ⟨k + 1, l + t[k].length, by omega, by go_num, by go_num, hide (by have := HL.out; have := HD.out; omega)⟩
      case measure => simp [intOf]; omega
    · have hd := sumT_end hlt
      go_wp2
      go_ret
      exact ⟨ret_int (by omega), rfl⟩

end Go.Proofs.YtldepledinolmaaGreatDoor
