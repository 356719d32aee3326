/- What the laws' walks rest upon, part 29. -/
import Derived.Test.YtnnfkmjhaljplaaGreatDoorM02
import Derived.Test.YtnnfkmjhaljplaaGreatDoorM04
import Derived.Maps.Range
import Derived.Test.YtnnfkmjhaljplaaGreatDoorM09
import Derived.Test.YtnnfkmjhaljplaaGreatDoorM01
import Derived.Laws.BitsAllLaws
import Derived.Test.YtnnfkmjhaljplaaGreatDoorM16
import Derived.Test.YtnnfkmjhaljplaaGreatDoorM24
import Derived.Test.YtnnfkmjhaljplaaGreatDoorM06
namespace Go.Proofs.YtnnfkmjhaljplaaGreatDoor
open Go.RowKit
end Go.Proofs.YtnnfkmjhaljplaaGreatDoor
namespace Go.Proofs.YtnnfkmjhaljplaaGreatDoor
open Go.RowKit
theorem B8.set_ {xs : List Int} (h : B8 xs) (q : Nat) {r : Int} (h0 : 0 ≤ r) (h1 : r < 256) : B8 (xs.set q r) := fun x hx => by
  rcases List.mem_or_eq_of_mem_set hx with a | a
  · exact h x a
  · rw [a]; exact ⟨h0, h1⟩
theorem own_head {w : World} {base : Nat} {e : TypeId} {n q c : Nat} {A : Option Addr} {xs : List Value} (h : w.ownsRow base e 1 (.slice A n c) n xs) (hq : q ≤ n) : w.ownsRow base e 1 (.slice A q c) q (xs.take q) := by
  have h1 := h.1
  refine ⟨by rw [List.length_take]; omega, ?_⟩
  rcases h.2 with ⟨h0, hv⟩ | ⟨g, cap, cur, hv, hb, hg, hle, hm, hs, ht⟩
  · have hq0 : q = 0 := by omega
    subst hv
    subst hq0
    exact .inl ⟨h0, rfl⟩
  · refine .inr ⟨g, cap, cur, ?_, hb, hg, by omega, hm, hs, ?_⟩
    · simp only [Value.slice.injEq, true_and] at hv ⊢
      exact hv
    · rw [← ht, List.take_take]
      congr 1
      omega
end Go.Proofs.YtnnfkmjhaljplaaGreatDoor
namespace Go.Proofs.YtnnfkmjhaljplaaGreatDoor
open Go.RowKit
set_option maxHeartbeats 400000 in
theorem l1Ints_any (l : List Int) (A : Option Addr) (c : Nat) (w : World) (hm : l.length ≤ 1000) (hR : Rd .i64 w w.heap.size A l) :
    Calls Tryz.prog 105 #[.slice A l.length c] w fun e w' => ∃ v, e = .returned v ∧ OwnI w w.heap.size l v w' := by
  obtain ⟨i0, hi, hz0, hz1, hz2⟩ := info_parts info_i64
  have hb := (Below.refl w.heap.size w).alloc (Nat.le_refl _) (Obj.cells #[] 2)
  have hlit : (w.alloc (Obj.cells #[] 2)).ownsRow w.heap.size 2 1 (.slice (some ⟨w.heap.size, 0, none⟩) 0 0) 0 [] := World.ownsRow_lit w #[] 0 (Nat.le_refl _) (by simp) rfl
  go_enter Tryz.func105, Tryz.ntmps105
  go_wp2_with (at_builtin; refine wpList_append_rd _ rfl (.tmp 3) (.tmp 4) 25 rfl w.heap.size 2 i0 (.int .i64 0) 8 Tryz.underlying25 hi hz0 hz1 hz2 rfl .i64 _ _ _ rfl hlit A l c w.heap.size rfl (hR.alloc (Nat.le_refl _) _) (by unfold maxLen; omega) (by omega) (by simp) ?_; intro v' w' hown' hgrow hat)
  simp only [Nat.zero_add] at hown'
  go_ret
  exact ⟨v', rfl, by simpa using hown', hb.trans (grown_below hlit hgrow (by simp) (Nat.le_refl _)), Nat.le_refl _⟩

end Go.Proofs.YtnnfkmjhaljplaaGreatDoor
