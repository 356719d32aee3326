/- Contracts of the model's draws that read several choices. -/
import Derived.Test.YtkeifkdaddmkfaaDoorDraw
import Derived.Test.YtkeifkdaddmkfaaDoorAppend
import Derived.Maps.Range
namespace Go.Proofs.YtkeifkdaddmkfaaDoor
open Go.RowKit

theorem grown_alloc {w : World} {o : Obj} {w' : World} {row : Option Nat} (h : (w.alloc o).grownBy w' row) : w.grownBy w' row := (World.grownBy_alloc w o row).trans h

theorem l1Chance_any (g k : Nat) (n : Int) (A : Option Addr) (c : Nat) (l : List Int) (w : World) (hS : Src w g A c l k) (hk : k ≤ 1000) (h0 : 0 ≤ n) (hn : n ≤ 1000000) :
    Calls Tryd.prog 48 #[.pointer (some ⟨g, 0, none⟩), .int .i64 n] w fun e w' => ∃ b : Bool, e = .returned (.bool b) ∧ Src w' g A c l (k + 1) ∧ w.grownBy w' (some g) := by
  go_enter Tryd.func48, Tryd.ntmps48
  go_wp2_with fail
  refine (l1Next_any g k n A c l w hS hk h0 hn).mono ?_
  rintro e w1 ⟨r, rfl, _, _, hS1, hg1⟩
  go_wp2
  go_ret
  exact ⟨_, rfl, hS1, hg1⟩

theorem l1Pick_any (g k h : Nat) (zs : List Int) (A : Option Addr) (c : Nat) (l : List Int) (t : TypeId) (w : World) (hS : Src w g A c l k) (hk : k ≤ 1000) (hz : 0 < zs.length) (hz2 : zs.length ≤ 1000) (hh : Bk w h (zs.map (Value.int .i64)).toArray t) (hgh : h ≠ g) :
    Calls Tryd.prog 60 #[.pointer (some ⟨g, 0, none⟩), .slice (some ⟨h, 0, none⟩) zs.length zs.length] w fun e w' => ∃ r : Int, e = .returned (.int .i64 r) ∧ r ∈ zs ∧ Src w' g A c l (k + 1) ∧ w.grownBy w' (some g) := by
  go_enter Tryd.func60, Tryd.ntmps60
  go_wp2_with fail
  refine (l1Next_any g k _ A c l w hS hk (by omega) (by omega)).mono ?_
  rintro e w1 ⟨r, rfl, h0, h1, hS1, hg1⟩
  have hr : r < zs.length := by omega
  obtain ⟨q, rfl⟩ := Int.eq_ofNat_of_zero_le h0
  have hq : q < zs.length := by omega
  have hc : w1.cell? ⟨h, q, none⟩ = some (.int .i64 zs[q]) := by
    rw [(hh.grown hg1 (by simp; exact hgh)).cell q]
    simp [hq]
  clear h1
  go_wp2
  go_ret
  exact ⟨_, rfl, List.getElem_mem hq, hS1, hg1⟩

set_option maxHeartbeats 400000 in
theorem l1Some_any (g k : Nat) (n : Nat) (A : Option Addr) (c : Nat) (l : List Int) (w : World) (hS : Src w g A c l k) (hk : k + n ≤ 1000) :
    Calls Tryd.prog 39 #[.pointer (some ⟨g, 0, none⟩), .int .i64 n] w fun e w' => ∃ xs D d, e = .returned (.slice D xs.length d) ∧ xs.length = n ∧ B8 xs ∧ w'.ownsRow w.heap.size 5 1 (.slice D xs.length d) xs.length (xs.map (Value.int .u8)) ∧ Src w' g A c l (k + n) ∧ w.grownBy w' (some g) := by
  obtain ⟨i0, hi, hz0, hz1, hz2⟩ := info_parts info_u8
  have hgl := hS.lt
  go_enter Tryd.func39, Tryd.ntmps39
  go_wp2
  go_loopw [1, 5] (fun q v wr => ∃ (xs : List Int) (m : Nat), m + xs.length = n ∧ q = .int .i64 m ∧ B8 xs ∧ wr.ownsRow w.heap.size 5 1 v xs.length (xs.map (Value.int .u8)) ∧ Src wr g A c l (k + xs.length) ∧ w.grownBy wr (some g)) (fun q _ _ => (intOf q).toNat)
  case atStart => exact ⟨[], n, rfl, rfl, by intro x hx; simp at hx, World.ownsRow_lit w #[] 0 (Nat.le_refl _) (by simp) rfl, hS.alloc _, World.grownBy_alloc _ _ _⟩
  case round =>
    obtain ⟨xs, m, hm, rfl, h8, ho, hSr, hgr⟩ := hrel
    have HM := hide hm
    have hx1 : xs.length ≤ n := by omega
    clear hm
    have hsz := hgr.size
    by_cases hlt : 0 < m
    · have hx2 : m + xs.length ≤ n := by have := HM.out; omega
      go_wp2_with fail
      refine (l1Next_any g (k + xs.length) _ A c l wr hSr (by omega) (by omega) (by omega)).mono ?_
      rintro e w1 ⟨r, rfl, h0, h1, hS1, hg1⟩
      have hr : r < 256 := by omega
      have ho1 := ho.kept hg1 (.inr (fun e => own_apart ho g (.inl hgl) e.symm))
      have hgr1 := hgr.trans hg1
      have hsz1 := hgr1.size
      clear h1
      go_wp2_with (at_builtin; refine wpList_append_own_at _ rfl _ _ 22 rfl w.heap.size 5 i0 (.int .u8 0) 1 1 Tryd.underlying22 hi hz0 hz1 hz2 rfl (by decide) _ _ _ rfl (ho1.alloc _) ⟨w1.heap.size, 0, none⟩ 1 1 [.int .u8 r] rfl rfl (cell_one_new _ _ _) (one_cell _ _) (by unfold maxLen; omega) (by omega) (by simp; omega) ?_; intro v' w2 hown' hgrow _ hat)
      have hbl : Below w.heap.size w1 w2 := ((Below.refl _ _).alloc hsz1 _).trans (grown_below (ho1.alloc (.cells #[.int .u8 r] 5)) hgrow (by simp; omega) (Nat.le_refl _))
      have hgr2 : w.grownBy w2 (some g) := hgr1.andThen (grown_alloc hgrow) (fun j hj => .inl (ho1.lt j hj).1)
      clear hgrow hat
      go_roundw
      case rel => exact ⟨xs ++ [r], m - 1, by have := HM.out; simp; omega, by go_num, h8.append (B8.one h0 hr), by simpa using hown', by have := hS1.below hbl hgl; simpa [Nat.add_assoc] using this, hgr2⟩
      case measure => simp [intOf]; omega
    · obtain ⟨D, d, hv⟩ := own_shape ho
      have HV := hide hv
      clear hv
      go_wp2
      go_ret
      have hn : xs.length = n := by have := HM.out; omega
      have ho2 := ho
      rw [HV.out] at ho2
      exact ⟨xs, D, d, congrArg Ending.returned HV.out, hn, h8, ho2, hn ▸ hSr, hgr⟩

end Go.Proofs.YtkeifkdaddmkfaaDoor
