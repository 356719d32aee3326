/- Contracts of the model's draws: a source of choices, read one by one. Contracts of the model's draws that read several choices. -/
import Derived.Test.YtldepledinolmaaGreatDoorGEv
import Derived.Test.YtldepledinolmaaGreatDoorGApp
import Derived.Maps.Range
namespace Go.Proofs.YtldepledinolmaaGreatDoor
open Go.RowKit

/-- Block g is a source over the bytes l, read as far as k. -/
structure Src (w : World) (g : Nat) (A : Option Addr) (c : Nat) (l : List Int) (k : Nat) : Prop where
  blk : Bk w g #[.slice A l.length c, .int .i64 (k : Int)] 92
  rd : Rd .u8 w g A l
  b8 : B8 l
  len : l.length ≤ 1048576

theorem l1Source_any (l : List Int) (A : Option Addr) (c : Nat) (w : World) (h : Rd .u8 w w.heap.size A l) (b8 : B8 l) (hl : l.length ≤ 1048576) :
    Calls Tryz.prog 32 #[.slice A l.length c] w fun e w' => e = .returned (.pointer (some ⟨w.heap.size, 0, none⟩)) ∧ Src w' w.heap.size A c l 0 ∧ Below w.heap.size w w' := by
  go_enter Tryz.func32, Tryz.ntmps32
  go_wp2
  go_ret
  exact ⟨rfl, ⟨Bk.new _ _ _, h.alloc (Nat.le_refl _) _, b8, hl⟩, by go_grown⟩

theorem Src.step {w : World} {g : Nat} {A : Option Addr} {c : Nat} {l : List Int} {k : Nat} (h : Src w g A c l k) :
    Src (w.setCell ⟨g, 1, none⟩ (.int .i64 ((k : Int) + 1))) g A c l (k + 1) ∧ w.grownBy (w.setCell ⟨g, 1, none⟩ (.int .i64 ((k : Int) + 1))) (some g) := by
  have hg := grown_set w g 1 (.int .i64 ((k : Int) + 1))
  refine ⟨⟨?_, h.rd.grown hg, h.b8, h.len⟩, hg⟩
  have := h.blk.set_ 1 (.int .i64 ((k : Int) + 1))
  simpa using this
theorem Src.below {w w' : World} {B g : Nat} {A : Option Addr} {c : Nat} {l : List Int} {k : Nat} (h : Src w g A c l k) (hb : Below B w w') (hg : g < B) : Src w' g A c l k :=
  ⟨h.blk.below hb hg, h.rd.below (hb.mono (by omega)), h.b8, h.len⟩
theorem Src.alloc {w : World} {g : Nat} {A : Option Addr} {c : Nat} {l : List Int} {k : Nat} (h : Src w g A c l k) (o : Obj) : Src (w.alloc o) g A c l k := h.below ((Below.refl _ _).alloc (Nat.le_refl _) o) h.blk.lt
theorem Src.lt {w : World} {g : Nat} {A : Option Addr} {c : Nat} {l : List Int} {k : Nat} (h : Src w g A c l k) : g < w.heap.size := h.blk.lt
theorem Src.drewN {w : World} {g : Nat} {A : Option Addr} {c : Nat} {l : List Int} {k : Nat} (h : Src w g A c l k) (n : Nat) : Src (w.drewN n) g A c l k := ⟨h.blk, h.rd, h.b8, h.len⟩

theorem mod_nat (k i n : Nat) : (((k : Int) + (i : Int)) % (n : Int)).toNat = (k + i) % n := by
  rw [← Int.natCast_add, ← Int.natCast_emod, Int.toNat_natCast]

set_option maxHeartbeats 800000 in
theorem l1Next_any (g k : Nat) (n : Int) (A : Option Addr) (c : Nat) (l : List Int) (w : World) (hS : Src w g A c l k) (hk : k ≤ 4000) (h0 : 0 ≤ n) (hn : n ≤ 1000000) :
    Calls Tryz.prog 24 #[.pointer (some ⟨g, 0, none⟩), .int .i64 n] w fun e w' => ∃ r : Int, e = .returned (.int .i64 r) ∧ 0 ≤ r ∧ (r < n ∨ n < 1 ∧ r = 0) ∧ Src w' g A c l (k + 1) ∧ w.grownBy w' (some g) := by
  have HS := hide hS.step
  have q0 : w.cell? ⟨g, 0, none⟩ = some (.slice A l.length c) := hS.blk.cell 0
  have q1 : w.cell? ⟨g, 1, none⟩ = some (.int .i64 (k : Int)) := hS.blk.cell 1
  have f0 := hS.blk.frozen 0
  have f1 := hS.blk.frozen 1
  have hl := hS.len
  have hr := hS.rd
  have b8 := hS.b8
  clear hS
  by_cases h1 : n < 1
  · go_enter Tryz.func24, Tryz.ntmps24
    go_wp2
    go_ret
    exact ⟨0, rfl, by omega, .inr ⟨by omega, rfl⟩, HS.out⟩
  · by_cases hl0 : l.length = 0
    · have e0 : ((l.length : Int) == 0) = true := by rw [hl0]; rfl
      have HL := hide hl0
      clear hl0
      go_enter Tryz.func24, Tryz.ntmps24
      go_wp2
      go_ret
      exact ⟨_, rfl, Int.emod_nonneg _ (by omega), .inl (Int.emod_lt_of_pos _ (by omega)), HS.out⟩
    · have e0 : ((l.length : Int) == 0) = false := beq_eq_false_iff_ne.2 (by omega)
      have i0 : k % l.length < l.length := Nat.mod_lt _ (by omega)
      have i1 : (k + 1) % l.length < l.length := Nat.mod_lt _ (by omega)
      have i2 : (k + 2) % l.length < l.length := Nat.mod_lt _ (by omega)
      obtain ⟨b, off, rfl, hbg, hc⟩ := hr.all (by omega)
      have hne : ¬ g = b := by omega
      have c0 := hc _ i0
      have c1 := hc _ i1
      have c2 := hc _ i2
      have r0 := b8.get _ i0
      have r1 := b8.get _ i1
      have r2 := b8.get _ i2
      obtain ⟨x0, hx0⟩ : ∃ x, x = l[k % l.length] := ⟨_, rfl⟩
      obtain ⟨x1, hx1⟩ : ∃ x, x = l[(k + 1) % l.length] := ⟨_, rfl⟩
      obtain ⟨x2, hx2⟩ : ∃ x, x = l[(k + 2) % l.length] := ⟨_, rfl⟩
      rw [← hx0] at c0 r0
      rw [← hx1] at c1 r1
      rw [← hx2] at c2 r2
      clear hx0 hx1 hx2 hc
      have n1 : (((k : Int) + 1) % (l.length : Int)).toNat = (k + 1) % l.length := mod_nat k 1 l.length
      have n2 : (((k : Int) + 2) % (l.length : Int)).toNat = (k + 2) % l.length := mod_nat k 2 l.length
      have m1 := Int.emod_nonneg ((k : Int) + 1) (show (l.length : Int) ≠ 0 by omega)
      have m2 := Int.emod_nonneg ((k : Int) + 2) (show (l.length : Int) ≠ 0 by omega)
      have l1 := Int.emod_lt_of_pos ((k : Int) + 1) (show (0 : Int) < (l.length : Int) by omega)
      have l2 := Int.emod_lt_of_pos ((k : Int) + 2) (show (0 : Int) < (l.length : Int) by omega)
      have d0 : 0 ≤ (k : Int) / (l.length : Int) := Int.ediv_nonneg (by omega) (by omega)
      have d1 : (k : Int) / (l.length : Int) ≤ 4000 := Int.le_trans (Int.ediv_le_self _ (by omega)) (by omega)
      obtain ⟨D, hD⟩ : ∃ D, (k : Int) / (l.length : Int) = D := ⟨_, rfl⟩
      rw [hD] at d0 d1
      by_cases h200 : n ≤ 200
      · go_enter Tryz.func24, Tryz.ntmps24
        go_wp2
        go_quiet (fail)
        go_wp2
        go_ret
        exact ⟨(x0 + D * 37) % n, rfl, Int.emod_nonneg _ (by omega), .inl (Int.emod_lt_of_pos _ (by omega)), HS.out.1.drewN _, grown_drewN HS.out.2 _⟩
      · go_enter Tryz.func24, Tryz.ntmps24
        go_wp2
        go_quiet (fail)
        go_wp2
        obtain ⟨W2, hW2⟩ : ∃ W2 : World, W2 = (w.setCell ⟨g, 1, none⟩ (.int .i64 ((k : Int) + 1))).drewN nq := ⟨_, rfl⟩
        have S2 : Src W2 g (some ⟨b, off, none⟩) c l (k + 1) ∧ w.grownBy W2 (some g) := by rw [hW2]; exact ⟨HS.out.1.drewN _, grown_drewN HS.out.2 _⟩
        have c1 : W2.cell? ⟨b, off + (k + 1) % l.length, none⟩ = some (.int .u8 x1) := S2.2.cell c1 (by simp; omega)
        have c2 : W2.cell? ⟨b, off + (k + 2) % l.length, none⟩ = some (.int .u8 x2) := S2.2.cell c2 (by simp; omega)
        rw [← hW2]
        clear hW2 c0 HS q0 q1 f0 f1 hr
        have q0 : W2.cell? ⟨g, 0, none⟩ = some (.slice (some ⟨b, off, none⟩) l.length c) := S2.1.blk.cell 0
        by_cases h60 : n ≤ 60000
        · go_quiet (fail)
          go_wp2
          go_ret
          exact ⟨((x0 + D * 37) * 251 + x1 * 13 + k) % n, rfl, Int.emod_nonneg _ (by omega), .inl (Int.emod_lt_of_pos _ (by omega)), S2.1.drewN _, grown_drewN S2.2 _⟩
        · go_quiet (fail)
          go_wp2
          obtain ⟨W3, hW3⟩ : ∃ W3 : World, W3 = W2.drewN nq := ⟨_, rfl⟩
          have S3 : Src W3 g (some ⟨b, off, none⟩) c l (k + 1) ∧ w.grownBy W3 (some g) := by rw [hW3]; exact ⟨S2.1.drewN _, grown_drewN S2.2 _⟩
          have c2 : W3.cell? ⟨b, off + (k + 2) % l.length, none⟩ = some (.int .u8 x2) := by rw [hW3]; exact c2
          rw [← hW3]
          clear hW3 c1 q0
          have q0 : W3.cell? ⟨g, 0, none⟩ = some (.slice (some ⟨b, off, none⟩) l.length c) := S3.1.blk.cell 0
          go_quiet (fail)
          go_wp2
          go_ret
          exact ⟨(((x0 + D * 37) * 251 + x1 * 13 + k) * 257 + x2) % n, rfl, Int.emod_nonneg _ (by omega), .inl (Int.emod_lt_of_pos _ (by omega)), S3.1.drewN _, grown_drewN S3.2 _⟩
end Go.Proofs.YtldepledinolmaaGreatDoor
namespace Go.Proofs.YtldepledinolmaaGreatDoor
open Go.RowKit

theorem grown_alloc {w : World} {o : Obj} {w' : World} {row : Option Nat} (h : (w.alloc o).grownBy w' row) : w.grownBy w' row := (World.grownBy_alloc w o row).trans h

theorem l1Chance_any (g k : Nat) (n : Int) (A : Option Addr) (c : Nat) (l : List Int) (w : World) (hS : Src w g A c l k) (hk : k ≤ 4000) (h0 : 0 ≤ n) (hn : n ≤ 1000000) :
    Calls Tryz.prog 25 #[.pointer (some ⟨g, 0, none⟩), .int .i64 n] w fun e w' => ∃ b : Bool, e = .returned (.bool b) ∧ Src w' g A c l (k + 1) ∧ w.grownBy w' (some g) := by
  go_enter Tryz.func25, Tryz.ntmps25
  go_wp2_with fail
  refine (l1Next_any g k n A c l w hS hk h0 hn).mono ?_
  rintro e w1 ⟨r, rfl, _, _, hS1, hg1⟩
  go_wp2
  go_ret
  exact ⟨_, rfl, hS1, hg1⟩

theorem l1Pick_any (g k h : Nat) (zs : List Int) (A : Option Addr) (c : Nat) (l : List Int) (t : TypeId) (w : World) (hS : Src w g A c l k) (hk : k ≤ 4000) (hz : 0 < zs.length) (hz2 : zs.length ≤ 1000) (hh : Bk w h (zs.map (Value.int .i64)).toArray t) (hgh : h ≠ g) :
    Calls Tryz.prog 26 #[.pointer (some ⟨g, 0, none⟩), .slice (some ⟨h, 0, none⟩) zs.length zs.length] w fun e w' => ∃ r : Int, e = .returned (.int .i64 r) ∧ r ∈ zs ∧ Src w' g A c l (k + 1) ∧ w.grownBy w' (some g) := by
  go_enter Tryz.func26, Tryz.ntmps26
  go_wp2_with fail
  refine (l1Next_any g k _ A c l w hS hk (by omega) (by omega)).mono ?_
  rintro e w1 ⟨r, rfl, h0, h1, hS1, hg1⟩
  have hr : r < zs.length := by omega
  obtain ⟨q, rfl⟩ := Int.eq_ofNat_of_zero_le h0
  have hq : q < zs.length := by omega
  have hc : w1.cell? ⟨h, q, none⟩ = some (.int .i64 zs[q]) := by
    rw [(hh.grown hg1 (by simp; exact hgh)).cell q]
    simp [hq]
  clear h1
  go_wp2
  go_ret
  exact ⟨_, rfl, List.getElem_mem hq, hS1, hg1⟩

set_option maxHeartbeats 400000 in
theorem l1Some_any (g k : Nat) (n : Nat) (A : Option Addr) (c : Nat) (l : List Int) (w : World) (hS : Src w g A c l k) (hk : k + n ≤ 1000) :
    Calls Tryz.prog 33 #[.pointer (some ⟨g, 0, none⟩), .int .i64 n] w fun e w' => ∃ xs D d, e = .returned (.slice D xs.length d) ∧ xs.length = n ∧ B8 xs ∧ w'.ownsRow w.heap.size 5 1 (.slice D xs.length d) xs.length (xs.map (Value.int .u8)) ∧ Src w' g A c l (k + n) ∧ w.grownBy w' (some g) := by
  obtain ⟨i0, hi, hz0, hz1, hz2⟩ := info_parts info_u8
  have hgl := hS.lt
  go_enter Tryz.func33, Tryz.ntmps33
  go_wp2
  go_loopw [1, 5] (fun q v wr => ∃ (xs : List Int) (m : Nat), m + xs.length = n ∧ q = .int .i64 m ∧ B8 xs ∧ wr.ownsRow w.heap.size 5 1 v xs.length (xs.map (Value.int .u8)) ∧ Src wr g A c l (k + xs.length) ∧ w.grownBy wr (some g)) (fun q _ _ => (intOf q).toNat)
  case atStart => exact ⟨[], n, rfl, rfl, by intro x hx; simp at hx, World.ownsRow_lit w #[] 0 (Nat.le_refl _) (by simp) rfl, hS.alloc _, World.grownBy_alloc _ _ _⟩
  case round =>
    obtain ⟨xs, m, hm, rfl, h8, ho, hSr, hgr⟩ := hrel
    have HM := hide hm
    have hx1 : xs.length ≤ n := by omega
    clear hm
    have hsz := hgr.size
    by_cases hlt : 0 < m
    · have hx2 : m + xs.length ≤ n := by have := HM.out; omega
      go_wp2_with fail
      refine (l1Next_any g (k + xs.length) _ A c l wr hSr (by omega) (by omega) (by omega)).mono ?_
      rintro e w1 ⟨r, rfl, h0, h1, hS1, hg1⟩
      have hr : r < 256 := by omega
      have ho1 := ho.kept hg1 (.inr (fun e => own_apart ho g (.inl hgl) e.symm))
      have hgr1 := hgr.trans hg1
      have hsz1 := hgr1.size
      clear h1
      go_wp2_with (at_builtin; refine wpList_append_own_at _ rfl _ _ 22 rfl w.heap.size 5 i0 (.int .u8 0) 1 1 Tryz.underlying22 hi hz0 hz1 hz2 rfl (by decide) _ _ _ rfl (ho1.alloc _) ⟨w1.heap.size, 0, none⟩ 1 1 [.int .u8 r] rfl rfl (cell_one_new _ _ _) (one_cell _ _) (by unfold maxLen; omega) (by omega) (by simp; omega) ?_; intro v' w2 hown' hgrow _ hat)
      have hbl : Below w.heap.size w1 w2 := ((Below.refl _ _).alloc hsz1 _).trans (grown_below (ho1.alloc (.cells #[.int .u8 r] 5)) hgrow (by simp; omega) (Nat.le_refl _))
      have hgr2 : w.grownBy w2 (some g) := hgr1.andThen (grown_alloc hgrow) (fun j hj => .inl (ho1.lt j hj).1)
      clear hgrow hat
      go_roundw
      case rel => exact ⟨xs ++ [r], m - 1, by have := HM.out; simp; omega, by go_num, h8.append (B8.one h0 hr), by simpa using hown', by have := hS1.below hbl hgl; simpa [Nat.add_assoc] using this, hgr2⟩
      case measure => simp [intOf]; omega
    · obtain ⟨D, d, hv⟩ := own_shape ho
      have HV := hide hv
      clear hv
      go_wp2
      go_ret
      have hn : xs.length = n := by have := HM.out; omega
      have ho2 := ho
      rw [HV.out] at ho2
      exact ⟨xs, D, d, congrArg Ending.returned HV.out, hn, h8, ho2, hn ▸ hSr, hgr⟩

/-- A copy in new memory. -/
theorem l1Copy_any (l : List Int) (A : Option Addr) (c : Nat) (w : World) (hl : l.length ≤ 1048576) (hR : Rd .u8 w w.heap.size A l) :
    Calls Tryz.prog 61 #[.slice A l.length c] w fun e w' => ∃ D d, e = .returned (.slice D l.length d) ∧ w'.ownsRow w.heap.size 5 1 (.slice D l.length d) l.length (l.map (Value.int .u8)) ∧ Below w.heap.size w w' := by
  obtain ⟨i0, hi, hz0, hz1, hz2⟩ := info_parts info_u8
  go_enter Tryz.func61, Tryz.ntmps61
  go_wp2_with (at_builtin; refine wpList_append_rd _ rfl _ _ 22 rfl w.heap.size 5 i0 (.int .u8 0) 1 Tryz.underlying22 hi hz0 hz1 hz2 rfl .u8 _ _ _ rfl (World.ownsRow_lit w #[] 0 (Nat.le_refl _) (by simp) rfl) A l c w.heap.size rfl (hR.alloc (Nat.le_refl _) _) (by unfold maxLen; omega) (by omega) (by simp) ?_; intro v' w1 hown' hgrow hat)
  simp only [Nat.zero_add, List.nil_append] at hown'
  obtain ⟨D, d, hv⟩ := own_shape hown'
  have hb : Below w.heap.size w w1 := ((Below.refl _ _).alloc (Nat.le_refl _) _).grown hgrow (by simp) (fun k hk => by simp [Act.eval, Value.ownBlock] at hk; omega)
  go_ret
  have ho := hown'
  rw [hv] at ho
  exact ⟨D, d, congrArg Ending.returned hv, ho, hb⟩
end Go.Proofs.YtldepledinolmaaGreatDoor
