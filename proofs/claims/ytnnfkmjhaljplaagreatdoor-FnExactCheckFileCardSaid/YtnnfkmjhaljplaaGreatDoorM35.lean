/- What the laws' walks rest upon, part 35. -/
import Derived.Test.YtnnfkmjhaljplaaGreatDoorM34
import Derived.Test.YtnnfkmjhaljplaaGreatDoorM24
import Derived.Test.YtnnfkmjhaljplaaGreatDoorM33
import Derived.Test.YtnnfkmjhaljplaaGreatDoorM21
import Derived.Test.YtnnfkmjhaljplaaGreatDoorM20
import Derived.Test.YtnnfkmjhaljplaaGreatDoorM02
namespace Go.Proofs.YtnnfkmjhaljplaaGreatDoor
open Go.RowKit
set_option maxRecDepth 100000 in
set_option maxHeartbeats 1600000 in
theorem implCF_any (file : List Int) (os : List Wls) (A A' : Option Addr) (c c' : Nat) (aN aS aE : Addr) (w : World) (hm : file.length ≤ 1048576) (hc : file.length ≤ c) (hm' : os.length ≤ maxLen) (hR : Rd .u8 w w.heap.size A file) (b8 : B8 file) (h' : RdW w w.heap.size A' os) (hT : Tab w) (hS : Sent aN aS aE w) :
    Calls Tryz.prog 24 #[.slice A file.length c, .slice A' os.length c'] w (CfPost file os w) := by
  unfold CfPost
  obtain ⟨RC, RA, RL, hRR⟩ : ∃ a b l, cfR file os = (a, b, l) := ⟨_, _, _, rfl⟩
  rw [hRR]
  dsimp only
  obtain ⟨X, hX⟩ : ∃ X, X = ((w.alloc (Obj.cells #[.int .i64 0, .bool false, .slice none 0 0] 62)).alloc (Obj.cells #[.slice A file.length c, .string { data := #[] }, .int .i64 0, .slice A' os.length c', .slice none 0 0, .int .i64 0, .bool false, .slice none 0 0] 134)) := ⟨_, rfl⟩
  obtain ⟨k0, k1, hz, B0⟩ := two_new _ _ _ _ _ X hX
  obtain ⟨Y, hY⟩ : ∃ Y, Y = X.alloc (Obj.cells #[fnP 89, fnP 102] 138) := ⟨_, rfl⟩
  have kY0 : Bk Y w.heap.size #[.int .i64 0, .bool false, .slice none 0 0] 62 := by rw [hY]; exact k0.alloc _
  have kY1 : Bk Y (w.heap.size + 1) #[.slice A file.length c, .string { data := #[] }, .int .i64 0, .slice A' os.length c', .slice none 0 0, .int .i64 0, .bool false, .slice none 0 0] 134 := by rw [hY]; exact k1.alloc _
  have kY2 : Bk Y X.heap.size #[fnP 89, fnP 102] 138 := by rw [hY]; exact Bk.new _ _ _
  have BY : Below w.heap.size w Y := by rw [hY]; exact B0.alloc B0.size _
  have zY : Y.heap.size = w.heap.size + 1 + 1 + 1 := by rw [hY]; simp; exact hz
  rw [hz] at kY2
  have ST := hide (stagesP_any [89, 102] (w.heap.size + 1 + 1) 2 138 Y (by decide) kY2)
  have HX := hide hX
  have HY := hide hY
  clear hX hY k0 k1 B0 kY2
  go_enter Tryz.func24, Tryz.ntmps24
  go_wp2_with fail
  rw [← HX.out, ← HY.out]
  refine ST.out.mono ?_
  rintro e w1 ⟨D0, d0, rfl, o1, b1⟩
  have z1 := b1.size
  have B1 := BY.trans (b1.mono BY.size)
  have j0 := kY0.kept b1
  have j1 := kY1.kept b1
  obtain ⟨C, t, hC⟩ : ∃ C t, dc file = (C, t) := ⟨_, _, rfl⟩
  have hlen : t.length ≤ maxLen := by have := (dc_few file).1; rw [hC] at this; unfold maxLen; exact Nat.le_trans this (by omega)
  have FP := firstP_any [89, 102] (w.heap.size + 1) Y.heap.size d0 D0 (CfP0 file os A A' c c' w) (CfQ file os A A' c c' C t w) w1 (by decide) (fun b hb => by have := (o1.lt b hb).1; omega) o1 (cf_chain file os A A' c c' aN aS aE w C t hC hm hc hlen hm' hR b8 h' hT hS) ⟨j1, B1⟩
  have HFP := hide FP
  clear FP ST kY0 kY1 j1 o1
  go_wp2_with fail
  refine HFP.out.mono ?_
  rintro e w2 ⟨cd, rfl, hQ, g2⟩
  have m0 := j0.grown g2 (by simp)
  have B2 := B1.grown g2 B1.size (fun b e => by cases e; omega)
  have e0 := (m0.cell 0).trans (rfl : _ = some (Value.int .i64 0))
  have e1 := (m0.cell 1).trans (rfl : _ = some (Value.bool false))
  have e2 := (m0.cell 2).trans (rfl : _ = some (Value.slice none 0 0))
  have h0 := m0.frozen 0
  have h1 := m0.frozen 1
  have h2 := m0.frozen 2
  clear HFP m0 j0 g2 B1 b1
  by_cases hc0 : cd = 0
  · subst hc0
    rcases hQ with ⟨hq1, hq2⟩ | ⟨hq1, hq2, D, d, Z, z, K, oz⟩
    · exact absurd hq1.symm hq2
    · have p5 := (K.cell 5).trans (rfl : _ = some (Value.int .i64 (chkR t os).1))
      have p6 := (K.cell 6).trans (rfl : _ = some (Value.bool (chkR t os).2.1))
      have p7 := (K.cell 7).trans (rfl : _ = some (Value.slice Z (chkR t os).2.2.length z))
      have hr : cfR file os = chkR t os := by rw [cfR_ok (by rw [hC]; exact hq1), hC]
      rw [hRR] at hr
      rw [← hr] at p5 p6 p7 oz
      dsimp only at p5 p6 p7 oz
      have oz2 := ownsRow_setCell_below (ownsRow_setCell_below (ownsRow_setCell_below oz (a := ⟨w.heap.size, 0, none⟩) (by simp only; omega) (.int .i64 RC)) (a := ⟨w.heap.size, 1, none⟩) (by simp only; omega) (.bool RA)) (a := ⟨w.heap.size, 2, none⟩) (by simp only; omega) (.slice Z RL.length z)
      have HB := hide (((B2.setCell (p := ⟨w.heap.size, 0, none⟩) (Nat.le_refl _) (.int .i64 RC)).setCell (p := ⟨w.heap.size, 1, none⟩) (Nat.le_refl _) (.bool RA)).setCell (p := ⟨w.heap.size, 2, none⟩) (Nat.le_refl _) (.slice Z RL.length z))
      clear K hq1 hq2 hr hRR hC B2
      go_wp2
      refine bodyPost_ret (v := .agg #[.int .i64 RC, .bool RA, .slice Z RL.length z]) (by simp [results, Tryz.results24, go_sem, e0, e1, e2]) rfl ?_
      exact ⟨Z, z, rfl, own_mono oz2 (by omega), HB.out⟩
  · have hr : cfR file os = (cd, false, []) := by
      rcases hQ with ⟨hq1, hq2⟩ | ⟨hq1, hq2, _⟩
      · rw [cfR_bad (by rw [hC]; exact hq2), hC, hq1]
      · rw [cfR_ok (by rw [hC]; exact hq1), hC]
        obtain ⟨_, c1, c2⟩ := chk_code t os
        have c3 := c2 (by rw [← hq2]; exact hc0)
        have c4 := c1 c3
        show chkR t os = (cd, false, [])
        rw [hq2, ← c3, ← c4]
    rw [hRR] at hr
    obtain ⟨rfl, rfl, rfl⟩ : RC = cd ∧ RA = false ∧ RL = [] := by simpa using hr
    have u0 : (RC != 0) = true := bne_iff_ne.2 hc0
    have HB := hide (((B2.setCell (p := ⟨w.heap.size, 0, none⟩) (Nat.le_refl _) (.int .i64 RC)).setCell (p := ⟨w.heap.size, 1, none⟩) (Nat.le_refl _) (.bool false)).setCell (p := ⟨w.heap.size, 2, none⟩) (Nat.le_refl _) (.slice none 0 0))
    clear hQ hRR hC B2 hc0
    go_wp2
    refine bodyPost_ret (v := .agg #[.int .i64 RC, .bool false, .slice none 0 0]) (by simp [results, Tryz.results24, go_sem, e0, e1, e2]) rfl ?_
    exact ⟨none, 0, rfl, World.ownsRow_nil _ _ _ _, HB.out⟩
end Go.Proofs.YtnnfkmjhaljplaaGreatDoor
namespace Go.Proofs.YtnnfkmjhaljplaaGreatDoor
open Go.RowKit
theorem eqCheckResult_same (a : Int) (f : Bool) (l : List Int) (A A' : Option Addr) (c c' : Nat) (w : World) (hm : l.length ≤ maxLen) (h : Rd .i64 w w.heap.size A l) (h' : Rd .i64 w w.heap.size A' l) :
    Calls Tryz.prog 36 #[.agg #[.int .i64 a, .bool f, .slice A l.length c], .agg #[.int .i64 a, .bool f, .slice A' l.length c']] w fun e w' => e = .returned (.bool true) ∧ Below w.heap.size w w' := by
  go_enter Tryz.func36, Tryz.ntmps36
  go_wp2_with fail
  refine (eqInt64S_same l A A' c c' _ hm ((h.alloc (Nat.le_refl _) _).alloc (by simp) _).lt ((h'.alloc (Nat.le_refl _) _).alloc (by simp) _).lt).mono ?_
  rintro e w1 ⟨rfl, hb⟩
  go_wp2
  go_ret
  exact ⟨rfl, below_alloc (below_alloc hb)⟩
theorem markCheckResult_any (base : Nat) (a : Int) (f : Bool) (A : Option Addr) (n c k : Nat) (xs : List Value) (w : World) (hk : k + n ≤ 1073741824) (h : w.ownsRow base 2 1 (.slice A n c) n xs) :
    Calls Tryz.prog 41 #[.agg #[.int .i64 a, .bool f, .slice A n c], .int .i64 k] w fun e w' => e = .returned (.int .i64 ((k + n : Nat) : Int)) ∧ w'.ownsRow base 2 1 (.slice A n c) n ((mkI k n).map (Value.int .i64)) ∧ w.grownBy w' (Value.slice A n c).ownBlock := by
  go_enter Tryz.func41, Tryz.ntmps41
  go_wp2_with fail
  refine (markInt64S_any base A n c k xs _ hk (h.alloc _)).mono ?_
  rintro e w1 ⟨rfl, ho, hg⟩
  go_wp2
  go_ret
  exact ⟨rfl, ho, (World.grownBy_alloc _ _ _).trans hg⟩
theorem heldCheckResult_marked (B : Nat) (a : Int) (f : Bool) (A : Option Addr) (n c k : Nat) (w : World) (hk : k + n ≤ 1073741824) (hB : B ≤ w.heap.size) (h : Rd .i64 w B A (mkI k n)) :
    Calls Tryz.prog 42 #[.agg #[.int .i64 a, .bool f, .slice A n c], .int .i64 k] w fun e w' => e = .returned (.int .i64 ((k + n : Nat) : Int)) ∧ Below w.heap.size w w' := by
  go_enter Tryz.func42, Tryz.ntmps42
  go_wp2_with fail
  refine (heldInt64S_marked B A n c k _ hk (h.alloc hB _)).mono ?_
  rintro e w1 ⟨rfl, rfl⟩
  go_wp2
  go_ret
  exact ⟨rfl, by go_grown⟩
end Go.Proofs.YtnnfkmjhaljplaaGreatDoor
namespace Go.Proofs.YtnnfkmjhaljplaaGreatDoor
open Go.RowKit
theorem OwnW.sparedT {w w' : World} {base lo hi : Nat} {v : Value} {os : List Wls} {us : List Value} (h : OwnW w base v os us) (s : Spared lo hi w w') (hb : hi ≤ base) : OwnW w' base v os us :=
  ⟨s.own _ _ _ _ _ _ h.row (fun b hb' => by have := (h.row.lt b hb').1; omega), h.len, fun i hi' => by
    obtain ⟨u, h1, h2⟩ := h.rows i hi'
    exact ⟨u, h1, s.own _ _ _ _ _ _ h2 (fun z hz => by have := (h2.lt z hz).1; omega)⟩, h.apart⟩
theorem chkR_len (t : List (List Ev)) (os : List Wls) : (chkR t os).2.2.length ≤ 32 := by
  by_cases h0 : odF t os = 0
  · have hev := evsT_few (jdg_ok h0)
    rw [chkR_ok h0]
    show (intR ((rowW t os).getD [])).length ≤ 32
    rw [intR_len]
    cases hr : rowW t os with
    | none => simp
    | some r => have := (firstW_sound t os _ _ _ hr).2; simp only [Option.getD_some]; omega
  · rw [chkR_bad h0]; simp
end Go.Proofs.YtnnfkmjhaljplaaGreatDoor
namespace Go.Proofs.YtnnfkmjhaljplaaGreatDoor
open Go.RowKit
/-- The marks that are laid from k on. -/
def mkL (k n : Nat) : List Int := (List.range n).map fun i => (((k + i) % 256 : Nat) : Int)
/-- After j rounds of marking. -/
def marked (xs : List Value) (k j : Nat) : List Value := (mkL k j).map (Value.int .u8) ++ xs.drop j
theorem marked_zero (xs : List Value) (k : Nat) : marked xs k 0 = xs := by simp [marked, mkL]
theorem marked_all (xs : List Value) (k : Nat) : marked xs k xs.length = (mkL k xs.length).map (Value.int .u8) := by simp [marked]
theorem marked_set (xs : List Value) (k j : Nat) (h : j < xs.length) : (marked xs k j).set j (.int .u8 ((((k + j) % 256 : Nat)) : Int)) = marked xs k (j + 1) := by
  unfold marked
  rw [List.drop_eq_getElem_cons h]
  have e : j = ((mkL k j).map (Value.int IntKind.u8)).length := by simp [mkL]
  conv => lhs; arg 2; rw [e]
  rw [set_append]
  simp [mkL, List.range_succ]
set_option maxHeartbeats 400000 in
theorem markByteS_any (base : Nat) (A : Option Addr) (n c k : Nat) (xs : List Value) (w : World) (hk : k + n ≤ 1073741824) (h : w.ownsRow base 5 1 (.slice A n c) n xs) :
    Calls Tryz.prog 39 #[.slice A n c, .int .i64 k] w fun e w' => e = .returned (.int .i64 ((k + n : Nat) : Int)) ∧ w'.ownsRow base 5 1 (.slice A n c) n ((mkL k n).map (Value.int .u8)) ∧ w.grownBy w' (Value.slice A n c).ownBlock := by
  have hl : xs.length = n := by simpa using h.1
  go_enter Tryz.func39, Tryz.ntmps39
  go_wp2
  go_loopw [1, 5] (fun q i wr => ∃ j : Nat, j ≤ n ∧ i = .int .i64 j ∧ q = .int .i64 ((k + j : Nat) : Int) ∧ wr.ownsRow base 5 1 (.slice A n c) n (marked xs k j) ∧ w.grownBy wr (Value.slice A n c).ownBlock) (fun _ i _ => n - (intOf i).toNat)
  case atStart => exact ⟨0, Nat.zero_le _, rfl, rfl, by rw [marked_zero]; exact h, ⟨rfl, rfl, rfl, Nat.le_refl _, fun _ _ _ => rfl⟩⟩
  case round =>
    obtain ⟨j, hj, rfl, rfl, ho, hg⟩ := hrel
    by_cases hlt : j < n
    · obtain ⟨g, rfl⟩ : ∃ g, A = some ⟨g, 0, none⟩ := by
        rcases ho.2 with ⟨h', h''⟩ | ⟨g, cap, cur, h', _⟩
        · omega
        · simp only [Value.slice.injEq, true_and] at h'
          exact ⟨g, h'.1⟩
      have hf := ho.frozenAt j
      obtain ⟨v, hx⟩ : ∃ v, wr.cell? ⟨g, j, none⟩ = some v := by
        rw [ho.cellAt j (by omega)]
        exact ⟨_, List.getElem?_eq_getElem (by rw [ho.1]; omega)⟩
      have HS := hide (ho.stored j (.int .u8 ((((k + j) % 256 : Nat)) : Int)))
      go_wp2
      go_roundw
      case rel =>
        refine ⟨j + 1, by omega, by go_num, by go_num, ?_, ?_⟩
        · rw [← marked_set xs k j (by omega), show (((k + j) % 256 : Nat) : Int) = ((k : Int) + (j : Int)) % 256 by omega]
          have := HS.out.1
          rw [show (((k + j) % 256 : Nat) : Int) = ((k : Int) + (j : Int)) % 256 by omega] at this
          exact this
        · have := HS.out.2
          rw [show (((k + j) % 256 : Nat) : Int) = ((k : Int) + (j : Int)) % 256 by omega] at this
          exact hg.trans this
      case measure => simp [intOf]; omega
    · go_wp2
      go_ret
      obtain rfl : j = n := by omega
      refine ⟨rfl, ?_, hg⟩
      have := marked_all xs k
      rw [hl] at this
      rw [← this]
      exact ho
end Go.Proofs.YtnnfkmjhaljplaaGreatDoor
namespace Go.Proofs.YtnnfkmjhaljplaaGreatDoor
open Go.RowKit
end Go.Proofs.YtnnfkmjhaljplaaGreatDoor
