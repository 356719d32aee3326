/- What the laws' walks rest upon, part 34. -/
import Derived.Test.YtnnfkmjhaljplaaGreatDoorM03
import Derived.Test.YtnnfkmjhaljplaaGreatDoorM15
import Derived.Test.YtnnfkmjhaljplaaGreatDoorM30
import Derived.Test.YtnnfkmjhaljplaaGreatDoorM33
import Derived.Test.YtnnfkmjhaljplaaGreatDoorM06
namespace Go.Proofs.YtnnfkmjhaljplaaGreatDoor
open Go.RowKit
/-- A file checked: what is told. -/
noncomputable def cfR (file : List Int) (os : List Wls) : Int × Bool × List Int := if (dc file).1 = 0 then chkR (dc file).2 os else ((dc file).1, false, [])
theorem cfR_ok {file : List Int} {os : List Wls} (h : (dc file).1 = 0) : cfR file os = chkR (dc file).2 os := if_pos h
theorem cfR_bad {file : List Int} {os : List Wls} (h : ¬ (dc file).1 = 0) : cfR file os = ((dc file).1, false, []) := if_neg h
def CfPost (file : List Int) (os : List Wls) (w : World) (e : Ending) (w' : World) : Prop :=
  ∃ A c, e = .returned (.agg #[.int .i64 (cfR file os).1, .bool (cfR file os).2.1, .slice A (cfR file os).2.2.length c]) ∧ w'.ownsRow w.heap.size 2 1 (.slice A (cfR file os).2.2.length c) (cfR file os).2.2.length ((cfR file os).2.2.map (Value.int .i64)) ∧ Below w.heap.size w w'
set_option maxRecDepth 100000 in
set_option maxHeartbeats 1600000 in
theorem decodeP_any (file : List Int) (q : Nat) (A : Option Addr) (c : Nat) (x1 x2 x3 x4 x5 x6 x7 : Value) (aN aS aE : Addr) (w : World) (hm : file.length ≤ 1048576) (hc : file.length ≤ c) (hR : Rd .u8 w w.heap.size A file) (b8 : B8 file) (hT : Tab w) (hS : Sent aN aS aE w) (K : Bk w q #[.slice A file.length c, x1, x2, x3, x4, x5, x6, x7] 134) :
    Calls Tryz.prog 89 #[.pointer (some ⟨q, 0, none⟩)] w fun e w' => ∃ D d us, e = .returned (.int .i64 (dc file).1) ∧ Bk w' q #[.slice A file.length c, x1, x2, x3, .slice D (dc file).2.length d, x5, x6, x7] 134 ∧ OwnT w' w.heap.size (.slice D (dc file).2.length d) (dc file).2 us ∧ w.grownBy w' (some q) := by
  have ID := hide (implDec_any file A c aN aS aE w hm hc hR b8 hT hS)
  unfold DtPost at ID
  obtain ⟨C, t, hC⟩ : ∃ C t, dc file = (C, t) := ⟨_, _, rfl⟩
  rw [hC] at ID ⊢
  dsimp only at ID ⊢
  have q0 := (K.cell 0).trans (rfl : _ = some (Value.slice A file.length c))
  have hq := K.lt
  clear hC hR hT hS b8
  go_enter Tryz.func89, Tryz.ntmps89
  go_wp2_with fail
  refine ID.out.mono ?_
  rintro e w1 ⟨D, d, us, rfl, oT, b1⟩
  have zb := b1.size
  obtain ⟨W, hW⟩ : ∃ W, W = w1.alloc (Obj.cells #[Value.int .i64 C, .slice D t.length d] 36) := ⟨_, rfl⟩
  have k1 : Bk W q #[.slice A file.length c, x1, x2, x3, x4, x5, x6, x7] 134 := by rw [hW]; exact (K.kept b1).alloc _
  have k2 : Bk W w1.heap.size #[Value.int .i64 C, .slice D t.length d] 36 := by rw [hW]; exact Bk.new _ _ _
  have B1 : Below w.heap.size w W := by rw [hW]; exact b1.alloc zb _
  have oW : OwnT W w.heap.size (.slice D t.length d) t us := by rw [hW]; exact oT.alloc _
  have y4 := (k1.cell 4).trans (rfl : _ = some x4)
  have f4 := k1.frozen 4
  have hst := k1.set_ 4 (.slice D t.length d)
  have oF := oW.kept (grown_set W q 4 (.slice D t.length d)) (fun b e => by cases e; exact hq)
  have gF : w.grownBy (W.setCell ⟨q, 4, none⟩ (.slice D t.length d)) (some q) := World.grownBy.trans ⟨B1.os, B1.tape, B1.output, B1.size, fun k hk _ => B1.block k hk⟩ (grown_set W q 4 _)
  have HF := hide (And.intro hst (And.intro oF gF))
  have hne : w1.heap.size ≠ q := by omega
  have k3 := k2.far (p := ⟨q, 4, none⟩) hne (.slice D t.length d)
  have z0 := (k3.cell 0).trans (rfl : _ = some (Value.int .i64 C))
  have HW := hide hW
  rw [hW] at y4 f4 z0
  clear hW k1 k2 B1 oW hst oF gF k3 oT ID K q0
  go_wp2
  refine bodyPost_ret (v := .int .i64 C) (by simp [results, Tryz.results89, go_sem]) rfl ?_
  rw [← HW.out]
  exact ⟨D, d, us, rfl, HF.out.1, HF.out.2.1, HF.out.2.2⟩
set_option maxRecDepth 100000 in
set_option maxHeartbeats 1600000 in
theorem judgeP_any (t : List (List Ev)) (os : List Wls) (q : Nat) (D A' : Option Addr) (d c' : Nat) (x0 x1 x2 x5 x6 x7 : Value) (w : World) (hm : t.length ≤ maxLen) (hm' : os.length ≤ maxLen) (h : RdT w w.heap.size D t) (h' : RdW w w.heap.size A' os) (K : Bk w q #[x0, x1, x2, .slice A' os.length c', .slice D t.length d, x5, x6, x7] 134) :
    Calls Tryz.prog 102 #[.pointer (some ⟨q, 0, none⟩)] w fun e w' => ∃ Z z, e = .returned (.int .i64 (chkR t os).1) ∧ Bk w' q #[x0, x1, x2, .slice A' os.length c', .slice D t.length d, .int .i64 (chkR t os).1, .bool (chkR t os).2.1, .slice Z (chkR t os).2.2.length z] 134 ∧ w'.ownsRow w.heap.size 2 1 (.slice Z (chkR t os).2.2.length z) (chkR t os).2.2.length ((chkR t os).2.2.map (Value.int .i64)) ∧ w.grownBy w' (some q) := by
  have HC := hide (fun W hW hW' => implChk_any t os D A' d c' W hm hm' hW hW')
  unfold ChkPost at HC
  obtain ⟨C, a, l, hC⟩ : ∃ C a l, chkR t os = (C, a, l) := ⟨_, _, _, rfl⟩
  rw [hC] at HC ⊢
  dsimp only at HC ⊢
  have hq := K.lt
  have y4 : w.drew.cell? ⟨q, 4, none⟩ = some (.slice D t.length d) := (K.cell 4).trans rfl
  have y3 : w.drew.cell? ⟨q, 3, none⟩ = some (.slice A' os.length c') := (K.cell 3).trans rfl
  have bD : Below w.heap.size w w.drew := (Below.refl _ _).drew
  clear hC
  go_enter Tryz.func102, Tryz.ntmps102
  go_upto_region 1 with fail
  refine wp_region_F 12 (fun w' => True) (fun w' => w'.cell? ⟨q, 4, none⟩ = some (.slice D t.length d) ∧ w'.cell? ⟨q, 3, none⟩ = some (.slice A' os.length c') ∧ Below w.heap.size w w') (by kernel_rfl) ⟨trivial, ⟨y4, y3, bD⟩⟩ (fun hHeld => ?_)
  try simp only [Act.put, List.setIfInBounds_toArray, List.set_cons_zero, List.set_cons_succ]
  refine wpAnyF_take (i := 0) (v := ?_) (by (simp only [List.getElem?_toArray, List.getElem?_cons_zero]; rfl)) (by kernel_rfl) (by kernel_rfl) (by kernel_rfl) (by decide) (by exact fun _ _ _ h => h) ⟨hHeld.1, .inr hHeld.2⟩ (Or.inl ⟨by rfl, ?_⟩) ?_
  rotate_left
  · (intro w' _; go_simp <;> with_reducible rfl)
  try simp only [Act.put, List.setIfInBounds_toArray, List.set_cons_zero, List.set_cons_succ]
  refine wpAnyF_take (i := 1) (v := ?_) (by (simp only [List.getElem?_toArray, List.getElem?_cons_succ, List.getElem?_cons_zero]; rfl)) (by kernel_rfl) (by kernel_rfl) (by kernel_rfl) (by decide) (by exact fun _ _ _ h => h) ⟨hHeld.1, .inr hHeld.2⟩ (Or.inl ⟨by rfl, ?_⟩) ?_
  rotate_left
  · (intro w' _; go_simp <;> with_reducible rfl)
  try simp only [Act.put, List.setIfInBounds_toArray, List.set_cons_zero, List.set_cons_succ]
  refine wpAnyF_take (i := 2) (v := ?_) (by (simp only [List.getElem?_toArray, List.getElem?_cons_succ, List.getElem?_cons_zero]; rfl)) (by kernel_rfl) (by kernel_rfl) (by kernel_rfl) (by decide) (by exact fun _ _ _ h => h) ⟨hHeld.1, .inr hHeld.2⟩ (Or.inl ⟨by rfl, ?_⟩) ?_
  rotate_left
  · (intro w' _; go_simp <;> with_reducible rfl)
  try simp only [Act.put, List.setIfInBounds_toArray, List.set_cons_zero, List.set_cons_succ]
  refine wpAnyF_take (i := 3) (v := ?_) (by (simp only [List.getElem?_toArray, List.getElem?_cons_succ, List.getElem?_cons_zero]; rfl)) (by kernel_rfl) (by kernel_rfl) (by kernel_rfl) (by decide) (by exact fun _ _ _ h => h) ⟨hHeld.1, .inr hHeld.2⟩ (Or.inl ⟨by rfl, ?_⟩) ?_
  rotate_left
  · (intro w' _; go_simp <;> with_reducible rfl)
  try simp only [Act.put, List.setIfInBounds_toArray, List.set_cons_zero, List.set_cons_succ]
  refine wpAnyF_load (i := 4) (v := ?_) (by (simp only [List.getElem?_toArray, List.getElem?_cons_succ, List.getElem?_cons_zero]; rfl)) (by kernel_rfl) (by kernel_rfl) (by kernel_rfl) (by decide) (by exact fun _ _ _ h => h) hHeld (by kernel_rfl) (by kernel_rfl) (Or.inl ⟨by rfl, ?_⟩) ?_
  rotate_left
  · (intro w' hSw; (try dsimp only at hSw); obtain ⟨hSb0, hSb1, hSb2⟩ := hSw; go_simp <;> with_reducible rfl)
  try simp only [Act.put, List.setIfInBounds_toArray, List.set_cons_zero, List.set_cons_succ]
  refine wpAnyF_take (i := 5) (v := ?_) (by (simp only [List.getElem?_toArray, List.getElem?_cons_succ, List.getElem?_cons_zero]; rfl)) (by kernel_rfl) (by kernel_rfl) (by kernel_rfl) (by decide) (by exact fun _ _ _ h => h) ⟨hHeld.1, .inr hHeld.2⟩ (Or.inl ⟨by rfl, ?_⟩) ?_
  rotate_left
  · (intro w' _; go_simp <;> with_reducible rfl)
  try simp only [Act.put, List.setIfInBounds_toArray, List.set_cons_zero, List.set_cons_succ]
  refine wpAnyF_take (i := 6) (v := ?_) (by (simp only [List.getElem?_toArray, List.getElem?_cons_succ, List.getElem?_cons_zero]; rfl)) (by kernel_rfl) (by kernel_rfl) (by kernel_rfl) (by decide) (by exact fun _ _ _ h => h) ⟨hHeld.1, .inr hHeld.2⟩ (Or.inl ⟨by rfl, ?_⟩) ?_
  rotate_left
  · (intro w' _; go_simp <;> with_reducible rfl)
  try simp only [Act.put, List.setIfInBounds_toArray, List.set_cons_zero, List.set_cons_succ]
  refine wpAnyF_take (i := 7) (v := ?_) (by (simp only [List.getElem?_toArray, List.getElem?_cons_succ, List.getElem?_cons_zero]; rfl)) (by kernel_rfl) (by kernel_rfl) (by kernel_rfl) (by decide) (by exact fun _ _ _ h => h) ⟨hHeld.1, .inr hHeld.2⟩ (Or.inl ⟨by rfl, ?_⟩) ?_
  rotate_left
  · (intro w' _; go_simp <;> with_reducible rfl)
  try simp only [Act.put, List.setIfInBounds_toArray, List.set_cons_zero, List.set_cons_succ]
  refine wpAnyF_load (i := 8) (v := ?_) (by (simp only [List.getElem?_toArray, List.getElem?_cons_succ, List.getElem?_cons_zero]; rfl)) (by kernel_rfl) (by kernel_rfl) (by kernel_rfl) (by decide) (by exact fun _ _ _ h => h) hHeld (by kernel_rfl) (by kernel_rfl) (Or.inl ⟨by rfl, ?_⟩) ?_
  rotate_left
  · (intro w' hSw; (try dsimp only at hSw); obtain ⟨hSb0, hSb1, hSb2⟩ := hSw; go_simp <;> with_reducible rfl)
  try simp only [Act.put, List.setIfInBounds_toArray, List.set_cons_zero, List.set_cons_succ]
  refine wpAnyF_ready (rs := [9]) (by kernel_rfl) (by simp) ?_
  refine AllReadyF.cons (by (simp only [List.getElem?_toArray, List.getElem?_cons_succ, List.getElem?_cons_zero]; rfl)) (fun K hK => ?_) AllReadyF.nil
  go_simp
  go_at_call 167
  refine (HC.out _ (h.below hHeld.2.2.2).lt (h'.below hHeld.2.2.2).lt).mono ?_
  rintro e wb ⟨Z, z, rfl, oz, bz⟩
  have b9 := hHeld.2.2.2.trans (bz.mono hHeld.2.2.2.size)
  refine hK.out _ _ ⟨trivial, ⟨cell_kept bz hHeld.2.1, cell_kept bz hHeld.2.2.1, b9⟩⟩ (fun hNew => ?_)
  clear hK K hHeld
  have hHeld := hNew
  clear hNew
  try simp only [Act.put, List.setIfInBounds_toArray, List.set_cons_zero, List.set_cons_succ]
  refine wpAnyF_take (i := 10) (v := ?_) (by (simp only [List.getElem?_toArray, List.getElem?_cons_succ, List.getElem?_cons_zero]; rfl)) (by kernel_rfl) (by kernel_rfl) (by kernel_rfl) (by decide) (by exact fun _ _ _ h => h) ⟨hHeld.1, .inr hHeld.2⟩ (Or.inl ⟨by rfl, ?_⟩) ?_
  rotate_left
  · (intro w' _; go_simp <;> with_reducible rfl)
  try simp only [Act.put, List.setIfInBounds_toArray, List.set_cons_zero, List.set_cons_succ]
  refine wpAnyF_take (i := 11) (v := ?_) (by (simp only [List.getElem?_toArray, List.getElem?_cons_succ, List.getElem?_cons_zero]; rfl)) (by kernel_rfl) (by kernel_rfl) (by kernel_rfl) (by decide) (by exact fun _ _ _ h => h) ⟨hHeld.1, .inr hHeld.2⟩ (Or.inl ⟨by rfl, ?_⟩) ?_
  rotate_left
  · (intro w' _; go_simp <;> with_reducible rfl)
  try simp only [Act.put, List.setIfInBounds_toArray, List.set_cons_zero, List.set_cons_succ]
  have kb := K.kept b9
  have g5 := (kb.cell 5).trans (rfl : _ = some x5)
  have f5 := kb.frozen 5
  have g6 := (kb.cell 6).trans (rfl : _ = some x6)
  have f6 := kb.frozen 6
  have g7 := (kb.cell 7).trans (rfl : _ = some x7)
  have f7 := kb.frozen 7
  refine wpAnyF_ready (rs := [12]) (by kernel_rfl) (by simp) ?_
  refine AllReadyF.last (by (simp only [List.getElem?_toArray, List.getElem?_cons_succ, List.getElem?_cons_zero]; rfl)) (by kernel_rfl) (fun K hK => ?_) AllReadyF.nil
  go_simp
  refine hK.out _ _ trivial ?_
  clear hK K
  try simp only [Act.put, List.setIfInBounds_toArray, List.set_cons_zero, List.set_cons_succ]
  refine wpAnyF_done (by kernel_rfl) ?_ _
  have s1 := kb.set_ 5 (.int .i64 C)
  have s2 := s1.set_ 6 (.bool a)
  have s3 := s2.set_ 7 (.slice Z l.length z)
  have G : w.grownBy (((wb.setCell ⟨q, 5, none⟩ (.int .i64 C)).setCell ⟨q, 6, none⟩ (.bool a)).setCell ⟨q, 7, none⟩ (.slice Z l.length z)) (some q) := ((World.grownBy.trans ⟨b9.os, b9.tape, b9.output, b9.size, fun k hk _ => b9.block k hk⟩ (grown_set wb q 5 _)).trans (grown_set _ q 6 _)).trans (grown_set _ q 7 _)
  have oz1 := own_mono oz (show w.heap.size ≤ w.drew.heap.size from Nat.le_refl _)
  have oz2 := ((ownsRow_setCell_below oz1 (a := ⟨q, 5, none⟩) hq (.int .i64 C)))
  have oz3 := (ownsRow_setCell_below oz2 (a := ⟨q, 6, none⟩) hq (.bool a))
  have oz4 := (ownsRow_setCell_below oz3 (a := ⟨q, 7, none⟩) hq (.slice Z l.length z))
  have n5 := (s3.cell 5).trans (rfl : _ = some (Value.int .i64 C))
  have HF := hide (And.intro s3 (And.intro oz4 G))
  clear s1 s2 s3 G oz oz1 oz2 oz3 oz4 kb b9 bz hHeld y3 y4 bD HC h h' K g5 g6 g7 f5 f6 f7
  go_wp2
  refine bodyPost_ret (v := .int .i64 C) (by simp [results, Tryz.results102, go_sem]) rfl ?_
  exact ⟨Z, z, rfl, HF.out.1, HF.out.2.1, HF.out.2.2⟩
/-- Where a passage stands, from a file to its judgement: laid; decoded; judged. -/
def CfP0 (file : List Int) (os : List Wls) (A A' : Option Addr) (c c' : Nat) (w v : World) : Prop := Bk v (w.heap.size + 1) #[.slice A file.length c, .string { data := #[] }, .int .i64 0, .slice A' os.length c', .slice none 0 0, .int .i64 0, .bool false, .slice none 0 0] 134 ∧ Below w.heap.size w v
def CfP1 (file : List Int) (os : List Wls) (A A' : Option Addr) (c c' : Nat) (t : List (List Ev)) (w v : World) : Prop := ∃ D d, Bk v (w.heap.size + 1) #[.slice A file.length c, .string { data := #[] }, .int .i64 0, .slice A' os.length c', .slice D t.length d, .int .i64 0, .bool false, .slice none 0 0] 134 ∧ RdT v v.heap.size D t ∧ Below w.heap.size w v
def CfP2 (file : List Int) (os : List Wls) (A A' : Option Addr) (c c' : Nat) (t : List (List Ev)) (w v : World) : Prop := ∃ D d Z z, Bk v (w.heap.size + 1) #[.slice A file.length c, .string { data := #[] }, .int .i64 0, .slice A' os.length c', .slice D t.length d, .int .i64 (chkR t os).1, .bool (chkR t os).2.1, .slice Z (chkR t os).2.2.length z] 134 ∧ v.ownsRow (w.heap.size + 2) 2 1 (.slice Z (chkR t os).2.2.length z) (chkR t os).2.2.length ((chkR t os).2.2.map (Value.int .i64))
def CfQ (file : List Int) (os : List Wls) (A A' : Option Addr) (c c' : Nat) (C : Int) (t : List (List Ev)) (w : World) (cd : Int) (v : World) : Prop := (cd = C ∧ C ≠ 0) ∨ (C = 0 ∧ cd = (chkR t os).1 ∧ CfP2 file os A A' c c' t w v)
theorem cf_decode : ∀ (a : Array Value) (w : World), (callFunc 89 a).run Tryz.prog w = .ok (.enter 89 a) w := fun a w => by kernel_rfl
theorem cf_judge : ∀ (a : Array Value) (w : World), (callFunc 102 a).run Tryz.prog w = .ok (.enter 102 a) w := fun a w => by kernel_rfl
theorem cf_chain (file : List Int) (os : List Wls) (A A' : Option Addr) (c c' : Nat) (aN aS aE : Addr) (w : World) (C : Int) (t : List (List Ev)) (hC : dc file = (C, t)) (hm : file.length ≤ 1048576) (hc : file.length ≤ c) (hlen : t.length ≤ maxLen) (hm' : os.length ≤ maxLen) (hR : Rd .u8 w w.heap.size A file) (b8 : B8 file) (h' : RdW w w.heap.size A' os) (hT : Tab w) (hS : Sent aN aS aE w) :
    ChnP (w.heap.size + 1) [89, 102] (CfP0 file os A A' c c' w) (CfQ file os A A' c c' C t w) := by
  refine ⟨fun cd v => cd = C ∧ CfP1 file os A A' c c' t w v, cf_decode, fun v o hv => ⟨hv.1.alloc o, hv.2.alloc hv.2.size o⟩, fun v hv => ?_, fun cd v hc0 hv => .inl ⟨hv.1, by rw [← hv.1]; exact hc0⟩, fun cd v => (C = 0 ∧ cd = (chkR t os).1) ∧ CfP2 file os A A' c c' t w v, cf_judge, ?_, ?_, fun cd v _ h => .inr ⟨h.1.1, h.1.2, h.2⟩, fun v h => .inr ⟨h.1.1, h.1.2, h.2⟩⟩
  · refine (decodeP_any file (w.heap.size + 1) A c _ _ _ _ _ _ _ aN aS aE v hm hc (hR.below hv.2).lt b8 (hT.below hv.2) (hS.below hv.2) hv.1).mono ?_
    rintro e v2 ⟨D, d, us, rfl, K, oT, g⟩
    rw [hC] at K oT ⊢
    exact ⟨C, rfl, ⟨rfl, D, d, K, oT.rd, hv.2.grown g hv.2.size (fun b e => by cases e; omega)⟩, g⟩
  · rintro v o ⟨h1, D, d, K, rT, hb⟩
    exact ⟨h1, D, d, K.alloc o, (rT.alloc (Nat.le_refl _) o).lt, hb.alloc hb.size o⟩
  · rintro v ⟨h1, D, d, K, rT, hb⟩
    refine (judgeP_any t os (w.heap.size + 1) D A' d c' _ _ _ _ _ _ v hlen hm' rT (h'.below hb).lt K).mono ?_
    rintro e v2 ⟨Z, z, rfl, K2, o2, g⟩
    exact ⟨_, rfl, ⟨⟨h1.symm, rfl⟩, D, d, Z, z, K2, own_mono o2 (by have := K.lt; omega)⟩, g⟩
set_option maxRecDepth 100000 in
set_option maxHeartbeats 1600000 in
theorem specCF_any (file : List Int) (os : List Wls) (A A' : Option Addr) (c c' : Nat) (w : World) (hm : file.length ≤ 1048576) (hc : file.length ≤ c) (hm' : os.length ≤ maxLen) (hR : Rd .u8 w w.heap.size A file) (b8 : B8 file) (h' : RdW w w.heap.size A' os) :
    Calls Tryz.prog 25 #[.slice A file.length c, .slice A' os.length c'] w (CfPost file os w) := by
  unfold CfPost
  obtain ⟨RC, RA, RL, hRR⟩ : ∃ a b l, cfR file os = (a, b, l) := ⟨_, _, _, rfl⟩
  rw [hRR]
  dsimp only
  obtain ⟨X, hX⟩ : ∃ X, X = w.alloc (Obj.cells #[.int .i64 0, .bool false, .slice none 0 0] 62) := ⟨_, rfl⟩
  have k0 : Bk X w.heap.size #[.int .i64 0, .bool false, .slice none 0 0] 62 := by rw [hX]; exact Bk.new _ _ _
  have B0 : Below w.heap.size w X := by rw [hX]; exact (Below.refl _ _).alloc (Nat.le_refl _) _
  have SD := hide (specDec_any file A c X hm hc (hR.below B0).lt b8)
  unfold DtPost at SD
  obtain ⟨C, t, hC⟩ : ∃ C t, dc file = (C, t) := ⟨_, _, rfl⟩
  have hlen : t.length ≤ maxLen := by have := (dc_few file).1; rw [hC] at this; unfold maxLen; exact Nat.le_trans this (by omega)
  rw [hC] at SD
  dsimp only at SD
  have HX := hide hX
  have zX := k0.lt
  clear hX
  go_enter Tryz.func25, Tryz.ntmps25
  go_wp2_with fail
  rw [← HX.out]
  refine SD.out.mono ?_
  rintro e w1 ⟨D, d, us, rfl, oT, b1⟩
  obtain ⟨Y, hY⟩ : ∃ Y, Y = w1.alloc (Obj.cells #[Value.int .i64 C, .slice D t.length d] 36) := ⟨_, rfl⟩
  have k1 : Bk Y w.heap.size #[.int .i64 0, .bool false, .slice none 0 0] 62 := by rw [hY]; exact (k0.kept b1).alloc _
  have k2 : Bk Y w1.heap.size #[Value.int .i64 C, .slice D t.length d] 36 := by rw [hY]; exact Bk.new _ _ _
  have B1 := B0.trans (b1.mono B0.size)
  have BY : Below w.heap.size w Y := by rw [hY]; exact B1.alloc B1.size _
  have rT : RdT Y Y.heap.size D t := by rw [hY]; exact (oT.rd.alloc (Nat.le_refl _) _).lt
  have HY := hide hY
  have zY := k2.lt
  by_cases hc0 : C = 0
  · have hr : cfR file os = chkR t os := by rw [cfR_ok (by rw [hC]; exact hc0), hC]
    have SC := hide (specChk_any t os D A' d c' Y hlen hm' rT (h'.below BY).lt)
    unfold ChkPost at SC
    rw [hRR] at hr
    rw [← hr] at SC
    dsimp only at SC
    subst hc0
    clear SD hr hRR hC hY oT b1 B0 B1 k0
    go_wp2_with fail
    rw [← HY.out]
    refine SC.out.mono ?_
    rintro e w2 ⟨Z, z, rfl, oz, b2⟩
    have m0 := k1.kept b2
    have B2 := BY.trans (b2.mono BY.size)
    have e0 := (m0.cell 0).trans (rfl : _ = some (Value.int .i64 0))
    have e1 := (m0.cell 1).trans (rfl : _ = some (Value.bool false))
    have e2 := (m0.cell 2).trans (rfl : _ = some (Value.slice none 0 0))
    have h0 := m0.frozen 0
    have h1 := m0.frozen 1
    have h2 := m0.frozen 2
    have hlt := k1.lt
    have oz2 := ownsRow_setCell_below (ownsRow_setCell_below (ownsRow_setCell_below oz (a := ⟨w.heap.size, 0, none⟩) hlt (.int .i64 RC)) (a := ⟨w.heap.size, 1, none⟩) hlt (.bool RA)) (a := ⟨w.heap.size, 2, none⟩) hlt (.slice Z RL.length z)
    have HB := hide (((B2.setCell (p := ⟨w.heap.size, 0, none⟩) (Nat.le_refl _) (.int .i64 RC)).setCell (p := ⟨w.heap.size, 1, none⟩) (Nat.le_refl _) (.bool RA)).setCell (p := ⟨w.heap.size, 2, none⟩) (Nat.le_refl _) (.slice Z RL.length z))
    have HO := hide (own_mono oz2 (show w.heap.size ≤ Y.heap.size from BY.size))
    clear oz oz2 B2 b2 m0 SC k1 k2 rT BY
    go_wp2
    refine bodyPost_ret (v := .agg #[.int .i64 RC, .bool RA, .slice Z RL.length z]) (by simp [results, Tryz.results25, go_sem, e0, e1, e2]) rfl ?_
    exact ⟨Z, z, rfl, HO.out, HB.out⟩
  · have hr : cfR file os = (C, false, []) := by rw [cfR_bad (by rw [hC]; exact hc0), hC]
    rw [hRR] at hr
    obtain ⟨rfl, rfl, rfl⟩ : RC = C ∧ RA = false ∧ RL = [] := by simpa using hr
    have u0 : (RC != 0) = true := bne_iff_ne.2 hc0
    have hlt := k1.lt
    have e0 := (k1.cell 0).trans (rfl : _ = some (Value.int .i64 0))
    have e1 := (k1.cell 1).trans (rfl : _ = some (Value.bool false))
    have e2 := (k1.cell 2).trans (rfl : _ = some (Value.slice none 0 0))
    have h0 := k1.frozen 0
    have h1 := k1.frozen 1
    have h2 := k1.frozen 2
    have n0 := (k2.cell 0).trans (rfl : _ = some (Value.int .i64 RC))
    have HB := hide (((BY.setCell (p := ⟨w.heap.size, 0, none⟩) (Nat.le_refl _) (.int .i64 RC)).setCell (p := ⟨w.heap.size, 1, none⟩) (Nat.le_refl _) (.bool false)).setCell (p := ⟨w.heap.size, 2, none⟩) (Nat.le_refl _) (.slice none 0 0))
    rw [hY] at e0 e1 e2 h0 h1 h2 n0
    clear SD hRR hC oT b1 B0 B1 k0 k1 k2 rT BY hc0 hY
    go_wp2
    rw [HY.out] at HB
    refine bodyPost_ret (v := .agg #[.int .i64 RC, .bool false, .slice none 0 0]) (by simp [results, Tryz.results25, go_sem, e0, e1, e2]) rfl ?_
    exact ⟨none, 0, rfl, World.ownsRow_nil _ _ _ _, HB.out⟩
end Go.Proofs.YtnnfkmjhaljplaaGreatDoor
