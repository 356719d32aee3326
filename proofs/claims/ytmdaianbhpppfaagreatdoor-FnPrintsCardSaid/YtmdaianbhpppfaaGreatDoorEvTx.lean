/- EventText of the program. -/
import Derived.Test.YtmdaianbhpppfaaGreatDoorHex
import Derived.Test.YtmdaianbhpppfaaGreatDoorShelf
import Derived.Test.YtmdaianbhpppfaaGreatDoorGTxB
import Derived.Lib.AppendIntMem
namespace Go.Proofs.YtmdaianbhpppfaaGreatDoor
open Go.RowKit

/-- The two tables of the library's that the texts of numbers are made by. -/
def Tb (w : World) : Prop := Db w ∧ Lib.TabIs Tryz.prog w "internal/strconv.uint64pow10" .u64 Lib.pow10Tab
theorem Tb.on {w w' : World} (h : Tb w) (hb : Below w.heap.size w w') : Tb w' := ⟨h.1.on hb, Lib.tabBelow_of_tabIs h.2 w' hb⟩
theorem grow_below (w : World) (k : Nat) (os : Array Obj) : Below w.heap.size w (Sort.grow (w.drewN k) os) :=
  ⟨rfl, rfl, rfl, by simp [Sort.grow], fun j hj => by simp [Sort.grow, Array.getElem?_append_left hj]⟩
/-- A number in decimal: the library's contract in the words of these texts. -/
theorem fmt10_any (N : Nat) (w : World) (hN : N ≤ 999999) (hT : Tb w) :
    Calls Tryz.prog 37 #[.int .i64 N, .int .i64 10] w fun e w' => e = .returned (.string (strOfNums (digL 10 N))) ∧ Below w.heap.size w w' := by
  refine (Tryz.strconv_FormatInt_10 N (by omega) (by omega) w hT.2).mono ?_
  rintro e w' ⟨rfl, k, os, rfl⟩
  exact ⟨by rw [itoa_text], grow_below w k os⟩
theorem field_txt (a : Int) (s : ByteArray) (W : World) : (Instr.field 27 (.agg #[.int .i64 a, .string s]) 1).run Tryz.prog W = .ok (.string s) W := by kernel_rfl
theorem field_txc (a : Int) (s : ByteArray) (W : World) : (Instr.field 27 (.agg #[.int .i64 a, .string s]) 0).run Tryz.prog W = .ok (.int .i64 a) W := by kernel_rfl
theorem evL_parts (k a v : Int) : txE ⟨k, a, v⟩ = [if k = 1 then 119 else 114] ++ [32] ++ ([48, 120] ++ digL 16 a.toNat) ++ [32] ++ digL 10 v.toNat := by unfold txE; simp
set_option maxRecDepth 100000 in
set_option maxHeartbeats 3200000 in
theorem EventText_any (e : Ev) (w : World) (hT : Tb w) :
    Calls Tryz.prog 22 #[evV e.k e.a e.v] w fun r w' => r = .returned (txtV (evF e) (etL e)) ∧ Below w.heap.size w w' := by
  obtain ⟨k, a, v⟩ := e
  simp only
  have hC := fun w => implEvF_any k a v w
  unfold etL
  obtain ⟨o, ho⟩ : ∃ o, o = Obj.cells #[.int .i64 k, .int .i64 a, .int .i64 v] 39 := ⟨_, rfl⟩
  obtain ⟨o2, ho2⟩ : ∃ o, o = Obj.cells #[.int .i64 0, .string { data := #[] }] 27 := ⟨_, rfl⟩
  -- the answer's cells and the boxed event, behind whatever makes new memory alone
  have HM : ∀ w2 : World, Below ((w.alloc o).alloc o2).heap.size ((w.alloc o).alloc o2) w2 →
      w2.cell? ⟨w.heap.size + 1, 0, none⟩ = some (.int .i64 0) ∧ w2.cell? ⟨w.heap.size + 1, 1, none⟩ = some (.string { data := #[] }) ∧ w2.frozen? ⟨w.heap.size + 1, 0, none⟩ = false ∧ w2.frozen? ⟨w.heap.size + 1, 1, none⟩ = false ∧
      w2.cell? ⟨w.heap.size, 0, none⟩ = some (.int .i64 k) ∧ w2.cell? ⟨w.heap.size, 0 + 1, none⟩ = some (.int .i64 a) ∧ w2.cell? ⟨w.heap.size, 0 + 2, none⟩ = some (.int .i64 v) ∧ w.heap.size < w2.heap.size ∧ Below w.heap.size w w2 ∧ w.heap.size + 1 < w2.heap.size := by
    intro w2 hb
    have z : (w.alloc o).heap.size = w.heap.size + 1 := by simp
    have zz : ((w.alloc o).alloc o2).heap.size = w.heap.size + 2 := by simp
    have hs := hb.size
    have B1 : Below (w.alloc o).heap.size (w.alloc o) w2 := below_alloc hb
    have r0 := res_cell (w := w.alloc o) (ho2 ▸ hb) 0
    have r1 := res_cell (w := w.alloc o) (ho2 ▸ hb) 1
    have r2 := res_frozen (w := w.alloc o) (ho2 ▸ hb) 0
    have r3 := res_frozen (w := w.alloc o) (ho2 ▸ hb) 1
    rw [z] at r0 r1 r2 r3
    have s0 := res_cell (w := w) (ho ▸ B1) 0
    have s1 := res_cell (w := w) (ho ▸ B1) 1
    have s2 := res_cell (w := w) (ho ▸ B1) 2
    exact ⟨r0, r1, r2, r3, s0, s1, s2, by omega, below_alloc B1, by omega⟩
  rw [ho, ho2] at HM
  have HM := hide HM
  clear ho ho2
  by_cases h : evF ⟨k, a, v⟩ = 0
  · rw [if_pos h]
    have hv := evF_zero h
    have HL := txE_length h
    simp only at hv
    rw [h] at hC ⊢
    obtain ⟨a, rfl⟩ : ∃ N : Nat, a = N := ⟨a.toNat, by omega⟩
    obtain ⟨v, rfl⟩ : ∃ N : Nat, v = N := ⟨v.toNat, by omega⟩
    have HX := fun w h => HexOf_any a w h
    simp only [txtV] at HX
    have HX := hide HX
    have DG := hide (fun w h => fmt10_any v w (by omega) h)
    have x0 : hxC (a : Int) = 0 := by unfold hxC; rw [if_pos (by omega)]
    have x1 : hxL (a : Int) = [48, 120] ++ digL 16 a := by unfold hxL; rw [if_pos (by omega), Int.toNat_natCast]
    rw [x0, x1] at HX
    have hE := evL_parts k a v
    simp only [Int.toNat_natCast] at hE
    rw [hE] at HL
    simp only [List.length_append, List.length_cons, List.length_nil] at HL
    have p1 := fun w => run_sadd (P := Tryz.prog) (l := [if k = 1 then 119 else 114]) (m := [32]) (by simp only [List.length_cons, List.length_nil]; omega) w
    have p2 := fun w => run_sadd (P := Tryz.prog) (l := [if k = 1 then 119 else 114] ++ [32]) (m := [48, 120] ++ digL 16 a) (by simp only [List.length_append, List.length_cons, List.length_nil]; omega) w
    have p3 := fun w => run_sadd (P := Tryz.prog) (l := [if k = 1 then 119 else 114] ++ [32] ++ ([48, 120] ++ digL 16 a)) (m := [32]) (by simp only [List.length_append, List.length_cons, List.length_nil]; omega) w
    have p4 := fun w => run_sadd (P := Tryz.prog) (l := [if k = 1 then 119 else 114] ++ [32] ++ ([48, 120] ++ digL 16 a) ++ [32]) (m := digL 10 v) (by simp only [List.length_append, List.length_cons, List.length_nil]; omega) w
    rw [← hE] at p4
    generalize txE ⟨k, a, v⟩ = E at p4 hE ⊢
    generalize [if k = 1 then 119 else 114] ++ [32] ++ ([48, 120] ++ digL 16 a) ++ [32] = X4 at p3 p4
    generalize [if k = 1 then 119 else 114] ++ [32] ++ ([48, 120] ++ digL 16 a) = X3 at p2 p3
    generalize [48, 120] ++ digL 16 a = D1 at p2 HX
    generalize digL 10 v = D2 at p4 DG
    clear HL hE h x0 x1
    obtain ⟨hk, _⟩ := hv
    by_cases h1 : k = 1
    · rw [if_pos h1] at p1 p2
      have q1 : ∀ w, (Op.stringOp .add ({ data := #[119] } : ByteArray) ({ data := #[32] } : ByteArray)).run Tryz.prog w = .ok (.string (strOfNums ([119] ++ [32]))) w := p1
      generalize ([119] ++ [32] : List Int) = X2 at q1 p2
      have q3 : ∀ w, (Op.stringOp .add (strOfNums X3) ({ data := #[32] } : ByteArray)).run Tryz.prog w = .ok (.string (strOfNums X4)) w := p3
      clear p1 p3 hk
      subst h1
      go_enter Tryz.func22, Tryz.ntmps22
      go_wp2_with fail
      refine (hC _).mono ?_
      rintro r w2 ⟨rfl, hb2⟩
      have HK : ∀ W, Below w2.heap.size w2 W → Below ((w.alloc (Obj.cells #[.int .i64 1, .int .i64 a, .int .i64 v] 39)).alloc (Obj.cells #[.int .i64 0, .string { data := #[] }] 27)).heap.size ((w.alloc (Obj.cells #[.int .i64 1, .int .i64 a, .int .i64 v] 39)).alloc (Obj.cells #[.int .i64 0, .string { data := #[] }] 27)) W := fun W hW => hb2.trans (hW.mono hb2.size)
      obtain ⟨r0, r1, r2, r3, s0, s1, s2, s3, s4, s5⟩ := HM.out w2 hb2
      have HK := hide (fun W hW => HM.out W (HK W hW))
      have t2 := hT.on s4
      have F1 := fun W => field_txt 0 (strOfNums D1) W
      clear hb2
      go_wp2_with fail
      go_region_with (first
        | (go_at_call 10; refine (HX.out _ ?_).mono ?_; exact t2.1; rintro r wa ⟨rfl, ba⟩; have hA : Below w2.heap.size w2 wa := Below.trans (by first | exact Below.refl _ w2 | exact (Below.refl _ w2).drew | exact below_drewN (Below.refl _ w2) _ | exact below_drewN (Below.refl _ w2).drew _) (ba.mono (by simp)); obtain ⟨a0, a1, a2, a3, c0, c1, c2, c3, c4, c5⟩ := HK.out wa hA; have ta := t2.on hA; have za := hA.size)
        | (go_at_call 37; refine (DG.out _ ?_).mono ?_; exact ta; rintro r wb ⟨rfl, bb⟩; have hB : Below w2.heap.size w2 wb := hA.trans (Below.trans (by first | exact Below.refl _ wa | exact (Below.refl _ wa).drew | exact below_drewN (Below.refl _ wa) _ | exact below_drewN (Below.refl _ wa).drew _) (bb.mono hA.size)); obtain ⟨b0, b1, b2, b3, d0, d1, d2, d3, d4, d5⟩ := HK.out wb hB))
      all_goals
        go_wp2
        refine bodyPost_ret (v := txtV 0 E) (by simp [results, Tryz.results22, go_sem, b0, b1]) rfl ?_
        exact ⟨rfl, (d4.setCell (Nat.le_succ _) _).setCell (Nat.le_succ _) _⟩
    · rw [if_neg h1] at p1 p2
      have q1 : ∀ w, (Op.stringOp .add ({ data := #[114] } : ByteArray) ({ data := #[32] } : ByteArray)).run Tryz.prog w = .ok (.string (strOfNums ([114] ++ [32]))) w := p1
      generalize ([114] ++ [32] : List Int) = X2 at q1 p2
      have q3 : ∀ w, (Op.stringOp .add (strOfNums X3) ({ data := #[32] } : ByteArray)).run Tryz.prog w = .ok (.string (strOfNums X4)) w := p3
      clear p1 p3
      obtain rfl : k = 0 := by omega
      clear h1
      go_enter Tryz.func22, Tryz.ntmps22
      go_wp2_with fail
      refine (hC _).mono ?_
      rintro r w2 ⟨rfl, hb2⟩
      have HK : ∀ W, Below w2.heap.size w2 W → Below ((w.alloc (Obj.cells #[.int .i64 0, .int .i64 a, .int .i64 v] 39)).alloc (Obj.cells #[.int .i64 0, .string { data := #[] }] 27)).heap.size ((w.alloc (Obj.cells #[.int .i64 0, .int .i64 a, .int .i64 v] 39)).alloc (Obj.cells #[.int .i64 0, .string { data := #[] }] 27)) W := fun W hW => hb2.trans (hW.mono hb2.size)
      obtain ⟨r0, r1, r2, r3, s0, s1, s2, s3, s4, s5⟩ := HM.out w2 hb2
      have HK := hide (fun W hW => HM.out W (HK W hW))
      have t2 := hT.on s4
      have F1 := fun W => field_txt 0 (strOfNums D1) W
      clear hb2
      go_wp2_with fail
      go_region_with (first
        | (go_at_call 10; refine (HX.out _ ?_).mono ?_; exact t2.1; rintro r wa ⟨rfl, ba⟩; have hA : Below w2.heap.size w2 wa := Below.trans (by first | exact Below.refl _ w2 | exact (Below.refl _ w2).drew | exact below_drewN (Below.refl _ w2) _ | exact below_drewN (Below.refl _ w2).drew _) (ba.mono (by simp)); obtain ⟨a0, a1, a2, a3, c0, c1, c2, c3, c4, c5⟩ := HK.out wa hA; have ta := t2.on hA; have za := hA.size)
        | (go_at_call 37; refine (DG.out _ ?_).mono ?_; exact ta; rintro r wb ⟨rfl, bb⟩; have hB : Below w2.heap.size w2 wb := hA.trans (Below.trans (by first | exact Below.refl _ wa | exact (Below.refl _ wa).drew | exact below_drewN (Below.refl _ wa) _ | exact below_drewN (Below.refl _ wa).drew _) (bb.mono hA.size)); obtain ⟨b0, b1, b2, b3, d0, d1, d2, d3, d4, d5⟩ := HK.out wb hB))
      all_goals
        go_wp2
        refine bodyPost_ret (v := txtV 0 E) (by simp [results, Tryz.results22, go_sem, b0, b1]) rfl ?_
        exact ⟨rfl, (d4.setCell (Nat.le_succ _) _).setCell (Nat.le_succ _) _⟩
  · rw [if_neg h]
    obtain ⟨F, hF⟩ : ∃ F, F = evF ⟨k, a, v⟩ := ⟨_, rfl⟩
    rw [← hF] at h hC ⊢
    have f0 : (F != 0) = true := bne_iff_ne.2 h
    clear h hF
    go_enter Tryz.func22, Tryz.ntmps22
    go_wp2_with fail
    refine (hC _).mono ?_
    rintro r w2 ⟨rfl, hb2⟩
    obtain ⟨r0, r1, r2, r3, s0, s1, s2, s3, s4, s5⟩ := HM.out w2 hb2
    go_wp2
    refine bodyPost_ret (v := txtV F []) (by simp [results, Tryz.results22, go_sem, r0, r1]; rfl) rfl ?_
    exact ⟨rfl, (s4.setCell (Nat.le_succ _) _).setCell (Nat.le_succ _) _⟩
end Go.Proofs.YtmdaianbhpppfaaGreatDoor
