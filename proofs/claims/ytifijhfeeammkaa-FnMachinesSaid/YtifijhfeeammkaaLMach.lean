/- The walk of the law of machines. -/
import Derived.Test.YtifijhfeeammkaaDrawMe
import Derived.Test.YtifijhfeeammkaaGDo
import Derived.Test.YtifijhfeeammkaaGMac
import Derived.Test.YtifijhfeeammkaaGMsf
import Derived.Test.YtifijhfeeammkaaSameM
import Derived.Test.YtifijhfeeammkaaGNew
import Derived.Test.YtifijhfeeammkaaLw
namespace Go.Proofs.Ytifijhfeeammkaa
open Go.RowKit

theorem keep4q {W w w' : World} {a0 a1 a2 a3 : Addr} {v0 v1 v2 v3 : Value} (hb : Below w.heap.size w w') (h : w.cell? a0 = some v0 ∧ w.cell? a1 = some v1 ∧ w.cell? a2 = some v2 ∧ w.cell? a3 = some v3 ∧ Below W.heap.size W w) :
    w'.cell? a0 = some v0 ∧ w'.cell? a1 = some v1 ∧ w'.cell? a2 = some v2 ∧ w'.cell? a3 = some v3 ∧ Below W.heap.size W w' :=
  ⟨cell_kept hb h.1, cell_kept hb h.2.1, cell_kept hb h.2.2.1, cell_kept hb h.2.2.2.1, h.2.2.2.2.trans (hb.mono h.2.2.2.2.size)⟩
theorem keep5q {W w w' : World} {a0 a1 a2 a3 a4 : Addr} {v0 v1 v2 v3 v4 : Value} (hb : Below w.heap.size w w') (h : w.cell? a0 = some v0 ∧ w.cell? a1 = some v1 ∧ w.cell? a2 = some v2 ∧ w.cell? a3 = some v3 ∧ w.cell? a4 = some v4 ∧ Below W.heap.size W w) :
    w'.cell? a0 = some v0 ∧ w'.cell? a1 = some v1 ∧ w'.cell? a2 = some v2 ∧ w'.cell? a3 = some v3 ∧ w'.cell? a4 = some v4 ∧ Below W.heap.size W w' :=
  ⟨cell_kept hb h.1, cell_kept hb h.2.1, cell_kept hb h.2.2.1, cell_kept hb h.2.2.2.1, cell_kept hb h.2.2.2.2.1, h.2.2.2.2.2.trans (hb.mono h.2.2.2.2.2.size)⟩
theorem keep6q {W w w' : World} {a0 a1 a2 a3 a4 a5 : Addr} {v0 v1 v2 v3 v4 v5 : Value} (hb : Below w.heap.size w w') (h : w.cell? a0 = some v0 ∧ w.cell? a1 = some v1 ∧ w.cell? a2 = some v2 ∧ w.cell? a3 = some v3 ∧ w.cell? a4 = some v4 ∧ w.cell? a5 = some v5 ∧ Below W.heap.size W w) :
    w'.cell? a0 = some v0 ∧ w'.cell? a1 = some v1 ∧ w'.cell? a2 = some v2 ∧ w'.cell? a3 = some v3 ∧ w'.cell? a4 = some v4 ∧ w'.cell? a5 = some v5 ∧ Below W.heap.size W w' :=
  ⟨cell_kept hb h.1, cell_kept hb h.2.1, cell_kept hb h.2.2.1, cell_kept hb h.2.2.2.1, cell_kept hb h.2.2.2.2.1, cell_kept hb h.2.2.2.2.2.1, h.2.2.2.2.2.2.trans (hb.mono h.2.2.2.2.2.2.size)⟩
theorem keep22q {W w w' : World} {a0 a1 a2 a3 a4 a5 a6 a7 a8 a9 a10 a11 a12 a13 a14 a15 a16 a17 a18 a19 a20 a21 : Addr} {v0 v1 v2 v3 v4 v5 v6 v7 v8 v9 v10 v11 v12 v13 v14 v15 v16 v17 v18 v19 v20 v21 : Value} (hb : Below w.heap.size w w') (h : w.cell? a0 = some v0 ∧ w.cell? a1 = some v1 ∧ w.cell? a2 = some v2 ∧ w.cell? a3 = some v3 ∧ w.cell? a4 = some v4 ∧ w.cell? a5 = some v5 ∧ w.cell? a6 = some v6 ∧ w.cell? a7 = some v7 ∧ w.cell? a8 = some v8 ∧ w.cell? a9 = some v9 ∧ w.cell? a10 = some v10 ∧ w.cell? a11 = some v11 ∧ w.cell? a12 = some v12 ∧ w.cell? a13 = some v13 ∧ w.cell? a14 = some v14 ∧ w.cell? a15 = some v15 ∧ w.cell? a16 = some v16 ∧ w.cell? a17 = some v17 ∧ w.cell? a18 = some v18 ∧ w.cell? a19 = some v19 ∧ w.cell? a20 = some v20 ∧ w.cell? a21 = some v21 ∧ Below W.heap.size W w) :
    w'.cell? a0 = some v0 ∧ w'.cell? a1 = some v1 ∧ w'.cell? a2 = some v2 ∧ w'.cell? a3 = some v3 ∧ w'.cell? a4 = some v4 ∧ w'.cell? a5 = some v5 ∧ w'.cell? a6 = some v6 ∧ w'.cell? a7 = some v7 ∧ w'.cell? a8 = some v8 ∧ w'.cell? a9 = some v9 ∧ w'.cell? a10 = some v10 ∧ w'.cell? a11 = some v11 ∧ w'.cell? a12 = some v12 ∧ w'.cell? a13 = some v13 ∧ w'.cell? a14 = some v14 ∧ w'.cell? a15 = some v15 ∧ w'.cell? a16 = some v16 ∧ w'.cell? a17 = some v17 ∧ w'.cell? a18 = some v18 ∧ w'.cell? a19 = some v19 ∧ w'.cell? a20 = some v20 ∧ w'.cell? a21 = some v21 ∧ Below W.heap.size W w' :=
  ⟨cell_kept hb h.1, cell_kept hb h.2.1, cell_kept hb h.2.2.1, cell_kept hb h.2.2.2.1, cell_kept hb h.2.2.2.2.1, cell_kept hb h.2.2.2.2.2.1, cell_kept hb h.2.2.2.2.2.2.1, cell_kept hb h.2.2.2.2.2.2.2.1, cell_kept hb h.2.2.2.2.2.2.2.2.1, cell_kept hb h.2.2.2.2.2.2.2.2.2.1, cell_kept hb h.2.2.2.2.2.2.2.2.2.2.1, cell_kept hb h.2.2.2.2.2.2.2.2.2.2.2.1, cell_kept hb h.2.2.2.2.2.2.2.2.2.2.2.2.1, cell_kept hb h.2.2.2.2.2.2.2.2.2.2.2.2.2.1, cell_kept hb h.2.2.2.2.2.2.2.2.2.2.2.2.2.2.1, cell_kept hb h.2.2.2.2.2.2.2.2.2.2.2.2.2.2.2.1, cell_kept hb h.2.2.2.2.2.2.2.2.2.2.2.2.2.2.2.2.1, cell_kept hb h.2.2.2.2.2.2.2.2.2.2.2.2.2.2.2.2.2.1, cell_kept hb h.2.2.2.2.2.2.2.2.2.2.2.2.2.2.2.2.2.2.1, cell_kept hb h.2.2.2.2.2.2.2.2.2.2.2.2.2.2.2.2.2.2.2.1, cell_kept hb h.2.2.2.2.2.2.2.2.2.2.2.2.2.2.2.2.2.2.2.2.1, cell_kept hb h.2.2.2.2.2.2.2.2.2.2.2.2.2.2.2.2.2.2.2.2.2.1, h.2.2.2.2.2.2.2.2.2.2.2.2.2.2.2.2.2.2.2.2.2.2.trans (hb.mono h.2.2.2.2.2.2.2.2.2.2.2.2.2.2.2.2.2.2.2.2.2.2.size)⟩

theorem field_mr0 (C v : Int) (A Ap : Option Addr) (n c n' c' : Nat) (W : World) : (Instr.field 33 (mrV C A n c Ap n' c' v) 0).run Try.prog W = .ok (.int .i64 C) W := by kernel_rfl
theorem doR_few (m : Mac) (core : Int) (o : Ev) : (doR m core o).2.1.cs.length ≤ 4 ∧ (doR m core o).2.1.mem.length ≤ 40 := by
  by_cases h : doC m core o = 0
  · rw [doR_ok h]
    obtain ⟨h1, h2, h3, h4⟩ := doC_zero h
    obtain ⟨G, _⟩ := macF_zero h1
    have hd := do_ok G (c := core.toNat) (by omega) h3
    have hl := hd.len
    have := hd.good.nL.2.1
    have := hd.good.shp.1
    exact ⟨by simp only; omega, by simp only; omega⟩
  · rw [doR_no h]
    simp
theorem doR_facts (m : Mac) (core : Int) (o : Ev) : ((doR m core o).1 ≠ 0 → (doR m core o).2.1.cs = []) ∧ ((doR m core o).1 = 0 → macF m = 0 ∧ macF (doR m core o).2.1 = 0 ∧ (0 ≤ o.a ∧ o.a ≤ 999999) ∧ (o.k = 0 ∨ o.k = 1) ∧ valM (doR m core o).2.1 o.a = (doR m core o).2.2 ∧ (o.k = 1 → (doR m core o).2.2 = o.v) ∧ (o.k = 0 → valM m o.a = (doR m core o).2.2) ∧ ∀ i, i ≠ o.a → valM (doR m core o).2.1 i = valM m i) := by
  by_cases h : doC m core o = 0
  · rw [doR_ok h]
    obtain ⟨h1, h2, h3, h4⟩ := doC_zero h
    obtain ⟨G, _⟩ := macF_zero h1
    have hd := do_ok G (c := core.toNat) (by omega) h3
    have hl := hd.len
    obtain ⟨hk, ha, _⟩ := opF_zero h3
    have hl32 : (doM m core.toNat o).1.mem.length ≤ 32 := by omega
    exact ⟨fun hh => absurd rfl hh, fun _ => ⟨h1, macF_good hd.good hl32, ha, hk.imp (fun e => e.1) id, val_eq hd.good hd.here, hd.stored, fun e => val_eq G (hd.loaded e), fun i hi => val_eq hd.good (hd.other i _ hi (val_has G.shp i))⟩⟩
  · rw [doR_no h]
    exact ⟨fun _ => rfl, fun hh => absurd hh h⟩
theorem newR_few (a b : Int) : (newR a b).2.1.cs.length ≤ 4 ∧ (newR a b).2.1.mem.length ≤ 4 := by
  by_cases h : newOk a b
  · rw [newR_ok h]
    obtain ⟨h1, h2⟩ := h
    simp only [newM, List.length_replicate, List.length_nil]
    omega
  · rw [newR_no h]
    simp
theorem newR_facts (a b : Int) : (newR a b).1 = 0 → macF (newR a b).2.1 = 0 ∧ ((newR a b).2.1.cs.length : Int) = a := by
  by_cases h : newOk a b
  · rw [newR_ok h]
    obtain ⟨h1, h2⟩ := h
    intro _
    exact ⟨macF_good (n := a.toNat) (L := b.toNat) (new_good (by omega)) (by simp [newM]), by simp only [newM, List.length_replicate]; omega⟩
  · rw [newR_no h]
    intro hh
    exact absurd hh (by decide)

set_option maxRecDepth 100000 in
set_option maxHeartbeats 8000000 in
theorem FnMachines_walk (l : List Int) (A : Option Addr) (c : Nat) (w : World) (hl : l.length ≤ maxLen) (h : Rd .u8 w w.heap.size A l) (b8 : B8 l) :
    Calls Try.prog 3 #[.slice A l.length c] w fun e w' => e = .returned (.bool true) ∧ Below w.heap.size w w' := by
  by_cases hL : l.length ≤ 1048576
  · clear hl
    go_enter Try.func3, Try.ntmps3
    go_wp2_with fail
    refine (lwBig_no l A c w hL).mono ?_
    rintro e w0 ⟨rfl, rfl⟩
    go_wp2_with fail
    refine (DrawDoOp_any l A c w hL h b8).mono ?_
    rintro e w1 ⟨m, A1, c1, A2, c2, co, x, rfl, ⟨hmc, hmm⟩, hco, rm, B⟩
    have R := h.below B
    have zB := B.size
    clear h
    have lm1 : m.cs.length ≤ maxLen := by unfold maxLen; omega
    have lm2 : m.mem.length ≤ maxLen := by unfold maxLen; omega
    have IM := hide (fun W h => implDo_any m co x A1 A2 c1 c2 W lm1 lm2 (by omega) h)
    have SM := hide (fun W h => specDo_any m co x A1 A2 c1 c2 W lm1 lm2 h)
    unfold MrPost at IM SM
    have hf := doR_few m co x
    have hz := doR_facts m co x
    obtain ⟨C, hC⟩ : ∃ y, y = (doR m co x).1 := ⟨_, rfl⟩
    obtain ⟨n, hn⟩ : ∃ y, y = (doR m co x).2.1 := ⟨_, rfl⟩
    obtain ⟨v, hv⟩ : ∃ y, y = (doR m co x).2.2 := ⟨_, rfl⟩
    rw [← hC, ← hn, ← hv] at IM SM hz
    rw [← hn] at hf
    have HZ := hide hz
    have ln1 : n.cs.length ≤ maxLen := by unfold maxLen; omega
    have ln2 : n.mem.length ≤ maxLen := by unfold maxLen; omega
    clear hC hn hv hz hf hco
    obtain ⟨W3, hW3⟩ : ∃ Y, Y = (w1.alloc (Obj.cells #[Value.slice A1 m.cs.length c1, Value.slice A2 m.mem.length c2] 27)).alloc (Obj.cells #[Value.int .i64 x.k, Value.int .i64 x.a, Value.int .i64 x.v] 29) := ⟨_, rfl⟩
    obtain ⟨k3, k5, hzW3, e3⟩ := two_new _ _ _ _ _ W3 hW3
    have HW3 := hide hW3
    clear hW3 hzW3
    have z_1 := Below.size e3
    replace rm := (rm.below e3).lt
    replace R := R.below (e3.mono (by omega))
    replace B := B.trans (e3.mono B.size)
    clear e3
    go_upto_region 4 with fail
    rw [← HW3.out]
    have q0_0 := (k3.cell 0).trans (rfl : _ = some (Value.slice A1 m.cs.length c1))
    have q0_1 := (k3.cell 1).trans (rfl : _ = some (Value.slice A2 m.mem.length c2))
    have q1_0 := (k5.cell 0).trans (rfl : _ = some (Value.int .i64 x.k))
    have q1_1 := (k5.cell 1).trans (rfl : _ = some (Value.int .i64 x.a))
    have q1_2 := (k5.cell 2).trans (rfl : _ = some (Value.int .i64 x.v))
    go_wp2_with fail
    refine (IM.out _ rm).mono ?_
    rintro e w4 ⟨A6, c6, Ap6, cp6, us6, rfl, o6, b4⟩
    clear q0_0 q0_1 q1_0 q1_1 q1_2
    have z_2 := Below.size b4
    replace rm := (rm.below b4).lt
    replace R := R.below (b4.mono (by omega))
    replace B := B.trans (b4.mono B.size)
    replace k3 := k3.kept b4
    replace k5 := k5.kept b4
    clear b4
    have r6 := o6.rd
    clear o6 IM
    have e_ := (Below.refl w4.heap.size w4).alloc (Nat.le_refl _) (Obj.cells #[Value.int .i64 C, Value.slice A6 n.cs.length c6, Value.slice Ap6 n.mem.length cp6, Value.int .i64 v] 33)
    have zz_2 : (w4.alloc (Obj.cells #[Value.int .i64 C, Value.slice A6 n.cs.length c6, Value.slice Ap6 n.mem.length cp6, Value.int .i64 v] 33)).heap.size = w4.heap.size + 1 := by simp
    have z_3 := Below.size e_
    replace rm := (rm.below e_).lt
    replace R := R.below (e_.mono (by omega))
    replace B := B.trans (e_.mono B.size)
    replace k3 := k3.kept e_
    replace k5 := k5.kept e_
    replace r6 := (r6.below e_).lt
    clear e_
    have k6 := Bk.new w4 #[Value.int .i64 C, Value.slice A6 n.cs.length c6, Value.slice Ap6 n.mem.length cp6, Value.int .i64 v] 33
    have q0_0 := (k3.cell 0).trans (rfl : _ = some (Value.slice A1 m.cs.length c1))
    have q0_1 := (k3.cell 1).trans (rfl : _ = some (Value.slice A2 m.mem.length c2))
    have q1_0 := (k5.cell 0).trans (rfl : _ = some (Value.int .i64 x.k))
    have q1_1 := (k5.cell 1).trans (rfl : _ = some (Value.int .i64 x.a))
    have q1_2 := (k5.cell 2).trans (rfl : _ = some (Value.int .i64 x.v))
    have q6 := k6.cell
    go_wp2_with fail
    clear q6 q0_0 q0_1 q1_0 q1_1 q1_2
    refine (SM.out _ rm).mono ?_
    rintro e w5 ⟨A7, c7, Ap7, cp7, us7, rfl, o7, b5⟩
    have z_4 := Below.size b5
    replace rm := (rm.below b5).lt
    replace R := R.below (b5.mono (by omega))
    replace B := B.trans (b5.mono B.size)
    replace k3 := k3.kept b5
    replace k5 := k5.kept b5
    replace r6 := (r6.below b5).lt
    replace k6 := k6.kept b5
    clear b5
    have r7 := o7.rd
    clear o7 SM
    have e_ := (Below.refl w5.heap.size w5).alloc (Nat.le_refl _) (Obj.cells #[Value.int .i64 C, Value.slice A7 n.cs.length c7, Value.slice Ap7 n.mem.length cp7, Value.int .i64 v] 33)
    have zz_4 : (w5.alloc (Obj.cells #[Value.int .i64 C, Value.slice A7 n.cs.length c7, Value.slice Ap7 n.mem.length cp7, Value.int .i64 v] 33)).heap.size = w5.heap.size + 1 := by simp
    have z_5 := Below.size e_
    replace rm := (rm.below e_).lt
    replace R := R.below (e_.mono (by omega))
    replace B := B.trans (e_.mono B.size)
    replace k3 := k3.kept e_
    replace k5 := k5.kept e_
    replace r6 := (r6.below e_).lt
    replace k6 := k6.kept e_
    replace r7 := (r7.below e_).lt
    clear e_
    have k7 := Bk.new w5 #[Value.int .i64 C, Value.slice A7 n.cs.length c7, Value.slice Ap7 n.mem.length cp7, Value.int .i64 v] 33
    have q6 := k7.cell
    go_wp2_with fail
    clear q6
    refine (DrawValueAt_any l A c _ hL (R.more (by omega)) b8).mono ?_
    rintro e w6 ⟨X, A8, c8, Ap8, cp8, ad, rfl, ⟨hXc, hXm⟩, rX, b6⟩
    have z_6 := Below.size b6
    replace rm := (rm.below b6).lt
    replace R := R.below (b6.mono (by omega))
    replace B := B.trans (b6.mono B.size)
    replace k3 := k3.kept b6
    replace k5 := k5.kept b6
    replace r6 := (r6.below b6).lt
    replace k6 := k6.kept b6
    replace r7 := (r7.below b6).lt
    replace k7 := k7.kept b6
    clear b6
    have lX1 : X.cs.length ≤ maxLen := by unfold maxLen; omega
    have lX2 : X.mem.length ≤ maxLen := by unfold maxLen; omega
    have IV := hide (fun W h => implValueAt_any X A8 Ap8 c8 cp8 ad W lX1 lX2 h)
    have SV := hide (fun W h => specValueAt_any X A8 Ap8 c8 cp8 ad W lX1 lX2 h)
    obtain ⟨va, hva⟩ : ∃ y, y = vaC ad (macF X) := ⟨_, rfl⟩
    obtain ⟨vb, hvb⟩ : ∃ y, y = vaV X ad (macF X) := ⟨_, rfl⟩
    rw [← hva, ← hvb] at IV SV
    clear hva hvb hXc hXm
    have e_ := (Below.refl w6.heap.size w6).alloc (Nat.le_refl _) (Obj.cells #[Value.slice A8 X.cs.length c8, Value.slice Ap8 X.mem.length cp8] 27)
    have zz_6 : (w6.alloc (Obj.cells #[Value.slice A8 X.cs.length c8, Value.slice Ap8 X.mem.length cp8] 27)).heap.size = w6.heap.size + 1 := by simp
    have z_7 := Below.size e_
    replace rm := (rm.below e_).lt
    replace R := R.below (e_.mono (by omega))
    replace B := B.trans (e_.mono B.size)
    replace k3 := k3.kept e_
    replace k5 := k5.kept e_
    replace r6 := (r6.below e_).lt
    replace k6 := k6.kept e_
    replace r7 := (r7.below e_).lt
    replace k7 := k7.kept e_
    replace rX := (rX.below e_).lt
    clear e_
    have k8 := Bk.new w6 #[Value.slice A8 X.cs.length c8, Value.slice Ap8 X.mem.length cp8] 27
    have q0_0 := (k8.cell 0).trans (rfl : _ = some (Value.slice A8 X.cs.length c8))
    have q0_1 := (k8.cell 1).trans (rfl : _ = some (Value.slice Ap8 X.mem.length cp8))
    go_wp2_with fail
    clear q0_0 q0_1
    refine (IV.out _ rX).mono ?_
    rintro e w7 ⟨rfl, b7⟩
    have z_8 := Below.size b7
    replace rm := (rm.below b7).lt
    replace R := R.below (b7.mono (by omega))
    replace B := B.trans (b7.mono B.size)
    replace k3 := k3.kept b7
    replace k5 := k5.kept b7
    replace r6 := (r6.below b7).lt
    replace k6 := k6.kept b7
    replace r7 := (r7.below b7).lt
    replace k7 := k7.kept b7
    replace rX := (rX.below b7).lt
    replace k8 := k8.kept b7
    clear b7
    clear IV
    have e_ := (Below.refl w7.heap.size w7).alloc (Nat.le_refl _) (Obj.cells #[Value.int .i64 va, Value.int .i64 vb] 38)
    have zz_8 : (w7.alloc (Obj.cells #[Value.int .i64 va, Value.int .i64 vb] 38)).heap.size = w7.heap.size + 1 := by simp
    have z_9 := Below.size e_
    replace rm := (rm.below e_).lt
    replace R := R.below (e_.mono (by omega))
    replace B := B.trans (e_.mono B.size)
    replace k3 := k3.kept e_
    replace k5 := k5.kept e_
    replace r6 := (r6.below e_).lt
    replace k6 := k6.kept e_
    replace r7 := (r7.below e_).lt
    replace k7 := k7.kept e_
    replace rX := (rX.below e_).lt
    replace k8 := k8.kept e_
    clear e_
    have k10 := Bk.new w7 #[Value.int .i64 va, Value.int .i64 vb] 38
    have q6 := k10.cell
    go_wp2_with fail
    clear q6
    refine (DrawNewMachine_any l A c _ hL (R.more (by omega)) b8).mono ?_
    rintro e w8 ⟨na, nb, rfl, hna, hnb, b8_⟩
    have z_10 := Below.size b8_
    replace rm := (rm.below b8_).lt
    replace R := R.below (b8_.mono (by omega))
    replace B := B.trans (b8_.mono B.size)
    replace k3 := k3.kept b8_
    replace k5 := k5.kept b8_
    replace r6 := (r6.below b8_).lt
    replace k6 := k6.kept b8_
    replace r7 := (r7.below b8_).lt
    replace k7 := k7.kept b8_
    replace rX := (rX.below b8_).lt
    replace k8 := k8.kept b8_
    replace k10 := k10.kept b8_
    clear b8_
    have IN := hide (fun W => implNew_any na nb W)
    have SN := hide (fun W => specNew_any na nb W)
    unfold MrPost at IN SN
    have hNf := newR_few na nb
    have hNz := newR_facts na nb
    obtain ⟨NC, hNC⟩ : ∃ y, y = (newR na nb).1 := ⟨_, rfl⟩
    obtain ⟨NM, hNM⟩ : ∃ y, y = (newR na nb).2.1 := ⟨_, rfl⟩
    obtain ⟨NV, hNV⟩ : ∃ y, y = (newR na nb).2.2 := ⟨_, rfl⟩
    rw [← hNC, ← hNM, ← hNV] at IN SN
    rw [← hNM] at hNf
    rw [← hNC, ← hNM] at hNz
    have HNZ := hide hNz
    have lN1 : NM.cs.length ≤ maxLen := by unfold maxLen; omega
    have lN2 : NM.mem.length ≤ maxLen := by unfold maxLen; omega
    clear hNC hNM hNV hNf hNz hna hnb
    go_wp2_with fail
    refine (IN.out _).mono ?_
    rintro e w9 ⟨A13, c13, Ap13, cp13, us13, rfl, o13, b9⟩
    have z_11 := Below.size b9
    replace rm := (rm.below b9).lt
    replace R := R.below (b9.mono (by omega))
    replace B := B.trans (b9.mono B.size)
    replace k3 := k3.kept b9
    replace k5 := k5.kept b9
    replace r6 := (r6.below b9).lt
    replace k6 := k6.kept b9
    replace r7 := (r7.below b9).lt
    replace k7 := k7.kept b9
    replace rX := (rX.below b9).lt
    replace k8 := k8.kept b9
    replace k10 := k10.kept b9
    clear b9
    have r13 := o13.rd
    clear o13 IN
    have e_ := (Below.refl w9.heap.size w9).alloc (Nat.le_refl _) (Obj.cells #[Value.int .i64 NC, Value.slice A13 NM.cs.length c13, Value.slice Ap13 NM.mem.length cp13, Value.int .i64 NV] 33)
    have zz_11 : (w9.alloc (Obj.cells #[Value.int .i64 NC, Value.slice A13 NM.cs.length c13, Value.slice Ap13 NM.mem.length cp13, Value.int .i64 NV] 33)).heap.size = w9.heap.size + 1 := by simp
    have z_12 := Below.size e_
    replace rm := (rm.below e_).lt
    replace R := R.below (e_.mono (by omega))
    replace B := B.trans (e_.mono B.size)
    replace k3 := k3.kept e_
    replace k5 := k5.kept e_
    replace r6 := (r6.below e_).lt
    replace k6 := k6.kept e_
    replace r7 := (r7.below e_).lt
    replace k7 := k7.kept e_
    replace rX := (rX.below e_).lt
    replace k8 := k8.kept e_
    replace k10 := k10.kept e_
    replace r13 := (r13.below e_).lt
    clear e_
    have k13 := Bk.new w9 #[Value.int .i64 NC, Value.slice A13 NM.cs.length c13, Value.slice Ap13 NM.mem.length cp13, Value.int .i64 NV] 33
    have q6 := k13.cell
    go_wp2_with fail
    clear q6
    refine (DrawSameMachines_any l A c _ hL (R.more (by omega)) b8).mono ?_
    rintro e w10 ⟨m2, n2, A14, c14, Ap14, cp14, A15, c15, Ap15, cp15, rfl, hm2, hn2, r14, r15, b10⟩
    have z_13 := Below.size b10
    replace rm := (rm.below b10).lt
    replace R := R.below (b10.mono (by omega))
    replace B := B.trans (b10.mono B.size)
    replace k3 := k3.kept b10
    replace k5 := k5.kept b10
    replace r6 := (r6.below b10).lt
    replace k6 := k6.kept b10
    replace r7 := (r7.below b10).lt
    replace k7 := k7.kept b10
    replace rX := (rX.below b10).lt
    replace k8 := k8.kept b10
    replace k10 := k10.kept b10
    replace r13 := (r13.below b10).lt
    replace k13 := k13.kept b10
    clear b10
    have lq1 : m2.cs.length ≤ maxLen := by unfold maxLen; omega
    have lq2 : m2.mem.length ≤ maxLen := by unfold maxLen; omega
    have IQ := hide (fun W h k => implSM_any m2 n2 A14 Ap14 A15 Ap15 c14 cp14 c15 cp15 W lq1 lq2 h k)
    have SQ := hide (fun W h k => specSM_any m2 n2 A14 Ap14 A15 Ap15 c14 cp14 c15 cp15 W lq1 lq2 h k)
    obtain ⟨FQ, hFQ⟩ : ∃ y, y = sameM m2 n2 := ⟨_, rfl⟩
    rw [← hFQ] at IQ SQ
    clear hFQ hm2 hn2
    obtain ⟨W11, hW11⟩ : ∃ Y, Y = (w10.alloc (Obj.cells #[Value.slice A14 m2.cs.length c14, Value.slice Ap14 m2.mem.length cp14] 27)).alloc (Obj.cells #[Value.slice A15 n2.cs.length c15, Value.slice Ap15 n2.mem.length cp15] 27) := ⟨_, rfl⟩
    obtain ⟨k14, k15, hzW11, e11⟩ := two_new _ _ _ _ _ W11 hW11
    have HW11 := hide hW11
    clear hW11 hzW11
    have z_14 := Below.size e11
    replace rm := (rm.below e11).lt
    replace R := R.below (e11.mono (by omega))
    replace B := B.trans (e11.mono B.size)
    replace k3 := k3.kept e11
    replace k5 := k5.kept e11
    replace r6 := (r6.below e11).lt
    replace k6 := k6.kept e11
    replace r7 := (r7.below e11).lt
    replace k7 := k7.kept e11
    replace rX := (rX.below e11).lt
    replace k8 := k8.kept e11
    replace k10 := k10.kept e11
    replace r13 := (r13.below e11).lt
    replace k13 := k13.kept e11
    replace r14 := (r14.below e11).lt
    replace r15 := (r15.below e11).lt
    clear e11
    go_upto_region 11 with fail
    rw [← HW11.out]
    go_wp2_with fail
    refine (DrawOpFault_any l A c _ hL (R.more (by omega)) b8).mono ?_
    rintro e w12 ⟨f, rfl, b12⟩
    have z_15 := Below.size b12
    replace rm := (rm.below b12).lt
    replace R := R.below (b12.mono (by omega))
    replace B := B.trans (b12.mono B.size)
    replace k3 := k3.kept b12
    replace k5 := k5.kept b12
    replace r6 := (r6.below b12).lt
    replace k6 := k6.kept b12
    replace r7 := (r7.below b12).lt
    replace k7 := k7.kept b12
    replace rX := (rX.below b12).lt
    replace k8 := k8.kept b12
    replace k10 := k10.kept b12
    replace r13 := (r13.below b12).lt
    replace k13 := k13.kept b12
    replace r14 := (r14.below b12).lt
    replace r15 := (r15.below b12).lt
    replace k14 := k14.kept b12
    replace k15 := k15.kept b12
    clear b12
    clear R
    have e_ := (Below.refl w12.heap.size w12).alloc (Nat.le_refl _) (Obj.cells #[Value.int .i64 f.k, Value.int .i64 f.a, Value.int .i64 f.v] 29)
    have zz_15 : (w12.alloc (Obj.cells #[Value.int .i64 f.k, Value.int .i64 f.a, Value.int .i64 f.v] 29)).heap.size = w12.heap.size + 1 := by simp
    have z_16 := Below.size e_
    replace rm := (rm.below e_).lt
    replace B := B.trans (e_.mono B.size)
    replace k3 := k3.kept e_
    replace k5 := k5.kept e_
    replace r6 := (r6.below e_).lt
    replace k6 := k6.kept e_
    replace r7 := (r7.below e_).lt
    replace k7 := k7.kept e_
    replace rX := (rX.below e_).lt
    replace k8 := k8.kept e_
    replace k10 := k10.kept e_
    replace r13 := (r13.below e_).lt
    replace k13 := k13.kept e_
    replace r14 := (r14.below e_).lt
    replace r15 := (r15.below e_).lt
    replace k14 := k14.kept e_
    replace k15 := k15.kept e_
    clear e_
    have k16 := Bk.new w12 #[Value.int .i64 f.k, Value.int .i64 f.a, Value.int .i64 f.v] 29
    have IO := hide (fun W => implOpF_any f.k f.a f.v W)
    have SO := hide (fun W => specOpF_any f.k f.a f.v W)
    obtain ⟨FO, hFO⟩ : ∃ y, y = opF ⟨f.k, f.a, f.v⟩ := ⟨_, rfl⟩
    rw [← hFO] at IO SO
    clear hFO
    have IF := hide (fun W h => implMacF_any m A1 A2 c1 c2 W lm1 lm2 h)
    have SF := hide (fun W h => specMacF_any m A1 A2 c1 c2 W lm1 lm2 h)
    obtain ⟨FM, hFM⟩ : ∃ y, y = macF m := ⟨_, rfl⟩
    rw [← hFM] at IF SF
    clear hFM
    have MQ := hide (fun A A' Z Z' c c' d d' W h h' => (by have := implSM_any n n A A' Z Z' c c' d d' W ln1 ln2 h h'; rw [sameM_yes rfl rfl] at this; exact this : Calls Try.prog 23 #[macV A n.cs.length c A' n.mem.length c', macV Z n.cs.length d Z' n.mem.length d'] W fun e w' => e = .returned (.bool true) ∧ Below W.heap.size W w'))
    obtain ⟨V, hV⟩ : ∃ Y, Y = w12.alloc (Obj.cells #[Value.int .i64 f.k, Value.int .i64 f.a, Value.int .i64 f.v] 29) := ⟨_, rfl⟩
    obtain ⟨q16, hq16⟩ : ∃ q, q = w12.heap.size := ⟨_, rfl⟩
    rw [← hV] at rm B k3 k5 r6 k6 r7 k7 rX k8 k10 r13 k13 r14 r15 k14 k15
    rw [← hV, ← hq16] at k16
    have HV := hide hV
    have HQ := hide hq16
    have zV : V.heap.size = w12.heap.size + 1 := by rw [hV]; simp
    clear hV
    have hqV : q16 < V.heap.size := by omega
    clear hq16
    go_upto_region 12 with fail
    rw [← HV.out, ← HQ.out]
    go_wp2_with fail
    have a0 : V.drew.cell? ⟨w4.heap.size, 0, none⟩ = some (Value.int .i64 C) := (k6.cell 0).trans rfl
    have a1 : V.drew.cell? ⟨w4.heap.size, 1, none⟩ = some (Value.slice A6 n.cs.length c6) := (k6.cell 1).trans rfl
    have a2 : V.drew.cell? ⟨w4.heap.size, 2, none⟩ = some (Value.slice Ap6 n.mem.length cp6) := (k6.cell 2).trans rfl
    have a3 : V.drew.cell? ⟨w4.heap.size, 3, none⟩ = some (Value.int .i64 v) := (k6.cell 3).trans rfl
    have a4 : V.drew.cell? ⟨w5.heap.size, 0, none⟩ = some (Value.int .i64 C) := (k7.cell 0).trans rfl
    have a5 : V.drew.cell? ⟨w5.heap.size, 1, none⟩ = some (Value.slice A7 n.cs.length c7) := (k7.cell 1).trans rfl
    have a6 : V.drew.cell? ⟨w5.heap.size, 2, none⟩ = some (Value.slice Ap7 n.mem.length cp7) := (k7.cell 2).trans rfl
    have a7 : V.drew.cell? ⟨w5.heap.size, 3, none⟩ = some (Value.int .i64 v) := (k7.cell 3).trans rfl
    have a8 : V.drew.cell? ⟨w7.heap.size, 0, none⟩ = some (Value.int .i64 va) := (k10.cell 0).trans rfl
    have a9 : V.drew.cell? ⟨w7.heap.size, 1, none⟩ = some (Value.int .i64 vb) := (k10.cell 1).trans rfl
    have a10 : V.drew.cell? ⟨w6.heap.size, 0, none⟩ = some (Value.slice A8 X.cs.length c8) := (k8.cell 0).trans rfl
    have a11 : V.drew.cell? ⟨w6.heap.size, 1, none⟩ = some (Value.slice Ap8 X.mem.length cp8) := (k8.cell 1).trans rfl
    have a12 : V.drew.cell? ⟨w9.heap.size, 0, none⟩ = some (Value.int .i64 NC) := (k13.cell 0).trans rfl
    have a13 : V.drew.cell? ⟨w10.heap.size, 0, none⟩ = some (Value.slice A14 m2.cs.length c14) := (k14.cell 0).trans rfl
    have a14 : V.drew.cell? ⟨w10.heap.size, 1, none⟩ = some (Value.slice Ap14 m2.mem.length cp14) := (k14.cell 1).trans rfl
    have a15 : V.drew.cell? ⟨w10.heap.size + 1, 0, none⟩ = some (Value.slice A15 n2.cs.length c15) := (k15.cell 0).trans rfl
    have a16 : V.drew.cell? ⟨w10.heap.size + 1, 1, none⟩ = some (Value.slice Ap15 n2.mem.length cp15) := (k15.cell 1).trans rfl
    have a17 : V.drew.cell? ⟨q16, 0, none⟩ = some (Value.int .i64 f.k) := (k16.cell 0).trans rfl
    have a18 : V.drew.cell? ⟨q16, 1, none⟩ = some (Value.int .i64 f.a) := (k16.cell 1).trans rfl
    have a19 : V.drew.cell? ⟨q16, 2, none⟩ = some (Value.int .i64 f.v) := (k16.cell 2).trans rfl
    have a20 : V.drew.cell? ⟨w1.heap.size, 0, none⟩ = some (Value.slice A1 m.cs.length c1) := (k3.cell 0).trans rfl
    have a21 : V.drew.cell? ⟨w1.heap.size, 1, none⟩ = some (Value.slice A2 m.mem.length c2) := (k3.cell 1).trans rfl
    have hfd := field_mr0
    have bD : Below V.heap.size V V.drew := (Below.refl _ _).drew
    refine wp_region_F 99 (fun w' => w'.cell? ⟨w4.heap.size, 0, none⟩ = some (Value.int .i64 C) ∧ w'.cell? ⟨w4.heap.size, 1, none⟩ = some (Value.slice A6 n.cs.length c6) ∧ w'.cell? ⟨w4.heap.size, 2, none⟩ = some (Value.slice Ap6 n.mem.length cp6) ∧ w'.cell? ⟨w4.heap.size, 3, none⟩ = some (Value.int .i64 v) ∧ w'.cell? ⟨w5.heap.size, 0, none⟩ = some (Value.int .i64 C) ∧ w'.cell? ⟨w5.heap.size, 1, none⟩ = some (Value.slice A7 n.cs.length c7) ∧ w'.cell? ⟨w5.heap.size, 2, none⟩ = some (Value.slice Ap7 n.mem.length cp7) ∧ w'.cell? ⟨w5.heap.size, 3, none⟩ = some (Value.int .i64 v) ∧ w'.cell? ⟨w7.heap.size, 0, none⟩ = some (Value.int .i64 va) ∧ w'.cell? ⟨w7.heap.size, 1, none⟩ = some (Value.int .i64 vb) ∧ w'.cell? ⟨w6.heap.size, 0, none⟩ = some (Value.slice A8 X.cs.length c8) ∧ w'.cell? ⟨w6.heap.size, 1, none⟩ = some (Value.slice Ap8 X.mem.length cp8) ∧ w'.cell? ⟨w9.heap.size, 0, none⟩ = some (Value.int .i64 NC) ∧ w'.cell? ⟨w10.heap.size, 0, none⟩ = some (Value.slice A14 m2.cs.length c14) ∧ w'.cell? ⟨w10.heap.size, 1, none⟩ = some (Value.slice Ap14 m2.mem.length cp14) ∧ w'.cell? ⟨w10.heap.size + 1, 0, none⟩ = some (Value.slice A15 n2.cs.length c15) ∧ w'.cell? ⟨w10.heap.size + 1, 1, none⟩ = some (Value.slice Ap15 n2.mem.length cp15) ∧ w'.cell? ⟨q16, 0, none⟩ = some (Value.int .i64 f.k) ∧ w'.cell? ⟨q16, 1, none⟩ = some (Value.int .i64 f.a) ∧ w'.cell? ⟨q16, 2, none⟩ = some (Value.int .i64 f.v) ∧ w'.cell? ⟨w1.heap.size, 0, none⟩ = some (Value.slice A1 m.cs.length c1) ∧ w'.cell? ⟨w1.heap.size, 1, none⟩ = some (Value.slice A2 m.mem.length c2) ∧ Below V.heap.size V w') (fun w' => True) (by kernel_rfl) ⟨⟨a0, a1, a2, a3, a4, a5, a6, a7, a8, a9, a10, a11, a12, a13, a14, a15, a16, a17, a18, a19, a20, a21, bD⟩, trivial⟩ (fun hHeld => ?_)
    try simp only [Act.put, List.setIfInBounds_toArray, List.set_cons_zero, List.set_cons_succ]
    clear a0 a1 a2 a3 a4 a5 a6 a7 a8 a9 a10 a11 a12 a13 a14 a15 a16 a17 a18 a19 a20 a21 bD
    refine wpAnyF_take (i := 0) (v := ?_) (by (simp only [List.getElem?_toArray, List.getElem?_cons_zero]; rfl)) (by kernel_rfl) (by kernel_rfl) (by kernel_rfl) (by decide) (by exact fun _ _ _ h => h) ⟨hHeld.1, .inr hHeld.2⟩ (Or.inl ⟨by rfl, ?_⟩) ?_
    rotate_left
    · (intro w' _; go_simp <;> with_reducible rfl)
    try simp only [Act.put, List.setIfInBounds_toArray, List.set_cons_zero, List.set_cons_succ]
    refine wpAnyF_keep (i := 1) (v := ?_) (by (simp only [List.getElem?_toArray, List.getElem?_cons_succ, List.getElem?_cons_zero]; rfl)) (by kernel_rfl) (by kernel_rfl) (by kernel_rfl) (by decide) (by exact fun _ _ _ h => h) ⟨hHeld.1, .inr hHeld.2⟩ (Or.inl ⟨by rfl, ?_⟩) ?_
    rotate_left
    · (intro w' hSw; (try dsimp only at hSw); obtain ⟨hSa0, hSa1, hSa2, hSa3, hSa4, hSa5, hSa6, hSa7, hSa8, hSa9, hSa10, hSa11, hSa12, hSa13, hSa14, hSa15, hSa16, hSa17, hSa18, hSa19, hSa20, hSa21, hSa22⟩ := hSw; go_simp <;> with_reducible rfl)
    try simp only [Act.put, List.setIfInBounds_toArray, List.set_cons_zero, List.set_cons_succ]
    refine wpAnyF_take (i := 2) (v := ?_) (by (simp only [List.getElem?_toArray, List.getElem?_cons_succ, List.getElem?_cons_zero]; rfl)) (by kernel_rfl) (by kernel_rfl) (by kernel_rfl) (by decide) (by exact fun _ _ _ h => h) ⟨hHeld.1, .inr hHeld.2⟩ (Or.inl ⟨by rfl, ?_⟩) ?_
    rotate_left
    · (intro w' _; go_simp <;> with_reducible rfl)
    try simp only [Act.put, List.setIfInBounds_toArray, List.set_cons_zero, List.set_cons_succ]
    refine wpAnyF_keep (i := 3) (v := ?_) (by (simp only [List.getElem?_toArray, List.getElem?_cons_succ, List.getElem?_cons_zero]; rfl)) (by kernel_rfl) (by kernel_rfl) (by kernel_rfl) (by decide) (by exact fun _ _ _ h => h) ⟨hHeld.1, .inr hHeld.2⟩ (Or.inl ⟨by rfl, ?_⟩) ?_
    rotate_left
    · (intro w' hSw; (try dsimp only at hSw); obtain ⟨hSa0, hSa1, hSa2, hSa3, hSa4, hSa5, hSa6, hSa7, hSa8, hSa9, hSa10, hSa11, hSa12, hSa13, hSa14, hSa15, hSa16, hSa17, hSa18, hSa19, hSa20, hSa21, hSa22⟩ := hSw; go_simp <;> with_reducible rfl)
    try simp only [Act.put, List.setIfInBounds_toArray, List.set_cons_zero, List.set_cons_succ]
    refine wpAnyF_take (i := 4) (v := ?_) (by (simp only [List.getElem?_toArray, List.getElem?_cons_succ, List.getElem?_cons_zero]; rfl)) (by kernel_rfl) (by kernel_rfl) (by kernel_rfl) (by decide) (by exact fun _ _ _ h => h) ⟨hHeld.1, .inr hHeld.2⟩ (Or.inl ⟨by rfl, ?_⟩) ?_
    rotate_left
    · (intro w' _; go_simp <;> with_reducible rfl)
    try simp only [Act.put, List.setIfInBounds_toArray, List.set_cons_zero, List.set_cons_succ]
    refine wpAnyF_take (i := 5) (v := ?_) (by (simp only [List.getElem?_toArray, List.getElem?_cons_succ, List.getElem?_cons_zero]; rfl)) (by kernel_rfl) (by kernel_rfl) (by kernel_rfl) (by decide) (by exact fun _ _ _ h => h) ⟨hHeld.1, .inr hHeld.2⟩ (Or.inl ⟨by rfl, ?_⟩) ?_
    rotate_left
    · (intro w' _; go_simp <;> with_reducible rfl)
    try simp only [Act.put, List.setIfInBounds_toArray, List.set_cons_zero, List.set_cons_succ]
    refine wpAnyF_take (i := 6) (v := ?_) (by (simp only [List.getElem?_toArray, List.getElem?_cons_succ, List.getElem?_cons_zero]; rfl)) (by kernel_rfl) (by kernel_rfl) (by kernel_rfl) (by decide) (by exact fun _ _ _ h => h) ⟨hHeld.1, .inr hHeld.2⟩ (Or.inl ⟨by rfl, ?_⟩) ?_
    rotate_left
    · (intro w' _; go_simp <;> with_reducible rfl)
    try simp only [Act.put, List.setIfInBounds_toArray, List.set_cons_zero, List.set_cons_succ]
    refine wpAnyF_keep (i := 7) (v := ?_) (by (simp only [List.getElem?_toArray, List.getElem?_cons_succ, List.getElem?_cons_zero]; rfl)) (by kernel_rfl) (by kernel_rfl) (by kernel_rfl) (by decide) (by exact fun _ _ _ h => h) ⟨hHeld.1, .inr hHeld.2⟩ (Or.inl ⟨by rfl, ?_⟩) ?_
    rotate_left
    · (intro w' hSw; (try dsimp only at hSw); obtain ⟨hSa0, hSa1, hSa2, hSa3, hSa4, hSa5, hSa6, hSa7, hSa8, hSa9, hSa10, hSa11, hSa12, hSa13, hSa14, hSa15, hSa16, hSa17, hSa18, hSa19, hSa20, hSa21, hSa22⟩ := hSw; go_simp <;> with_reducible rfl)
    try simp only [Act.put, List.setIfInBounds_toArray, List.set_cons_zero, List.set_cons_succ]
    refine wpAnyF_take (i := 8) (v := ?_) (by (simp only [List.getElem?_toArray, List.getElem?_cons_succ, List.getElem?_cons_zero]; rfl)) (by kernel_rfl) (by kernel_rfl) (by kernel_rfl) (by decide) (by exact fun _ _ _ h => h) ⟨hHeld.1, .inr hHeld.2⟩ (Or.inl ⟨by rfl, ?_⟩) ?_
    rotate_left
    · (intro w' _; go_simp <;> with_reducible rfl)
    try simp only [Act.put, List.setIfInBounds_toArray, List.set_cons_zero, List.set_cons_succ]
    refine wpAnyF_keep (i := 9) (v := ?_) (by (simp only [List.getElem?_toArray, List.getElem?_cons_succ, List.getElem?_cons_zero]; rfl)) (by kernel_rfl) (by kernel_rfl) (by kernel_rfl) (by decide) (by exact fun _ _ _ h => h) ⟨hHeld.1, .inr hHeld.2⟩ (Or.inl ⟨by rfl, ?_⟩) ?_
    rotate_left
    · (intro w' hSw; (try dsimp only at hSw); obtain ⟨hSa0, hSa1, hSa2, hSa3, hSa4, hSa5, hSa6, hSa7, hSa8, hSa9, hSa10, hSa11, hSa12, hSa13, hSa14, hSa15, hSa16, hSa17, hSa18, hSa19, hSa20, hSa21, hSa22⟩ := hSw; go_simp <;> with_reducible rfl)
    try simp only [Act.put, List.setIfInBounds_toArray, List.set_cons_zero, List.set_cons_succ]
    refine wpAnyF_take (i := 10) (v := ?_) (by (simp only [List.getElem?_toArray, List.getElem?_cons_succ, List.getElem?_cons_zero]; rfl)) (by kernel_rfl) (by kernel_rfl) (by kernel_rfl) (by decide) (by exact fun _ _ _ h => h) ⟨hHeld.1, .inr hHeld.2⟩ (Or.inl ⟨by rfl, ?_⟩) ?_
    rotate_left
    · (intro w' _; go_simp <;> with_reducible rfl)
    try simp only [Act.put, List.setIfInBounds_toArray, List.set_cons_zero, List.set_cons_succ]
    refine wpAnyF_take (i := 11) (v := ?_) (by (simp only [List.getElem?_toArray, List.getElem?_cons_succ, List.getElem?_cons_zero]; rfl)) (by kernel_rfl) (by kernel_rfl) (by kernel_rfl) (by decide) (by exact fun _ _ _ h => h) ⟨hHeld.1, .inr hHeld.2⟩ (Or.inl ⟨by rfl, ?_⟩) ?_
    rotate_left
    · (intro w' _; go_simp <;> with_reducible rfl)
    try simp only [Act.put, List.setIfInBounds_toArray, List.set_cons_zero, List.set_cons_succ]
    refine wpAnyF_take (i := 12) (v := ?_) (by (simp only [List.getElem?_toArray, List.getElem?_cons_succ, List.getElem?_cons_zero]; rfl)) (by kernel_rfl) (by kernel_rfl) (by kernel_rfl) (by decide) (by exact fun _ _ _ h => h) ⟨hHeld.1, .inr hHeld.2⟩ (Or.inl ⟨by rfl, ?_⟩) ?_
    rotate_left
    · (intro w' _; go_simp <;> with_reducible rfl)
    try simp only [Act.put, List.setIfInBounds_toArray, List.set_cons_zero, List.set_cons_succ]
    refine wpAnyF_take (i := 13) (v := ?_) (by (simp only [List.getElem?_toArray, List.getElem?_cons_succ, List.getElem?_cons_zero]; rfl)) (by kernel_rfl) (by kernel_rfl) (by kernel_rfl) (by decide) (by exact fun _ _ _ h => h) ⟨hHeld.1, .inr hHeld.2⟩ (Or.inl ⟨by rfl, ?_⟩) ?_
    rotate_left
    · (intro w' _; go_simp <;> with_reducible rfl)
    try simp only [Act.put, List.setIfInBounds_toArray, List.set_cons_zero, List.set_cons_succ]
    refine wpAnyF_keep (i := 14) (v := ?_) (by (simp only [List.getElem?_toArray, List.getElem?_cons_succ, List.getElem?_cons_zero]; rfl)) (by kernel_rfl) (by kernel_rfl) (by kernel_rfl) (by decide) (by exact fun _ _ _ h => h) ⟨hHeld.1, .inr hHeld.2⟩ (Or.inl ⟨by rfl, ?_⟩) ?_
    rotate_left
    · (intro w' hSw; (try dsimp only at hSw); obtain ⟨hSa0, hSa1, hSa2, hSa3, hSa4, hSa5, hSa6, hSa7, hSa8, hSa9, hSa10, hSa11, hSa12, hSa13, hSa14, hSa15, hSa16, hSa17, hSa18, hSa19, hSa20, hSa21, hSa22⟩ := hSw; go_simp <;> with_reducible rfl)
    try simp only [Act.put, List.setIfInBounds_toArray, List.set_cons_zero, List.set_cons_succ]
    refine wpAnyF_take (i := 15) (v := ?_) (by (simp only [List.getElem?_toArray, List.getElem?_cons_succ, List.getElem?_cons_zero]; rfl)) (by kernel_rfl) (by kernel_rfl) (by kernel_rfl) (by decide) (by exact fun _ _ _ h => h) ⟨hHeld.1, .inr hHeld.2⟩ (Or.inl ⟨by rfl, ?_⟩) ?_
    rotate_left
    · (intro w' _; go_simp <;> with_reducible rfl)
    try simp only [Act.put, List.setIfInBounds_toArray, List.set_cons_zero, List.set_cons_succ]
    refine wpAnyF_keep (i := 16) (v := ?_) (by (simp only [List.getElem?_toArray, List.getElem?_cons_succ, List.getElem?_cons_zero]; rfl)) (by kernel_rfl) (by kernel_rfl) (by kernel_rfl) (by decide) (by exact fun _ _ _ h => h) ⟨hHeld.1, .inr hHeld.2⟩ (Or.inl ⟨by rfl, ?_⟩) ?_
    rotate_left
    · (intro w' hSw; (try dsimp only at hSw); obtain ⟨hSa0, hSa1, hSa2, hSa3, hSa4, hSa5, hSa6, hSa7, hSa8, hSa9, hSa10, hSa11, hSa12, hSa13, hSa14, hSa15, hSa16, hSa17, hSa18, hSa19, hSa20, hSa21, hSa22⟩ := hSw; go_simp <;> with_reducible rfl)
    try simp only [Act.put, List.setIfInBounds_toArray, List.set_cons_zero, List.set_cons_succ]
    refine wpAnyF_ready (rs := [17]) (by kernel_rfl) (by simp) ?_
    refine AllReadyF.cons (by (simp only [List.getElem?_toArray, List.getElem?_cons_succ, List.getElem?_cons_zero]; rfl)) (fun K hK => ?_) AllReadyF.nil
    go_simp
    go_at_call 23
    refine (MQ.out _ _ _ _ _ _ _ _ _ (r6.below (hHeld.1.2.2.2.2.2.2.2.2.2.2.2.2.2.2.2.2.2.2.2.2.2.2)).lt (r7.below (hHeld.1.2.2.2.2.2.2.2.2.2.2.2.2.2.2.2.2.2.2.2.2.2.2)).lt).mono ?_
    rintro e wa ⟨rfl, ba⟩
    refine hK.out _ _ ⟨keep22q ba hHeld.1, trivial⟩ (fun hNew => ?_)
    clear hK K hHeld
    have hHeld := hNew
    clear hNew
    try simp only [Act.put, List.setIfInBounds_toArray, List.set_cons_zero, List.set_cons_succ]
    refine wpAnyF_take (i := 18) (v := ?_) (by (simp only [List.getElem?_toArray, List.getElem?_cons_succ, List.getElem?_cons_zero]; rfl)) (by kernel_rfl) (by kernel_rfl) (by kernel_rfl) (by decide) (by exact fun _ _ _ h => h) ⟨hHeld.1, .inr hHeld.2⟩ (Or.inl ⟨by rfl, ?_⟩) ?_
    rotate_left
    · (intro w' _; go_simp <;> with_reducible rfl)
    try simp only [Act.put, List.setIfInBounds_toArray, List.set_cons_zero, List.set_cons_succ]
    refine wpAnyF_take (i := 19) (v := ?_) (by (simp only [List.getElem?_toArray, List.getElem?_cons_succ, List.getElem?_cons_zero]; rfl)) (by kernel_rfl) (by kernel_rfl) (by kernel_rfl) (by decide) (by exact fun _ _ _ h => h) ⟨hHeld.1, .inr hHeld.2⟩ (Or.inl ⟨by rfl, ?_⟩) ?_
    rotate_left
    · (intro w' _; go_simp <;> with_reducible rfl)
    try simp only [Act.put, List.setIfInBounds_toArray, List.set_cons_zero, List.set_cons_succ]
    refine wpAnyF_take (i := 20) (v := ?_) (by (simp only [List.getElem?_toArray, List.getElem?_cons_succ, List.getElem?_cons_zero]; rfl)) (by kernel_rfl) (by kernel_rfl) (by kernel_rfl) (by decide) (by exact fun _ _ _ h => h) ⟨hHeld.1, .inr hHeld.2⟩ (Or.inl ⟨by rfl, ?_⟩) ?_
    rotate_left
    · (intro w' _; go_simp <;> with_reducible rfl)
    try simp only [Act.put, List.setIfInBounds_toArray, List.set_cons_zero, List.set_cons_succ]
    refine wpAnyF_keep (i := 21) (v := ?_) (by (simp only [List.getElem?_toArray, List.getElem?_cons_succ, List.getElem?_cons_zero]; rfl)) (by kernel_rfl) (by kernel_rfl) (by kernel_rfl) (by decide) (by exact fun _ _ _ h => h) ⟨hHeld.1, .inr hHeld.2⟩ (Or.inl ⟨by rfl, ?_⟩) ?_
    rotate_left
    · (intro w' hSw; (try dsimp only at hSw); obtain ⟨hSa0, hSa1, hSa2, hSa3, hSa4, hSa5, hSa6, hSa7, hSa8, hSa9, hSa10, hSa11, hSa12, hSa13, hSa14, hSa15, hSa16, hSa17, hSa18, hSa19, hSa20, hSa21, hSa22⟩ := hSw; go_simp <;> with_reducible rfl)
    try simp only [Act.put, List.setIfInBounds_toArray, List.set_cons_zero, List.set_cons_succ]
    refine wpAnyF_keep (i := 22) (v := ?_) (by (simp only [List.getElem?_toArray, List.getElem?_cons_succ, List.getElem?_cons_zero]; rfl)) (by kernel_rfl) (by kernel_rfl) (by kernel_rfl) (by decide) (by exact fun _ _ _ h => h) ⟨hHeld.1, .inr hHeld.2⟩ (Or.inl ⟨by rfl, ?_⟩) ?_
    rotate_left
    · (intro w' hSw; (try dsimp only at hSw); obtain ⟨hSa0, hSa1, hSa2, hSa3, hSa4, hSa5, hSa6, hSa7, hSa8, hSa9, hSa10, hSa11, hSa12, hSa13, hSa14, hSa15, hSa16, hSa17, hSa18, hSa19, hSa20, hSa21, hSa22⟩ := hSw; go_simp <;> with_reducible rfl)
    try simp only [Act.put, List.setIfInBounds_toArray, List.set_cons_zero, List.set_cons_succ]
    refine wpAnyF_take (i := 23) (v := ?_) (by (simp only [List.getElem?_toArray, List.getElem?_cons_succ, List.getElem?_cons_zero]; rfl)) (by kernel_rfl) (by kernel_rfl) (by kernel_rfl) (by decide) (by exact fun _ _ _ h => h) ⟨hHeld.1, .inr hHeld.2⟩ (Or.inl ⟨by rfl, ?_⟩) ?_
    rotate_left
    · (intro w' _; go_simp <;> with_reducible rfl)
    try simp only [Act.put, List.setIfInBounds_toArray, List.set_cons_zero, List.set_cons_succ]
    refine wpAnyF_ready (rs := [24]) (by kernel_rfl) (by simp) ?_
    refine AllReadyF.cons (by (simp only [List.getElem?_toArray, List.getElem?_cons_succ, List.getElem?_cons_zero]; rfl)) (fun K hK => ?_) AllReadyF.nil
    go_simp
    go_at_call 24
    refine (SV.out _ (rX.below (hHeld.1.2.2.2.2.2.2.2.2.2.2.2.2.2.2.2.2.2.2.2.2.2.2)).lt).mono ?_
    rintro e wb ⟨rfl, bb⟩
    refine hK.out _ _ ⟨keep22q bb hHeld.1, trivial⟩ (fun hNew => ?_)
    clear hK K hHeld
    have hHeld := hNew
    clear hNew
    try simp only [Act.put, List.setIfInBounds_toArray, List.set_cons_zero, List.set_cons_succ]
    refine wpAnyF_take (i := 25) (v := ?_) (by (simp only [List.getElem?_toArray, List.getElem?_cons_succ, List.getElem?_cons_zero]; rfl)) (by kernel_rfl) (by kernel_rfl) (by kernel_rfl) (by decide) (by exact fun _ _ _ h => h) ⟨hHeld.1, .inr hHeld.2⟩ (Or.inl ⟨by rfl, ?_⟩) ?_
    rotate_left
    · (intro w' _; go_simp <;> with_reducible rfl)
    try simp only [Act.put, List.setIfInBounds_toArray, List.set_cons_zero, List.set_cons_succ]
    refine wpAnyF_take (i := 26) (v := ?_) (by (simp only [List.getElem?_toArray, List.getElem?_cons_succ, List.getElem?_cons_zero]; rfl)) (by kernel_rfl) (by kernel_rfl) (by kernel_rfl) (by decide) (by exact fun _ _ _ h => h) ⟨hHeld.1, .inr hHeld.2⟩ (Or.inl ⟨by rfl, ?_⟩) ?_
    rotate_left
    · (intro w' _; go_simp <;> with_reducible rfl)
    try simp only [Act.put, List.setIfInBounds_toArray, List.set_cons_zero, List.set_cons_succ]
    refine wpAnyF_take (i := 27) (v := ?_) (by (simp only [List.getElem?_toArray, List.getElem?_cons_succ, List.getElem?_cons_zero]; rfl)) (by kernel_rfl) (by kernel_rfl) (by kernel_rfl) (by decide) (by exact fun _ _ _ h => h) ⟨hHeld.1, .inr hHeld.2⟩ (Or.inl ⟨by rfl, ?_⟩) ?_
    rotate_left
    · (intro w' _; go_simp <;> with_reducible rfl)
    try simp only [Act.put, List.setIfInBounds_toArray, List.set_cons_zero, List.set_cons_succ]
    refine wpAnyF_take (i := 28) (v := ?_) (by (simp only [List.getElem?_toArray, List.getElem?_cons_succ, List.getElem?_cons_zero]; rfl)) (by kernel_rfl) (by kernel_rfl) (by kernel_rfl) (by decide) (by exact fun _ _ _ h => h) ⟨hHeld.1, .inr hHeld.2⟩ (Or.inl ⟨by rfl, ?_⟩) ?_
    rotate_left
    · (intro w' _; go_simp <;> with_reducible rfl)
    try simp only [Act.put, List.setIfInBounds_toArray, List.set_cons_zero, List.set_cons_succ]
    refine wpAnyF_keep (i := 29) (v := ?_) (by (simp only [List.getElem?_toArray, List.getElem?_cons_succ, List.getElem?_cons_zero]; rfl)) (by kernel_rfl) (by kernel_rfl) (by kernel_rfl) (by decide) (by exact fun _ _ _ h => h) ⟨hHeld.1, .inr hHeld.2⟩ (Or.inl ⟨by rfl, ?_⟩) ?_
    rotate_left
    · (intro w' hSw; (try dsimp only at hSw); obtain ⟨hSa0, hSa1, hSa2, hSa3, hSa4, hSa5, hSa6, hSa7, hSa8, hSa9, hSa10, hSa11, hSa12, hSa13, hSa14, hSa15, hSa16, hSa17, hSa18, hSa19, hSa20, hSa21, hSa22⟩ := hSw; go_simp <;> with_reducible rfl)
    try simp only [Act.put, List.setIfInBounds_toArray, List.set_cons_zero, List.set_cons_succ]
    refine wpAnyF_take (i := 30) (v := ?_) (by (simp only [List.getElem?_toArray, List.getElem?_cons_succ, List.getElem?_cons_zero]; rfl)) (by kernel_rfl) (by kernel_rfl) (by kernel_rfl) (by decide) (by exact fun _ _ _ h => h) ⟨hHeld.1, .inr hHeld.2⟩ (Or.inl ⟨by rfl, ?_⟩) ?_
    rotate_left
    · (intro w' _; go_simp <;> with_reducible rfl)
    try simp only [Act.put, List.setIfInBounds_toArray, List.set_cons_zero, List.set_cons_succ]
    refine wpAnyF_take (i := 31) (v := ?_) (by (simp only [List.getElem?_toArray, List.getElem?_cons_succ, List.getElem?_cons_zero]; rfl)) (by kernel_rfl) (by kernel_rfl) (by kernel_rfl) (by decide) (by exact fun _ _ _ h => h) ⟨hHeld.1, .inr hHeld.2⟩ (Or.inl ⟨by rfl, ?_⟩) ?_
    rotate_left
    · (intro w' _; go_simp <;> with_reducible rfl)
    try simp only [Act.put, List.setIfInBounds_toArray, List.set_cons_zero, List.set_cons_succ]
    refine wpAnyF_ready (rs := [32]) (by kernel_rfl) (by simp) ?_
    refine AllReadyF.cons (by (simp only [List.getElem?_toArray, List.getElem?_cons_succ, List.getElem?_cons_zero]; rfl)) (fun K hK => ?_) AllReadyF.nil
    go_simp
    go_at_call 25
    refine (SN.out _).mono ?_
    rintro e wc ⟨Ac, cc, Apc, cpc, uc, rfl, oc, bc⟩
    refine hK.out _ _ ⟨keep22q bc hHeld.1, trivial⟩ (fun hNew => ?_)
    clear hK K hHeld
    have hHeld := hNew
    clear hNew
    try simp only [Act.put, List.setIfInBounds_toArray, List.set_cons_zero, List.set_cons_succ]
    refine wpAnyF_take (i := 33) (v := ?_) (by (simp only [List.getElem?_toArray, List.getElem?_cons_succ, List.getElem?_cons_zero]; rfl)) (by kernel_rfl) (by kernel_rfl) (by kernel_rfl) (by decide) (by exact fun _ _ _ h => h) ⟨hHeld.1, .inr hHeld.2⟩ (Or.inl ⟨by rfl, ?_⟩) ?_
    rotate_left
    · (intro w' _; go_simp <;> with_reducible rfl)
    try simp only [Act.put, List.setIfInBounds_toArray, List.set_cons_zero, List.set_cons_succ]
    refine wpAnyF_take (i := 34) (v := ?_) (by (simp only [List.getElem?_toArray, List.getElem?_cons_succ, List.getElem?_cons_zero]; rfl)) (by kernel_rfl) (by kernel_rfl) (by kernel_rfl) (by decide) (by exact fun _ _ _ h => h) ⟨hHeld.1, .inr hHeld.2⟩ (Or.inl ⟨by rfl, ?_⟩) ?_
    rotate_left
    · (intro w' _; go_simp <;> with_reducible rfl)
    try simp only [Act.put, List.setIfInBounds_toArray, List.set_cons_zero, List.set_cons_succ]
    refine wpAnyF_take (i := 35) (v := ?_) (by (simp only [List.getElem?_toArray, List.getElem?_cons_succ, List.getElem?_cons_zero]; rfl)) (by kernel_rfl) (by kernel_rfl) (by kernel_rfl) (by decide) (by exact fun _ _ _ h => h) ⟨hHeld.1, .inr hHeld.2⟩ (Or.inl ⟨by rfl, ?_⟩) ?_
    rotate_left
    · (intro w' _; go_simp <;> with_reducible rfl)
    try simp only [Act.put, List.setIfInBounds_toArray, List.set_cons_zero, List.set_cons_succ]
    refine wpAnyF_take (i := 36) (v := ?_) (by (simp only [List.getElem?_toArray, List.getElem?_cons_succ, List.getElem?_cons_zero]; rfl)) (by kernel_rfl) (by kernel_rfl) (by kernel_rfl) (by decide) (by exact fun _ _ _ h => h) ⟨hHeld.1, .inr hHeld.2⟩ (Or.inl ⟨by rfl, ?_⟩) ?_
    rotate_left
    · (intro w' _; go_simp <;> with_reducible rfl)
    try simp only [Act.put, List.setIfInBounds_toArray, List.set_cons_zero, List.set_cons_succ]
    refine wpAnyF_keep (i := 37) (v := ?_) (by (simp only [List.getElem?_toArray, List.getElem?_cons_succ, List.getElem?_cons_zero]; rfl)) (by kernel_rfl) (by kernel_rfl) (by kernel_rfl) (by decide) (by exact fun _ _ _ h => h) ⟨hHeld.1, .inr hHeld.2⟩ (Or.inl ⟨by rfl, ?_⟩) ?_
    rotate_left
    · (intro w' hSw; (try dsimp only at hSw); obtain ⟨hSa0, hSa1, hSa2, hSa3, hSa4, hSa5, hSa6, hSa7, hSa8, hSa9, hSa10, hSa11, hSa12, hSa13, hSa14, hSa15, hSa16, hSa17, hSa18, hSa19, hSa20, hSa21, hSa22⟩ := hSw; go_simp <;> with_reducible rfl)
    try simp only [Act.put, List.setIfInBounds_toArray, List.set_cons_zero, List.set_cons_succ]
    refine wpAnyF_keep (i := 38) (v := ?_) (by (simp only [List.getElem?_toArray, List.getElem?_cons_succ, List.getElem?_cons_zero]; rfl)) (by kernel_rfl) (by kernel_rfl) (by kernel_rfl) (by decide) (by exact fun _ _ _ h => h) ⟨hHeld.1, .inr hHeld.2⟩ (Or.inl ⟨by rfl, ?_⟩) ?_
    rotate_left
    · (intro w' hSw; (try dsimp only at hSw); obtain ⟨hSa0, hSa1, hSa2, hSa3, hSa4, hSa5, hSa6, hSa7, hSa8, hSa9, hSa10, hSa11, hSa12, hSa13, hSa14, hSa15, hSa16, hSa17, hSa18, hSa19, hSa20, hSa21, hSa22⟩ := hSw; go_simp <;> with_reducible rfl)
    try simp only [Act.put, List.setIfInBounds_toArray, List.set_cons_zero, List.set_cons_succ]
    refine wpAnyF_keep (i := 40) (v := ?_) (by (simp only [List.getElem?_toArray, List.getElem?_cons_succ, List.getElem?_cons_zero]; rfl)) (by kernel_rfl) (by kernel_rfl) (by kernel_rfl) (by decide) (by exact fun _ _ _ h => h) ⟨hHeld.1, .inr hHeld.2⟩ (Or.inl ⟨by rfl, ?_⟩) ?_
    rotate_left
    · (intro w' hSw; (try dsimp only at hSw); obtain ⟨hSa0, hSa1, hSa2, hSa3, hSa4, hSa5, hSa6, hSa7, hSa8, hSa9, hSa10, hSa11, hSa12, hSa13, hSa14, hSa15, hSa16, hSa17, hSa18, hSa19, hSa20, hSa21, hSa22⟩ := hSw; go_simp <;> with_reducible rfl)
    try simp only [Act.put, List.setIfInBounds_toArray, List.set_cons_zero, List.set_cons_succ]
    refine wpAnyF_keep (i := 41) (v := ?_) (by (simp only [List.getElem?_toArray, List.getElem?_cons_succ, List.getElem?_cons_zero]; rfl)) (by kernel_rfl) (by kernel_rfl) (by kernel_rfl) (by decide) (by exact fun _ _ _ h => h) ⟨hHeld.1, .inr hHeld.2⟩ (Or.inl ⟨by rfl, ?_⟩) ?_
    rotate_left
    · (intro w' hSw; (try dsimp only at hSw); obtain ⟨hSa0, hSa1, hSa2, hSa3, hSa4, hSa5, hSa6, hSa7, hSa8, hSa9, hSa10, hSa11, hSa12, hSa13, hSa14, hSa15, hSa16, hSa17, hSa18, hSa19, hSa20, hSa21, hSa22⟩ := hSw; go_simp <;> with_reducible rfl)
    try simp only [Act.put, List.setIfInBounds_toArray, List.set_cons_zero, List.set_cons_succ]
    refine wpAnyF_ready (rs := [39]) (by kernel_rfl) (by simp) ?_
    refine AllReadyF.cons (by (simp only [List.getElem?_toArray, List.getElem?_cons_succ, List.getElem?_cons_zero]; rfl)) (fun K hK => ?_) AllReadyF.nil
    go_simp
    go_at_call 23
    refine (IQ.out _ (r14.below (hHeld.1.2.2.2.2.2.2.2.2.2.2.2.2.2.2.2.2.2.2.2.2.2.2)).lt (r15.below (hHeld.1.2.2.2.2.2.2.2.2.2.2.2.2.2.2.2.2.2.2.2.2.2.2)).lt).mono ?_
    rintro e wd ⟨rfl, bd⟩
    refine hK.out _ _ ⟨keep22q bd hHeld.1, trivial⟩ (fun hNew => ?_)
    clear hK K hHeld
    have hHeld := hNew
    clear hNew
    try simp only [Act.put, List.setIfInBounds_toArray, List.set_cons_zero, List.set_cons_succ]
    refine wpAnyF_ready (rs := [42]) (by kernel_rfl) (by simp) ?_
    refine AllReadyF.cons (by (simp only [List.getElem?_toArray, List.getElem?_cons_succ, List.getElem?_cons_zero]; rfl)) (fun K hK => ?_) AllReadyF.nil
    go_simp
    go_at_call 26
    refine (SQ.out _ (r14.below (hHeld.1.2.2.2.2.2.2.2.2.2.2.2.2.2.2.2.2.2.2.2.2.2.2)).lt (r15.below (hHeld.1.2.2.2.2.2.2.2.2.2.2.2.2.2.2.2.2.2.2.2.2.2.2)).lt).mono ?_
    rintro e we ⟨rfl, be⟩
    refine hK.out _ _ ⟨keep22q be hHeld.1, trivial⟩ (fun hNew => ?_)
    clear hK K hHeld
    have hHeld := hNew
    clear hNew
    try simp only [Act.put, List.setIfInBounds_toArray, List.set_cons_zero, List.set_cons_succ]
    refine wpAnyF_take (i := 43) (v := ?_) (by (simp only [List.getElem?_toArray, List.getElem?_cons_succ, List.getElem?_cons_zero]; rfl)) (by kernel_rfl) (by kernel_rfl) (by kernel_rfl) (by decide) (by exact fun _ _ _ h => h) ⟨hHeld.1, .inr hHeld.2⟩ (Or.inl ⟨by rfl, ?_⟩) ?_
    rotate_left
    · (intro w' _; go_simp <;> with_reducible rfl)
    try simp only [Act.put, List.setIfInBounds_toArray, List.set_cons_zero, List.set_cons_succ]
    refine wpAnyF_take (i := 44) (v := ?_) (by (simp only [List.getElem?_toArray, List.getElem?_cons_succ, List.getElem?_cons_zero]; rfl)) (by kernel_rfl) (by kernel_rfl) (by kernel_rfl) (by decide) (by exact fun _ _ _ h => h) ⟨hHeld.1, .inr hHeld.2⟩ (Or.inl ⟨by rfl, ?_⟩) ?_
    rotate_left
    · (intro w' _; go_simp <;> with_reducible rfl)
    try simp only [Act.put, List.setIfInBounds_toArray, List.set_cons_zero, List.set_cons_succ]
    refine wpAnyF_take (i := 45) (v := ?_) (by (simp only [List.getElem?_toArray, List.getElem?_cons_succ, List.getElem?_cons_zero]; rfl)) (by kernel_rfl) (by kernel_rfl) (by kernel_rfl) (by decide) (by exact fun _ _ _ h => h) ⟨hHeld.1, .inr hHeld.2⟩ (Or.inl ⟨by rfl, ?_⟩) ?_
    rotate_left
    · (intro w' _; go_simp <;> with_reducible rfl)
    try simp only [Act.put, List.setIfInBounds_toArray, List.set_cons_zero, List.set_cons_succ]
    refine wpAnyF_keep (i := 46) (v := ?_) (by (simp only [List.getElem?_toArray, List.getElem?_cons_succ, List.getElem?_cons_zero]; rfl)) (by kernel_rfl) (by kernel_rfl) (by kernel_rfl) (by decide) (by exact fun _ _ _ h => h) ⟨hHeld.1, .inr hHeld.2⟩ (Or.inl ⟨by rfl, ?_⟩) ?_
    rotate_left
    · (intro w' hSw; (try dsimp only at hSw); obtain ⟨hSa0, hSa1, hSa2, hSa3, hSa4, hSa5, hSa6, hSa7, hSa8, hSa9, hSa10, hSa11, hSa12, hSa13, hSa14, hSa15, hSa16, hSa17, hSa18, hSa19, hSa20, hSa21, hSa22⟩ := hSw; go_simp <;> with_reducible rfl)
    try simp only [Act.put, List.setIfInBounds_toArray, List.set_cons_zero, List.set_cons_succ]
    refine wpAnyF_keep (i := 48) (v := ?_) (by (simp only [List.getElem?_toArray, List.getElem?_cons_succ, List.getElem?_cons_zero]; rfl)) (by kernel_rfl) (by kernel_rfl) (by kernel_rfl) (by decide) (by exact fun _ _ _ h => h) ⟨hHeld.1, .inr hHeld.2⟩ (Or.inl ⟨by rfl, ?_⟩) ?_
    rotate_left
    · (intro w' hSw; (try dsimp only at hSw); obtain ⟨hSa0, hSa1, hSa2, hSa3, hSa4, hSa5, hSa6, hSa7, hSa8, hSa9, hSa10, hSa11, hSa12, hSa13, hSa14, hSa15, hSa16, hSa17, hSa18, hSa19, hSa20, hSa21, hSa22⟩ := hSw; go_simp <;> with_reducible rfl)
    try simp only [Act.put, List.setIfInBounds_toArray, List.set_cons_zero, List.set_cons_succ]
    refine wpAnyF_ready (rs := [47]) (by kernel_rfl) (by simp) ?_
    refine AllReadyF.cons (by (simp only [List.getElem?_toArray, List.getElem?_cons_succ, List.getElem?_cons_zero]; rfl)) (fun K hK => ?_) AllReadyF.nil
    go_simp
    go_at_call 27
    refine (IO.out _).mono ?_
    rintro e wf ⟨rfl, bf⟩
    refine hK.out _ _ ⟨keep22q bf hHeld.1, trivial⟩ (fun hNew => ?_)
    clear hK K hHeld
    have hHeld := hNew
    clear hNew
    try simp only [Act.put, List.setIfInBounds_toArray, List.set_cons_zero, List.set_cons_succ]
    refine wpAnyF_ready (rs := [49]) (by kernel_rfl) (by simp) ?_
    refine AllReadyF.cons (by (simp only [List.getElem?_toArray, List.getElem?_cons_succ, List.getElem?_cons_zero]; rfl)) (fun K hK => ?_) AllReadyF.nil
    go_simp
    go_at_call 28
    refine (SO.out _).mono ?_
    rintro e wg ⟨rfl, bg⟩
    refine hK.out _ _ ⟨keep22q bg hHeld.1, trivial⟩ (fun hNew => ?_)
    clear hK K hHeld
    have hHeld := hNew
    clear hNew
    try simp only [Act.put, List.setIfInBounds_toArray, List.set_cons_zero, List.set_cons_succ]
    refine wpAnyF_take (i := 50) (v := ?_) (by (simp only [List.getElem?_toArray, List.getElem?_cons_succ, List.getElem?_cons_zero]; rfl)) (by kernel_rfl) (by kernel_rfl) (by kernel_rfl) (by decide) (by exact fun _ _ _ h => h) ⟨hHeld.1, .inr hHeld.2⟩ (Or.inl ⟨by rfl, ?_⟩) ?_
    rotate_left
    · (intro w' _; go_simp <;> with_reducible rfl)
    try simp only [Act.put, List.setIfInBounds_toArray, List.set_cons_zero, List.set_cons_succ]
    refine wpAnyF_take (i := 51) (v := ?_) (by (simp only [List.getElem?_toArray, List.getElem?_cons_succ, List.getElem?_cons_zero]; rfl)) (by kernel_rfl) (by kernel_rfl) (by kernel_rfl) (by decide) (by exact fun _ _ _ h => h) ⟨hHeld.1, .inr hHeld.2⟩ (Or.inl ⟨by rfl, ?_⟩) ?_
    rotate_left
    · (intro w' _; go_simp <;> with_reducible rfl)
    try simp only [Act.put, List.setIfInBounds_toArray, List.set_cons_zero, List.set_cons_succ]
    refine wpAnyF_take (i := 52) (v := ?_) (by (simp only [List.getElem?_toArray, List.getElem?_cons_succ, List.getElem?_cons_zero]; rfl)) (by kernel_rfl) (by kernel_rfl) (by kernel_rfl) (by decide) (by exact fun _ _ _ h => h) ⟨hHeld.1, .inr hHeld.2⟩ (Or.inl ⟨by rfl, ?_⟩) ?_
    rotate_left
    · (intro w' _; go_simp <;> with_reducible rfl)
    try simp only [Act.put, List.setIfInBounds_toArray, List.set_cons_zero, List.set_cons_succ]
    refine wpAnyF_keep (i := 53) (v := ?_) (by (simp only [List.getElem?_toArray, List.getElem?_cons_succ, List.getElem?_cons_zero]; rfl)) (by kernel_rfl) (by kernel_rfl) (by kernel_rfl) (by decide) (by exact fun _ _ _ h => h) ⟨hHeld.1, .inr hHeld.2⟩ (Or.inl ⟨by rfl, ?_⟩) ?_
    rotate_left
    · (intro w' hSw; (try dsimp only at hSw); obtain ⟨hSa0, hSa1, hSa2, hSa3, hSa4, hSa5, hSa6, hSa7, hSa8, hSa9, hSa10, hSa11, hSa12, hSa13, hSa14, hSa15, hSa16, hSa17, hSa18, hSa19, hSa20, hSa21, hSa22⟩ := hSw; go_simp <;> with_reducible rfl)
    try simp only [Act.put, List.setIfInBounds_toArray, List.set_cons_zero, List.set_cons_succ]
    refine wpAnyF_keep (i := 55) (v := ?_) (by (simp only [List.getElem?_toArray, List.getElem?_cons_succ, List.getElem?_cons_zero]; rfl)) (by kernel_rfl) (by kernel_rfl) (by kernel_rfl) (by decide) (by exact fun _ _ _ h => h) ⟨hHeld.1, .inr hHeld.2⟩ (Or.inl ⟨by rfl, ?_⟩) ?_
    rotate_left
    · (intro w' hSw; (try dsimp only at hSw); obtain ⟨hSa0, hSa1, hSa2, hSa3, hSa4, hSa5, hSa6, hSa7, hSa8, hSa9, hSa10, hSa11, hSa12, hSa13, hSa14, hSa15, hSa16, hSa17, hSa18, hSa19, hSa20, hSa21, hSa22⟩ := hSw; go_simp <;> with_reducible rfl)
    try simp only [Act.put, List.setIfInBounds_toArray, List.set_cons_zero, List.set_cons_succ]
    refine wpAnyF_ready (rs := [54]) (by kernel_rfl) (by simp) ?_
    refine AllReadyF.cons (by (simp only [List.getElem?_toArray, List.getElem?_cons_succ, List.getElem?_cons_zero]; rfl)) (fun K hK => ?_) AllReadyF.nil
    go_simp
    go_at_call 29
    refine (IF.out _ (rm.below (hHeld.1.2.2.2.2.2.2.2.2.2.2.2.2.2.2.2.2.2.2.2.2.2.2)).lt).mono ?_
    rintro e wh ⟨rfl, bh⟩
    refine hK.out _ _ ⟨keep22q bh hHeld.1, trivial⟩ (fun hNew => ?_)
    clear hK K hHeld
    have hHeld := hNew
    clear hNew
    try simp only [Act.put, List.setIfInBounds_toArray, List.set_cons_zero, List.set_cons_succ]
    refine wpAnyF_ready (rs := [56]) (by kernel_rfl) (by simp) ?_
    refine AllReadyF.cons (by (simp only [List.getElem?_toArray, List.getElem?_cons_succ, List.getElem?_cons_zero]; rfl)) (fun K hK => ?_) AllReadyF.nil
    go_simp
    go_at_call 30
    refine (SF.out _ (rm.below (hHeld.1.2.2.2.2.2.2.2.2.2.2.2.2.2.2.2.2.2.2.2.2.2.2)).lt).mono ?_
    rintro e wi ⟨rfl, bi⟩
    refine hK.out _ _ ⟨keep22q bi hHeld.1, trivial⟩ (fun hNew => ?_)
    clear hK K hHeld
    have hHeld := hNew
    clear hNew
    try simp only [Act.put, List.setIfInBounds_toArray, List.set_cons_zero, List.set_cons_succ]
    refine wpAnyF_take (i := 57) (v := ?_) (by (simp only [List.getElem?_toArray, List.getElem?_cons_succ, List.getElem?_cons_zero]; rfl)) (by kernel_rfl) (by kernel_rfl) (by kernel_rfl) (by decide) (by exact fun _ _ _ h => h) ⟨hHeld.1, .inr hHeld.2⟩ (Or.inl ⟨by rfl, ?_⟩) ?_
    rotate_left
    · (intro w' _; go_simp <;> with_reducible rfl)
    try simp only [Act.put, List.setIfInBounds_toArray, List.set_cons_zero, List.set_cons_succ]
    refine wpAnyF_take (i := 58) (v := ?_) (by (simp only [List.getElem?_toArray, List.getElem?_cons_succ, List.getElem?_cons_zero]; rfl)) (by kernel_rfl) (by kernel_rfl) (by kernel_rfl) (by decide) (by exact fun _ _ _ h => h) ⟨hHeld.1, .inr hHeld.2⟩ (Or.inl ⟨by rfl, ?_⟩) ?_
    rotate_left
    · (intro w' _; go_simp <;> with_reducible rfl)
    try simp only [Act.put, List.setIfInBounds_toArray, List.set_cons_zero, List.set_cons_succ]
    refine wpAnyF_done (by kernel_rfl) ?_ _
    have b13 := hHeld.1.2.2.2.2.2.2.2.2.2.2.2.2.2.2.2.2.2.2.2.2.2.2
    clear hHeld MQ SV SN IQ SQ IO SO IF SF ba bb bc bd be bf bg bh bi oc hfd
    clear r7 k7 rX k8 k10 r14 r15 k14 k15 k16
    have z_17 := Below.size b13
    replace rm := (rm.below b13).lt
    replace B := B.trans (b13.mono B.size)
    replace k3 := k3.kept b13
    replace k5 := k5.kept b13
    replace r6 := (r6.below b13).lt
    replace k6 := k6.kept b13
    replace r13 := (r13.below b13).lt
    replace k13 := k13.kept b13
    clear b13
    go_upto_region 14 with fail
    have q0 := (k13.cell 0).trans (rfl : _ = some (Value.int .i64 NC))
    have q1 := (k13.cell 1).trans (rfl : _ = some (Value.slice A13 NM.cs.length c13))
    have q2 := (k13.cell 2).trans (rfl : _ = some (Value.slice Ap13 NM.mem.length cp13))
    go_cut [132] (fun s wx0 => s = .bool false ∧ Below wi.heap.size wi wx0)
    case first => as_aux_lemma =>
      by_cases hnc : NC = 0
      · obtain ⟨hNF, hNl⟩ := HNZ.out hnc
        subst hnc
        have IN2 := hide (fun W h => implMacF_any NM A13 Ap13 c13 cp13 W lN1 lN2 h)
        rw [hNF] at IN2
        have hNl' : ((NM.cs.length : Int) != na) = false := by rw [hNl]; simp
        clear hNF hNl HNZ HZ
        go_wp2_with fail
        refine (IN2.out _ r13).mono ?_
        rintro e wj ⟨rfl, bj⟩
        have kz := k13.kept bj
        have y0 := (kz.cell 0).trans (rfl : _ = some (Value.int .i64 0))
        have y1 := (kz.cell 1).trans (rfl : _ = some (Value.slice A13 NM.cs.length c13))
        have y2 := (kz.cell 2).trans (rfl : _ = some (Value.slice Ap13 NM.mem.length cp13))
        go_wp2_with fail
        go_meet
        exact ⟨rfl, bj⟩
      · have hnb' : (NC == 0) = false := beq_eq_false_iff_ne.2 hnc
        clear hnc HNZ HZ
        go_wp2_with fail
        go_meet
        exact ⟨rfl, Below.refl _ _⟩
    case rest =>
      obtain ⟨rfl, b14⟩ := hcut
      obtain ⟨wx0, hwx⟩ : ∃ Y : World, Y = wc := ⟨_, rfl⟩
      subst hwx
      clear q0 q1 q2 HNZ
      clear k13 r13
      have z_18 := Below.size b14
      replace rm := (rm.below b14).lt
      replace B := B.trans (b14.mono B.size)
      replace k3 := k3.kept b14
      replace k5 := k5.kept b14
      replace r6 := (r6.below b14).lt
      replace k6 := k6.kept b14
      clear b14
      skip
      have d0_0 := (k6.cell 0).trans (rfl : _ = some (Value.int .i64 C))
      have d0_1 := (k6.cell 1).trans (rfl : _ = some (Value.slice A6 n.cs.length c6))
      have d0_2 := (k6.cell 2).trans (rfl : _ = some (Value.slice Ap6 n.mem.length cp6))
      have d0_3 := (k6.cell 3).trans (rfl : _ = some (Value.int .i64 v))
      by_cases hc : C = 0
      · obtain ⟨hmF, hnF, hxa, hxk, hnv, hst, hld, hot⟩ := HZ.out.2 hc
        subst hc
        have hvc : vaC x.a 0 = 0 := vaC_ok hxa
        have IVn := hide (fun ad W h => implValueAt_any n A6 Ap6 c6 cp6 ad W ln1 ln2 h)
        have IVm := hide (fun ad W h => implValueAt_any m A1 A2 c1 c2 ad W lm1 lm2 h)
        have IFn := hide (fun W h => implMacF_any n A6 Ap6 c6 cp6 W ln1 ln2 h)
        rw [hnF] at IVn IFn
        rw [hmF] at IVm
        have VN := IVn.out x.a
        rw [hvc, vaV_ok hxa, hnv] at VN
        have HVN := hide VN
        have HST := hide hst
        have HLD := hide hld
        have HOT := hide hot
        have HXA := hide hxa
        have HXK := hide hxk
        clear VN hmF hnF hnv hst hld hot hvc HZ hxa hxk
        go_upto_region 18 with fail
        clear d0_0 d0_1 d0_2 d0_3
        skip
        go_cut [155] (fun s wx1 => s = .bool false ∧ Below wx0.heap.size wx0 wx1)
        case first => as_aux_lemma =>
          go_wp2_with fail
          have a0 : wx0.drew.cell? ⟨w4.heap.size, 1, none⟩ = some (Value.slice A6 n.cs.length c6) := (k6.cell 1).trans rfl
          have a1 : wx0.drew.cell? ⟨w4.heap.size, 2, none⟩ = some (Value.slice Ap6 n.mem.length cp6) := (k6.cell 2).trans rfl
          have a2 : wx0.drew.cell? ⟨w4.heap.size, 3, none⟩ = some (Value.int .i64 v) := (k6.cell 3).trans rfl
          have a3 : wx0.drew.cell? ⟨w1.heap.size + 1, 1, none⟩ = some (Value.int .i64 x.a) := (k5.cell 1).trans rfl
          have bD : Below wx0.heap.size wx0 wx0.drew := (Below.refl _ _).drew
          refine wp_region_F 99 (fun w' => w'.cell? ⟨w4.heap.size, 1, none⟩ = some (Value.slice A6 n.cs.length c6) ∧ w'.cell? ⟨w4.heap.size, 2, none⟩ = some (Value.slice Ap6 n.mem.length cp6) ∧ w'.cell? ⟨w4.heap.size, 3, none⟩ = some (Value.int .i64 v) ∧ w'.cell? ⟨w1.heap.size + 1, 1, none⟩ = some (Value.int .i64 x.a) ∧ Below wx0.heap.size wx0 w') (fun w' => True) (by kernel_rfl) ⟨⟨a0, a1, a2, a3, bD⟩, trivial⟩ (fun hHeld => ?_)
          try simp only [Act.put, List.setIfInBounds_toArray, List.set_cons_zero, List.set_cons_succ]
          clear a0 a1 a2 a3 bD
          refine wpAnyF_take (i := 0) (v := ?_) (by (simp only [List.getElem?_toArray, List.getElem?_cons_zero]; rfl)) (by kernel_rfl) (by kernel_rfl) (by kernel_rfl) (by decide) (by exact fun _ _ _ h => h) ⟨hHeld.1, .inr hHeld.2⟩ (Or.inl ⟨by rfl, ?_⟩) ?_
          rotate_left
          · (intro w' _; go_simp <;> with_reducible rfl)
          try simp only [Act.put, List.setIfInBounds_toArray, List.set_cons_zero, List.set_cons_succ]
          refine wpAnyF_keep (i := 1) (v := ?_) (by (simp only [List.getElem?_toArray, List.getElem?_cons_succ, List.getElem?_cons_zero]; rfl)) (by kernel_rfl) (by kernel_rfl) (by kernel_rfl) (by decide) (by exact fun _ _ _ h => h) ⟨hHeld.1, .inr hHeld.2⟩ (Or.inl ⟨by rfl, ?_⟩) ?_
          rotate_left
          · (intro w' hSw; (try dsimp only at hSw); obtain ⟨hSa0, hSa1, hSa2, hSa3, hSa4⟩ := hSw; go_simp <;> with_reducible rfl)
          try simp only [Act.put, List.setIfInBounds_toArray, List.set_cons_zero, List.set_cons_succ]
          refine wpAnyF_ready (rs := [2]) (by kernel_rfl) (by simp) ?_
          refine AllReadyF.cons (by (simp only [List.getElem?_toArray, List.getElem?_cons_succ, List.getElem?_cons_zero]; rfl)) (fun K hK => ?_) AllReadyF.nil
          go_simp
          go_at_call 29
          refine (IFn.out _ (r6.below (hHeld.1.2.2.2.2)).lt).mono ?_
          rintro e wa ⟨rfl, ba⟩
          refine hK.out _ _ ⟨keep4q ba hHeld.1, trivial⟩ (fun hNew => ?_)
          clear hK K hHeld
          have hHeld := hNew
          clear hNew
          try simp only [Act.put, List.setIfInBounds_toArray, List.set_cons_zero, List.set_cons_succ]
          refine wpAnyF_take (i := 3) (v := ?_) (by (simp only [List.getElem?_toArray, List.getElem?_cons_succ, List.getElem?_cons_zero]; rfl)) (by kernel_rfl) (by kernel_rfl) (by kernel_rfl) (by decide) (by exact fun _ _ _ h => h) ⟨hHeld.1, .inr hHeld.2⟩ (Or.inl ⟨by rfl, ?_⟩) ?_
          rotate_left
          · (intro w' _; go_simp <;> with_reducible rfl)
          try simp only [Act.put, List.setIfInBounds_toArray, List.set_cons_zero, List.set_cons_succ]
          refine wpAnyF_take (i := 4) (v := ?_) (by (simp only [List.getElem?_toArray, List.getElem?_cons_succ, List.getElem?_cons_zero]; rfl)) (by kernel_rfl) (by kernel_rfl) (by kernel_rfl) (by decide) (by exact fun _ _ _ h => h) ⟨hHeld.1, .inr hHeld.2⟩ (Or.inl ⟨by rfl, ?_⟩) ?_
          rotate_left
          · (intro w' _; go_simp <;> with_reducible rfl)
          try simp only [Act.put, List.setIfInBounds_toArray, List.set_cons_zero, List.set_cons_succ]
          refine wpAnyF_take (i := 5) (v := ?_) (by (simp only [List.getElem?_toArray, List.getElem?_cons_succ, List.getElem?_cons_zero]; rfl)) (by kernel_rfl) (by kernel_rfl) (by kernel_rfl) (by decide) (by exact fun _ _ _ h => h) ⟨hHeld.1, .inr hHeld.2⟩ (Or.inl ⟨by rfl, ?_⟩) ?_
          rotate_left
          · (intro w' _; go_simp <;> with_reducible rfl)
          try simp only [Act.put, List.setIfInBounds_toArray, List.set_cons_zero, List.set_cons_succ]
          refine wpAnyF_keep (i := 6) (v := ?_) (by (simp only [List.getElem?_toArray, List.getElem?_cons_succ, List.getElem?_cons_zero]; rfl)) (by kernel_rfl) (by kernel_rfl) (by kernel_rfl) (by decide) (by exact fun _ _ _ h => h) ⟨hHeld.1, .inr hHeld.2⟩ (Or.inl ⟨by rfl, ?_⟩) ?_
          rotate_left
          · (intro w' hSw; (try dsimp only at hSw); obtain ⟨hSa0, hSa1, hSa2, hSa3, hSa4⟩ := hSw; go_simp <;> with_reducible rfl)
          try simp only [Act.put, List.setIfInBounds_toArray, List.set_cons_zero, List.set_cons_succ]
          refine wpAnyF_take (i := 7) (v := ?_) (by (simp only [List.getElem?_toArray, List.getElem?_cons_succ, List.getElem?_cons_zero]; rfl)) (by kernel_rfl) (by kernel_rfl) (by kernel_rfl) (by decide) (by exact fun _ _ _ h => h) ⟨hHeld.1, .inr hHeld.2⟩ (Or.inl ⟨by rfl, ?_⟩) ?_
          rotate_left
          · (intro w' _; go_simp <;> with_reducible rfl)
          try simp only [Act.put, List.setIfInBounds_toArray, List.set_cons_zero, List.set_cons_succ]
          refine wpAnyF_keep (i := 8) (v := ?_) (by (simp only [List.getElem?_toArray, List.getElem?_cons_succ, List.getElem?_cons_zero]; rfl)) (by kernel_rfl) (by kernel_rfl) (by kernel_rfl) (by decide) (by exact fun _ _ _ h => h) ⟨hHeld.1, .inr hHeld.2⟩ (Or.inl ⟨by rfl, ?_⟩) ?_
          rotate_left
          · (intro w' hSw; (try dsimp only at hSw); obtain ⟨hSa0, hSa1, hSa2, hSa3, hSa4⟩ := hSw; go_simp <;> with_reducible rfl)
          try simp only [Act.put, List.setIfInBounds_toArray, List.set_cons_zero, List.set_cons_succ]
          refine wpAnyF_take (i := 10) (v := ?_) (by (simp only [List.getElem?_toArray, List.getElem?_cons_succ, List.getElem?_cons_zero]; rfl)) (by kernel_rfl) (by kernel_rfl) (by kernel_rfl) (by decide) (by exact fun _ _ _ h => h) ⟨hHeld.1, .inr hHeld.2⟩ (Or.inl ⟨by rfl, ?_⟩) ?_
          rotate_left
          · (intro w' _; go_simp <;> with_reducible rfl)
          try simp only [Act.put, List.setIfInBounds_toArray, List.set_cons_zero, List.set_cons_succ]
          refine wpAnyF_keep (i := 11) (v := ?_) (by (simp only [List.getElem?_toArray, List.getElem?_cons_succ, List.getElem?_cons_zero]; rfl)) (by kernel_rfl) (by kernel_rfl) (by kernel_rfl) (by decide) (by exact fun _ _ _ h => h) ⟨hHeld.1, .inr hHeld.2⟩ (Or.inl ⟨by rfl, ?_⟩) ?_
          rotate_left
          · (intro w' hSw; (try dsimp only at hSw); obtain ⟨hSa0, hSa1, hSa2, hSa3, hSa4⟩ := hSw; go_simp <;> with_reducible rfl)
          try simp only [Act.put, List.setIfInBounds_toArray, List.set_cons_zero, List.set_cons_succ]
          refine wpAnyF_take (i := 12) (v := ?_) (by (simp only [List.getElem?_toArray, List.getElem?_cons_succ, List.getElem?_cons_zero]; rfl)) (by kernel_rfl) (by kernel_rfl) (by kernel_rfl) (by decide) (by exact fun _ _ _ h => h) ⟨hHeld.1, .inr hHeld.2⟩ (Or.inl ⟨by rfl, ?_⟩) ?_
          rotate_left
          · (intro w' _; go_simp <;> with_reducible rfl)
          try simp only [Act.put, List.setIfInBounds_toArray, List.set_cons_zero, List.set_cons_succ]
          refine wpAnyF_ready (rs := [9]) (by kernel_rfl) (by simp) ?_
          refine AllReadyF.cons (by (simp only [List.getElem?_toArray, List.getElem?_cons_succ, List.getElem?_cons_zero]; rfl)) (fun K hK => ?_) AllReadyF.nil
          go_simp
          go_at_call 18
          refine (HVN.out _ (r6.below (hHeld.1.2.2.2.2)).lt).mono ?_
          rintro e wb ⟨rfl, bb⟩
          refine hK.out _ _ ⟨keep4q bb hHeld.1, trivial⟩ (fun hNew => ?_)
          clear hK K hHeld
          have hHeld := hNew
          clear hNew
          try simp only [Act.put, List.setIfInBounds_toArray, List.set_cons_zero, List.set_cons_succ]
          refine wpAnyF_take (i := 13) (v := ?_) (by (simp only [List.getElem?_toArray, List.getElem?_cons_succ, List.getElem?_cons_zero]; rfl)) (by kernel_rfl) (by kernel_rfl) (by kernel_rfl) (by decide) (by exact fun _ _ _ h => h) ⟨hHeld.1, .inr hHeld.2⟩ (Or.inl ⟨by rfl, ?_⟩) ?_
          rotate_left
          · (intro w' _; go_simp <;> with_reducible rfl)
          try simp only [Act.put, List.setIfInBounds_toArray, List.set_cons_zero, List.set_cons_succ]
          refine wpAnyF_take (i := 14) (v := ?_) (by (simp only [List.getElem?_toArray, List.getElem?_cons_succ, List.getElem?_cons_zero]; rfl)) (by kernel_rfl) (by kernel_rfl) (by kernel_rfl) (by decide) (by exact fun _ _ _ h => h) ⟨hHeld.1, .inr hHeld.2⟩ (Or.inl ⟨by rfl, ?_⟩) ?_
          rotate_left
          · (intro w' _; go_simp <;> with_reducible rfl)
          try simp only [Act.put, List.setIfInBounds_toArray, List.set_cons_zero, List.set_cons_succ]
          refine wpAnyF_done (by kernel_rfl) ?_ _
          have bE := hHeld.1.2.2.2.2
          go_wp2_with fail
          go_meet
          exact ⟨rfl, bE⟩
        case rest =>
          obtain ⟨rfl, b18⟩ := hcut
          obtain ⟨wx1, hwx⟩ : ∃ Y : World, Y = wc := ⟨_, rfl⟩
          subst hwx
          have z_19 := Below.size b18
          replace rm := (rm.below b18).lt
          replace B := B.trans (b18.mono B.size)
          replace k3 := k3.kept b18
          replace k5 := k5.kept b18
          replace r6 := (r6.below b18).lt
          replace k6 := k6.kept b18
          clear b18
          go_upto_region 20 with fail
          go_cut [180] (fun s wx2 => s = .bool false ∧ Below wx1.heap.size wx1 wx2)
          case first => as_aux_lemma =>
            rcases HXK.out with hk | hk
            · have hk0 : (x.k == 0) = true := by rw [hk]; rfl
              have hk1 : (x.k == 1) = false := by rw [hk]; rfl
              have VM := IVm.out x.a
              rw [vaC_ok HXA.out, vaV_ok HXA.out, HLD.out hk] at VM
              have HVM := hide VM
              clear VM hk
              go_wp2_with fail
              have a0 : wx1.drew.cell? ⟨w4.heap.size, 3, none⟩ = some (Value.int .i64 v) := (k6.cell 3).trans rfl
              have a1 : wx1.drew.cell? ⟨w1.heap.size + 1, 0, none⟩ = some (Value.int .i64 x.k) := (k5.cell 0).trans rfl
              have a2 : wx1.drew.cell? ⟨w1.heap.size + 1, 1, none⟩ = some (Value.int .i64 x.a) := (k5.cell 1).trans rfl
              have a3 : wx1.drew.cell? ⟨w1.heap.size + 1, 2, none⟩ = some (Value.int .i64 x.v) := (k5.cell 2).trans rfl
              have a4 : wx1.drew.cell? ⟨w1.heap.size, 0, none⟩ = some (Value.slice A1 m.cs.length c1) := (k3.cell 0).trans rfl
              have a5 : wx1.drew.cell? ⟨w1.heap.size, 1, none⟩ = some (Value.slice A2 m.mem.length c2) := (k3.cell 1).trans rfl
              have bD : Below wx1.heap.size wx1 wx1.drew := (Below.refl _ _).drew
              refine wp_region_F 99 (fun w' => w'.cell? ⟨w4.heap.size, 3, none⟩ = some (Value.int .i64 v) ∧ w'.cell? ⟨w1.heap.size + 1, 0, none⟩ = some (Value.int .i64 x.k) ∧ w'.cell? ⟨w1.heap.size + 1, 1, none⟩ = some (Value.int .i64 x.a) ∧ w'.cell? ⟨w1.heap.size + 1, 2, none⟩ = some (Value.int .i64 x.v) ∧ w'.cell? ⟨w1.heap.size, 0, none⟩ = some (Value.slice A1 m.cs.length c1) ∧ w'.cell? ⟨w1.heap.size, 1, none⟩ = some (Value.slice A2 m.mem.length c2) ∧ Below wx1.heap.size wx1 w') (fun w' => True) (by kernel_rfl) ⟨⟨a0, a1, a2, a3, a4, a5, bD⟩, trivial⟩ (fun hHeld => ?_)
              try simp only [Act.put, List.setIfInBounds_toArray, List.set_cons_zero, List.set_cons_succ]
              clear a0 a1 a2 a3 a4 a5 bD
              refine wpAnyF_take (i := 0) (v := ?_) (by (simp only [List.getElem?_toArray, List.getElem?_cons_zero]; rfl)) (by kernel_rfl) (by kernel_rfl) (by kernel_rfl) (by decide) (by exact fun _ _ _ h => h) ⟨hHeld.1, .inr hHeld.2⟩ (Or.inl ⟨by rfl, ?_⟩) ?_
              rotate_left
              · (intro w' _; go_simp <;> with_reducible rfl)
              try simp only [Act.put, List.setIfInBounds_toArray, List.set_cons_zero, List.set_cons_succ]
              refine wpAnyF_keep (i := 1) (v := ?_) (by (simp only [List.getElem?_toArray, List.getElem?_cons_succ, List.getElem?_cons_zero]; rfl)) (by kernel_rfl) (by kernel_rfl) (by kernel_rfl) (by decide) (by exact fun _ _ _ h => h) ⟨hHeld.1, .inr hHeld.2⟩ (Or.inl ⟨by rfl, ?_⟩) ?_
              rotate_left
              · (intro w' hSw; (try dsimp only at hSw); obtain ⟨hSa0, hSa1, hSa2, hSa3, hSa4, hSa5, hSa6⟩ := hSw; go_simp <;> with_reducible rfl)
              try simp only [Act.put, List.setIfInBounds_toArray, List.set_cons_zero, List.set_cons_succ]
              refine wpAnyF_take (i := 2) (v := ?_) (by (simp only [List.getElem?_toArray, List.getElem?_cons_succ, List.getElem?_cons_zero]; rfl)) (by kernel_rfl) (by kernel_rfl) (by kernel_rfl) (by decide) (by exact fun _ _ _ h => h) ⟨hHeld.1, .inr hHeld.2⟩ (Or.inl ⟨by rfl, ?_⟩) ?_
              rotate_left
              · (intro w' _; go_simp <;> with_reducible rfl)
              try simp only [Act.put, List.setIfInBounds_toArray, List.set_cons_zero, List.set_cons_succ]
              refine wpAnyF_take (i := 3) (v := ?_) (by (simp only [List.getElem?_toArray, List.getElem?_cons_succ, List.getElem?_cons_zero]; rfl)) (by kernel_rfl) (by kernel_rfl) (by kernel_rfl) (by decide) (by exact fun _ _ _ h => h) ⟨hHeld.1, .inr hHeld.2⟩ (Or.inl ⟨by rfl, ?_⟩) ?_
              rotate_left
              · (intro w' _; go_simp <;> with_reducible rfl)
              try simp only [Act.put, List.setIfInBounds_toArray, List.set_cons_zero, List.set_cons_succ]
              refine wpAnyF_take (i := 4) (v := undef) (by (simp only [List.getElem?_toArray, List.getElem?_cons_succ, List.getElem?_cons_zero]; rfl)) (by kernel_rfl) (by kernel_rfl) (by kernel_rfl) (by decide) (by exact fun _ _ _ h => h) ⟨hHeld.1, .inr hHeld.2⟩ (Or.inr ⟨by rfl, rfl⟩) ?_
              try simp only [Act.put, List.setIfInBounds_toArray, List.set_cons_zero, List.set_cons_succ]
              refine wpAnyF_take (i := 5) (v := undef) (by (simp only [List.getElem?_toArray, List.getElem?_cons_succ, List.getElem?_cons_zero]; rfl)) (by kernel_rfl) (by kernel_rfl) (by kernel_rfl) (by decide) (by exact fun _ _ _ h => h) ⟨hHeld.1, .inr hHeld.2⟩ (Or.inr ⟨by rfl, rfl⟩) ?_
              try simp only [Act.put, List.setIfInBounds_toArray, List.set_cons_zero, List.set_cons_succ]
              refine wpAnyF_take (i := 6) (v := undef) (by (simp only [List.getElem?_toArray, List.getElem?_cons_succ, List.getElem?_cons_zero]; rfl)) (by kernel_rfl) (by kernel_rfl) (by kernel_rfl) (by decide) (by exact fun _ _ _ h => h) ⟨hHeld.1, .inr hHeld.2⟩ (Or.inr ⟨by rfl, rfl⟩) ?_
              try simp only [Act.put, List.setIfInBounds_toArray, List.set_cons_zero, List.set_cons_succ]
              refine wpAnyF_take (i := 7) (v := undef) (by (simp only [List.getElem?_toArray, List.getElem?_cons_succ, List.getElem?_cons_zero]; rfl)) (by kernel_rfl) (by kernel_rfl) (by kernel_rfl) (by decide) (by exact fun _ _ _ h => h) ⟨hHeld.1, .inr hHeld.2⟩ (Or.inr ⟨by rfl, rfl⟩) ?_
              try simp only [Act.put, List.setIfInBounds_toArray, List.set_cons_zero, List.set_cons_succ]
              refine wpAnyF_take (i := 8) (v := undef) (by (simp only [List.getElem?_toArray, List.getElem?_cons_succ, List.getElem?_cons_zero]; rfl)) (by kernel_rfl) (by kernel_rfl) (by kernel_rfl) (by decide) (by exact fun _ _ _ h => h) ⟨hHeld.1, .inr hHeld.2⟩ (Or.inr ⟨by rfl, rfl⟩) ?_
              try simp only [Act.put, List.setIfInBounds_toArray, List.set_cons_zero, List.set_cons_succ]
              refine wpAnyF_take (i := 9) (v := ?_) (by (simp only [List.getElem?_toArray, List.getElem?_cons_succ, List.getElem?_cons_zero]; rfl)) (by kernel_rfl) (by kernel_rfl) (by kernel_rfl) (by decide) (by exact fun _ _ _ h => h) ⟨hHeld.1, .inr hHeld.2⟩ (Or.inl ⟨by rfl, ?_⟩) ?_
              rotate_left
              · (intro w' _; go_simp <;> with_reducible rfl)
              try simp only [Act.put, List.setIfInBounds_toArray, List.set_cons_zero, List.set_cons_succ]
              refine wpAnyF_take (i := 10) (v := ?_) (by (simp only [List.getElem?_toArray, List.getElem?_cons_succ, List.getElem?_cons_zero]; rfl)) (by kernel_rfl) (by kernel_rfl) (by kernel_rfl) (by decide) (by exact fun _ _ _ h => h) ⟨hHeld.1, .inr hHeld.2⟩ (Or.inl ⟨by rfl, ?_⟩) ?_
              rotate_left
              · (intro w' _; go_simp <;> with_reducible rfl)
              try simp only [Act.put, List.setIfInBounds_toArray, List.set_cons_zero, List.set_cons_succ]
              refine wpAnyF_take (i := 11) (v := ?_) (by (simp only [List.getElem?_toArray, List.getElem?_cons_succ, List.getElem?_cons_zero]; rfl)) (by kernel_rfl) (by kernel_rfl) (by kernel_rfl) (by decide) (by exact fun _ _ _ h => h) ⟨hHeld.1, .inr hHeld.2⟩ (Or.inl ⟨by rfl, ?_⟩) ?_
              rotate_left
              · (intro w' _; go_simp <;> with_reducible rfl)
              try simp only [Act.put, List.setIfInBounds_toArray, List.set_cons_zero, List.set_cons_succ]
              refine wpAnyF_keep (i := 12) (v := ?_) (by (simp only [List.getElem?_toArray, List.getElem?_cons_succ, List.getElem?_cons_zero]; rfl)) (by kernel_rfl) (by kernel_rfl) (by kernel_rfl) (by decide) (by exact fun _ _ _ h => h) ⟨hHeld.1, .inr hHeld.2⟩ (Or.inl ⟨by rfl, ?_⟩) ?_
              rotate_left
              · (intro w' hSw; (try dsimp only at hSw); obtain ⟨hSa0, hSa1, hSa2, hSa3, hSa4, hSa5, hSa6⟩ := hSw; go_simp <;> with_reducible rfl)
              try simp only [Act.put, List.setIfInBounds_toArray, List.set_cons_zero, List.set_cons_succ]
              refine wpAnyF_take (i := 13) (v := ?_) (by (simp only [List.getElem?_toArray, List.getElem?_cons_succ, List.getElem?_cons_zero]; rfl)) (by kernel_rfl) (by kernel_rfl) (by kernel_rfl) (by decide) (by exact fun _ _ _ h => h) ⟨hHeld.1, .inr hHeld.2⟩ (Or.inl ⟨by rfl, ?_⟩) ?_
              rotate_left
              · (intro w' _; go_simp <;> with_reducible rfl)
              try simp only [Act.put, List.setIfInBounds_toArray, List.set_cons_zero, List.set_cons_succ]
              refine wpAnyF_take (i := 14) (v := ?_) (by (simp only [List.getElem?_toArray, List.getElem?_cons_succ, List.getElem?_cons_zero]; rfl)) (by kernel_rfl) (by kernel_rfl) (by kernel_rfl) (by decide) (by exact fun _ _ _ h => h) ⟨hHeld.1, .inr hHeld.2⟩ (Or.inl ⟨by rfl, ?_⟩) ?_
              rotate_left
              · (intro w' _; go_simp <;> with_reducible rfl)
              try simp only [Act.put, List.setIfInBounds_toArray, List.set_cons_zero, List.set_cons_succ]
              refine wpAnyF_keep (i := 15) (v := ?_) (by (simp only [List.getElem?_toArray, List.getElem?_cons_succ, List.getElem?_cons_zero]; rfl)) (by kernel_rfl) (by kernel_rfl) (by kernel_rfl) (by decide) (by exact fun _ _ _ h => h) ⟨hHeld.1, .inr hHeld.2⟩ (Or.inl ⟨by rfl, ?_⟩) ?_
              rotate_left
              · (intro w' hSw; (try dsimp only at hSw); obtain ⟨hSa0, hSa1, hSa2, hSa3, hSa4, hSa5, hSa6⟩ := hSw; go_simp <;> with_reducible rfl)
              try simp only [Act.put, List.setIfInBounds_toArray, List.set_cons_zero, List.set_cons_succ]
              refine wpAnyF_take (i := 16) (v := ?_) (by (simp only [List.getElem?_toArray, List.getElem?_cons_succ, List.getElem?_cons_zero]; rfl)) (by kernel_rfl) (by kernel_rfl) (by kernel_rfl) (by decide) (by exact fun _ _ _ h => h) ⟨hHeld.1, .inr hHeld.2⟩ (Or.inl ⟨by rfl, ?_⟩) ?_
              rotate_left
              · (intro w' _; go_simp <;> with_reducible rfl)
              try simp only [Act.put, List.setIfInBounds_toArray, List.set_cons_zero, List.set_cons_succ]
              refine wpAnyF_keep (i := 17) (v := ?_) (by (simp only [List.getElem?_toArray, List.getElem?_cons_succ, List.getElem?_cons_zero]; rfl)) (by kernel_rfl) (by kernel_rfl) (by kernel_rfl) (by decide) (by exact fun _ _ _ h => h) ⟨hHeld.1, .inr hHeld.2⟩ (Or.inl ⟨by rfl, ?_⟩) ?_
              rotate_left
              · (intro w' hSw; (try dsimp only at hSw); obtain ⟨hSa0, hSa1, hSa2, hSa3, hSa4, hSa5, hSa6⟩ := hSw; go_simp <;> with_reducible rfl)
              try simp only [Act.put, List.setIfInBounds_toArray, List.set_cons_zero, List.set_cons_succ]
              refine wpAnyF_take (i := 19) (v := ?_) (by (simp only [List.getElem?_toArray, List.getElem?_cons_succ, List.getElem?_cons_zero]; rfl)) (by kernel_rfl) (by kernel_rfl) (by kernel_rfl) (by decide) (by exact fun _ _ _ h => h) ⟨hHeld.1, .inr hHeld.2⟩ (Or.inl ⟨by rfl, ?_⟩) ?_
              rotate_left
              · (intro w' _; go_simp <;> with_reducible rfl)
              try simp only [Act.put, List.setIfInBounds_toArray, List.set_cons_zero, List.set_cons_succ]
              refine wpAnyF_keep (i := 20) (v := ?_) (by (simp only [List.getElem?_toArray, List.getElem?_cons_succ, List.getElem?_cons_zero]; rfl)) (by kernel_rfl) (by kernel_rfl) (by kernel_rfl) (by decide) (by exact fun _ _ _ h => h) ⟨hHeld.1, .inr hHeld.2⟩ (Or.inl ⟨by rfl, ?_⟩) ?_
              rotate_left
              · (intro w' hSw; (try dsimp only at hSw); obtain ⟨hSa0, hSa1, hSa2, hSa3, hSa4, hSa5, hSa6⟩ := hSw; go_simp <;> with_reducible rfl)
              try simp only [Act.put, List.setIfInBounds_toArray, List.set_cons_zero, List.set_cons_succ]
              refine wpAnyF_take (i := 21) (v := ?_) (by (simp only [List.getElem?_toArray, List.getElem?_cons_succ, List.getElem?_cons_zero]; rfl)) (by kernel_rfl) (by kernel_rfl) (by kernel_rfl) (by decide) (by exact fun _ _ _ h => h) ⟨hHeld.1, .inr hHeld.2⟩ (Or.inl ⟨by rfl, ?_⟩) ?_
              rotate_left
              · (intro w' _; go_simp <;> with_reducible rfl)
              try simp only [Act.put, List.setIfInBounds_toArray, List.set_cons_zero, List.set_cons_succ]
              refine wpAnyF_ready (rs := [18]) (by kernel_rfl) (by simp) ?_
              refine AllReadyF.cons (by (simp only [List.getElem?_toArray, List.getElem?_cons_succ, List.getElem?_cons_zero]; rfl)) (fun K hK => ?_) AllReadyF.nil
              go_simp
              go_at_call 18
              refine (HVM.out _ (rm.below (hHeld.1.2.2.2.2.2.2)).lt).mono ?_
              rintro e wa ⟨rfl, ba⟩
              refine hK.out _ _ ⟨keep6q ba hHeld.1, trivial⟩ (fun hNew => ?_)
              clear hK K hHeld
              have hHeld := hNew
              clear hNew
              try simp only [Act.put, List.setIfInBounds_toArray, List.set_cons_zero, List.set_cons_succ]
              refine wpAnyF_take (i := 22) (v := ?_) (by (simp only [List.getElem?_toArray, List.getElem?_cons_succ, List.getElem?_cons_zero]; rfl)) (by kernel_rfl) (by kernel_rfl) (by kernel_rfl) (by decide) (by exact fun _ _ _ h => h) ⟨hHeld.1, .inr hHeld.2⟩ (Or.inl ⟨by rfl, ?_⟩) ?_
              rotate_left
              · (intro w' _; go_simp <;> with_reducible rfl)
              try simp only [Act.put, List.setIfInBounds_toArray, List.set_cons_zero, List.set_cons_succ]
              refine wpAnyF_take (i := 23) (v := ?_) (by (simp only [List.getElem?_toArray, List.getElem?_cons_succ, List.getElem?_cons_zero]; rfl)) (by kernel_rfl) (by kernel_rfl) (by kernel_rfl) (by decide) (by exact fun _ _ _ h => h) ⟨hHeld.1, .inr hHeld.2⟩ (Or.inl ⟨by rfl, ?_⟩) ?_
              rotate_left
              · (intro w' _; go_simp <;> with_reducible rfl)
              try simp only [Act.put, List.setIfInBounds_toArray, List.set_cons_zero, List.set_cons_succ]
              refine wpAnyF_take (i := 24) (v := ?_) (by (simp only [List.getElem?_toArray, List.getElem?_cons_succ, List.getElem?_cons_zero]; rfl)) (by kernel_rfl) (by kernel_rfl) (by kernel_rfl) (by decide) (by exact fun _ _ _ h => h) ⟨hHeld.1, .inr hHeld.2⟩ (Or.inl ⟨by rfl, ?_⟩) ?_
              rotate_left
              · (intro w' _; go_simp <;> with_reducible rfl)
              try simp only [Act.put, List.setIfInBounds_toArray, List.set_cons_zero, List.set_cons_succ]
              refine wpAnyF_done (by kernel_rfl) ?_ _
              have bE := hHeld.1.2.2.2.2.2.2
              go_wp2_with fail
              go_meet
              exact ⟨rfl, bE⟩
            · have hk0 : (x.k == 0) = false := by rw [hk]; rfl
              have hk1 : (x.k == 1) = true := by rw [hk]; rfl
              have hvv : (v != x.v) = false := by rw [HST.out hk]; simp
              clear hk
              go_wp2_with fail
              have a0 : wx1.drew.cell? ⟨w4.heap.size, 3, none⟩ = some (Value.int .i64 v) := (k6.cell 3).trans rfl
              have a1 : wx1.drew.cell? ⟨w1.heap.size + 1, 0, none⟩ = some (Value.int .i64 x.k) := (k5.cell 0).trans rfl
              have a2 : wx1.drew.cell? ⟨w1.heap.size + 1, 1, none⟩ = some (Value.int .i64 x.a) := (k5.cell 1).trans rfl
              have a3 : wx1.drew.cell? ⟨w1.heap.size + 1, 2, none⟩ = some (Value.int .i64 x.v) := (k5.cell 2).trans rfl
              have a4 : wx1.drew.cell? ⟨w1.heap.size, 0, none⟩ = some (Value.slice A1 m.cs.length c1) := (k3.cell 0).trans rfl
              have a5 : wx1.drew.cell? ⟨w1.heap.size, 1, none⟩ = some (Value.slice A2 m.mem.length c2) := (k3.cell 1).trans rfl
              have bD : Below wx1.heap.size wx1 wx1.drew := (Below.refl _ _).drew
              refine wp_region_F 99 (fun w' => w'.cell? ⟨w4.heap.size, 3, none⟩ = some (Value.int .i64 v) ∧ w'.cell? ⟨w1.heap.size + 1, 0, none⟩ = some (Value.int .i64 x.k) ∧ w'.cell? ⟨w1.heap.size + 1, 1, none⟩ = some (Value.int .i64 x.a) ∧ w'.cell? ⟨w1.heap.size + 1, 2, none⟩ = some (Value.int .i64 x.v) ∧ w'.cell? ⟨w1.heap.size, 0, none⟩ = some (Value.slice A1 m.cs.length c1) ∧ w'.cell? ⟨w1.heap.size, 1, none⟩ = some (Value.slice A2 m.mem.length c2) ∧ Below wx1.heap.size wx1 w') (fun w' => True) (by kernel_rfl) ⟨⟨a0, a1, a2, a3, a4, a5, bD⟩, trivial⟩ (fun hHeld => ?_)
              try simp only [Act.put, List.setIfInBounds_toArray, List.set_cons_zero, List.set_cons_succ]
              clear a0 a1 a2 a3 a4 a5 bD
              refine wpAnyF_take (i := 0) (v := ?_) (by (simp only [List.getElem?_toArray, List.getElem?_cons_zero]; rfl)) (by kernel_rfl) (by kernel_rfl) (by kernel_rfl) (by decide) (by exact fun _ _ _ h => h) ⟨hHeld.1, .inr hHeld.2⟩ (Or.inl ⟨by rfl, ?_⟩) ?_
              rotate_left
              · (intro w' _; go_simp <;> with_reducible rfl)
              try simp only [Act.put, List.setIfInBounds_toArray, List.set_cons_zero, List.set_cons_succ]
              refine wpAnyF_keep (i := 1) (v := ?_) (by (simp only [List.getElem?_toArray, List.getElem?_cons_succ, List.getElem?_cons_zero]; rfl)) (by kernel_rfl) (by kernel_rfl) (by kernel_rfl) (by decide) (by exact fun _ _ _ h => h) ⟨hHeld.1, .inr hHeld.2⟩ (Or.inl ⟨by rfl, ?_⟩) ?_
              rotate_left
              · (intro w' hSw; (try dsimp only at hSw); obtain ⟨hSa0, hSa1, hSa2, hSa3, hSa4, hSa5, hSa6⟩ := hSw; go_simp <;> with_reducible rfl)
              try simp only [Act.put, List.setIfInBounds_toArray, List.set_cons_zero, List.set_cons_succ]
              refine wpAnyF_take (i := 2) (v := ?_) (by (simp only [List.getElem?_toArray, List.getElem?_cons_succ, List.getElem?_cons_zero]; rfl)) (by kernel_rfl) (by kernel_rfl) (by kernel_rfl) (by decide) (by exact fun _ _ _ h => h) ⟨hHeld.1, .inr hHeld.2⟩ (Or.inl ⟨by rfl, ?_⟩) ?_
              rotate_left
              · (intro w' _; go_simp <;> with_reducible rfl)
              try simp only [Act.put, List.setIfInBounds_toArray, List.set_cons_zero, List.set_cons_succ]
              refine wpAnyF_take (i := 3) (v := ?_) (by (simp only [List.getElem?_toArray, List.getElem?_cons_succ, List.getElem?_cons_zero]; rfl)) (by kernel_rfl) (by kernel_rfl) (by kernel_rfl) (by decide) (by exact fun _ _ _ h => h) ⟨hHeld.1, .inr hHeld.2⟩ (Or.inl ⟨by rfl, ?_⟩) ?_
              rotate_left
              · (intro w' _; go_simp <;> with_reducible rfl)
              try simp only [Act.put, List.setIfInBounds_toArray, List.set_cons_zero, List.set_cons_succ]
              refine wpAnyF_take (i := 4) (v := ?_) (by (simp only [List.getElem?_toArray, List.getElem?_cons_succ, List.getElem?_cons_zero]; rfl)) (by kernel_rfl) (by kernel_rfl) (by kernel_rfl) (by decide) (by exact fun _ _ _ h => h) ⟨hHeld.1, .inr hHeld.2⟩ (Or.inl ⟨by rfl, ?_⟩) ?_
              rotate_left
              · (intro w' _; go_simp <;> with_reducible rfl)
              try simp only [Act.put, List.setIfInBounds_toArray, List.set_cons_zero, List.set_cons_succ]
              refine wpAnyF_keep (i := 5) (v := ?_) (by (simp only [List.getElem?_toArray, List.getElem?_cons_succ, List.getElem?_cons_zero]; rfl)) (by kernel_rfl) (by kernel_rfl) (by kernel_rfl) (by decide) (by exact fun _ _ _ h => h) ⟨hHeld.1, .inr hHeld.2⟩ (Or.inl ⟨by rfl, ?_⟩) ?_
              rotate_left
              · (intro w' hSw; (try dsimp only at hSw); obtain ⟨hSa0, hSa1, hSa2, hSa3, hSa4, hSa5, hSa6⟩ := hSw; go_simp <;> with_reducible rfl)
              try simp only [Act.put, List.setIfInBounds_toArray, List.set_cons_zero, List.set_cons_succ]
              refine wpAnyF_take (i := 6) (v := ?_) (by (simp only [List.getElem?_toArray, List.getElem?_cons_succ, List.getElem?_cons_zero]; rfl)) (by kernel_rfl) (by kernel_rfl) (by kernel_rfl) (by decide) (by exact fun _ _ _ h => h) ⟨hHeld.1, .inr hHeld.2⟩ (Or.inl ⟨by rfl, ?_⟩) ?_
              rotate_left
              · (intro w' _; go_simp <;> with_reducible rfl)
              try simp only [Act.put, List.setIfInBounds_toArray, List.set_cons_zero, List.set_cons_succ]
              refine wpAnyF_keep (i := 7) (v := ?_) (by (simp only [List.getElem?_toArray, List.getElem?_cons_succ, List.getElem?_cons_zero]; rfl)) (by kernel_rfl) (by kernel_rfl) (by kernel_rfl) (by decide) (by exact fun _ _ _ h => h) ⟨hHeld.1, .inr hHeld.2⟩ (Or.inl ⟨by rfl, ?_⟩) ?_
              rotate_left
              · (intro w' hSw; (try dsimp only at hSw); obtain ⟨hSa0, hSa1, hSa2, hSa3, hSa4, hSa5, hSa6⟩ := hSw; go_simp <;> with_reducible rfl)
              try simp only [Act.put, List.setIfInBounds_toArray, List.set_cons_zero, List.set_cons_succ]
              refine wpAnyF_take (i := 8) (v := ?_) (by (simp only [List.getElem?_toArray, List.getElem?_cons_succ, List.getElem?_cons_zero]; rfl)) (by kernel_rfl) (by kernel_rfl) (by kernel_rfl) (by decide) (by exact fun _ _ _ h => h) ⟨hHeld.1, .inr hHeld.2⟩ (Or.inl ⟨by rfl, ?_⟩) ?_
              rotate_left
              · (intro w' _; go_simp <;> with_reducible rfl)
              try simp only [Act.put, List.setIfInBounds_toArray, List.set_cons_zero, List.set_cons_succ]
              refine wpAnyF_take (i := 9) (v := ?_) (by (simp only [List.getElem?_toArray, List.getElem?_cons_succ, List.getElem?_cons_zero]; rfl)) (by kernel_rfl) (by kernel_rfl) (by kernel_rfl) (by decide) (by exact fun _ _ _ h => h) ⟨hHeld.1, .inr hHeld.2⟩ (Or.inl ⟨by rfl, ?_⟩) ?_
              rotate_left
              · (intro w' _; go_simp <;> with_reducible rfl)
              try simp only [Act.put, List.setIfInBounds_toArray, List.set_cons_zero, List.set_cons_succ]
              refine wpAnyF_take (i := 10) (v := ?_) (by (simp only [List.getElem?_toArray, List.getElem?_cons_succ, List.getElem?_cons_zero]; rfl)) (by kernel_rfl) (by kernel_rfl) (by kernel_rfl) (by decide) (by exact fun _ _ _ h => h) ⟨hHeld.1, .inr hHeld.2⟩ (Or.inl ⟨by rfl, ?_⟩) ?_
              rotate_left
              · (intro w' _; go_simp <;> with_reducible rfl)
              try simp only [Act.put, List.setIfInBounds_toArray, List.set_cons_zero, List.set_cons_succ]
              refine wpAnyF_take (i := 11) (v := ?_) (by (simp only [List.getElem?_toArray, List.getElem?_cons_succ, List.getElem?_cons_zero]; rfl)) (by kernel_rfl) (by kernel_rfl) (by kernel_rfl) (by decide) (by exact fun _ _ _ h => h) ⟨hHeld.1, .inr hHeld.2⟩ (Or.inl ⟨by rfl, ?_⟩) ?_
              rotate_left
              · (intro w' _; go_simp <;> with_reducible rfl)
              try simp only [Act.put, List.setIfInBounds_toArray, List.set_cons_zero, List.set_cons_succ]
              refine wpAnyF_keep (i := 12) (v := ?_) (by (simp only [List.getElem?_toArray, List.getElem?_cons_succ, List.getElem?_cons_zero]; rfl)) (by kernel_rfl) (by kernel_rfl) (by kernel_rfl) (by decide) (by exact fun _ _ _ h => h) ⟨hHeld.1, .inr hHeld.2⟩ (Or.inl ⟨by rfl, ?_⟩) ?_
              rotate_left
              · (intro w' hSw; (try dsimp only at hSw); obtain ⟨hSa0, hSa1, hSa2, hSa3, hSa4, hSa5, hSa6⟩ := hSw; go_simp <;> with_reducible rfl)
              try simp only [Act.put, List.setIfInBounds_toArray, List.set_cons_zero, List.set_cons_succ]
              refine wpAnyF_take (i := 13) (v := ?_) (by (simp only [List.getElem?_toArray, List.getElem?_cons_succ, List.getElem?_cons_zero]; rfl)) (by kernel_rfl) (by kernel_rfl) (by kernel_rfl) (by decide) (by exact fun _ _ _ h => h) ⟨hHeld.1, .inr hHeld.2⟩ (Or.inl ⟨by rfl, ?_⟩) ?_
              rotate_left
              · (intro w' _; go_simp <;> with_reducible rfl)
              try simp only [Act.put, List.setIfInBounds_toArray, List.set_cons_zero, List.set_cons_succ]
              refine wpAnyF_take (i := 14) (v := ?_) (by (simp only [List.getElem?_toArray, List.getElem?_cons_succ, List.getElem?_cons_zero]; rfl)) (by kernel_rfl) (by kernel_rfl) (by kernel_rfl) (by decide) (by exact fun _ _ _ h => h) ⟨hHeld.1, .inr hHeld.2⟩ (Or.inl ⟨by rfl, ?_⟩) ?_
              rotate_left
              · (intro w' _; go_simp <;> with_reducible rfl)
              try simp only [Act.put, List.setIfInBounds_toArray, List.set_cons_zero, List.set_cons_succ]
              refine wpAnyF_take (i := 15) (v := undef) (by (simp only [List.getElem?_toArray, List.getElem?_cons_succ, List.getElem?_cons_zero]; rfl)) (by kernel_rfl) (by kernel_rfl) (by kernel_rfl) (by decide) (by exact fun _ _ _ h => h) ⟨hHeld.1, .inr hHeld.2⟩ (Or.inr ⟨by rfl, rfl⟩) ?_
              try simp only [Act.put, List.setIfInBounds_toArray, List.set_cons_zero, List.set_cons_succ]
              refine wpAnyF_take (i := 16) (v := undef) (by (simp only [List.getElem?_toArray, List.getElem?_cons_succ, List.getElem?_cons_zero]; rfl)) (by kernel_rfl) (by kernel_rfl) (by kernel_rfl) (by decide) (by exact fun _ _ _ h => h) ⟨hHeld.1, .inr hHeld.2⟩ (Or.inr ⟨by rfl, rfl⟩) ?_
              try simp only [Act.put, List.setIfInBounds_toArray, List.set_cons_zero, List.set_cons_succ]
              refine wpAnyF_take (i := 17) (v := undef) (by (simp only [List.getElem?_toArray, List.getElem?_cons_succ, List.getElem?_cons_zero]; rfl)) (by kernel_rfl) (by kernel_rfl) (by kernel_rfl) (by decide) (by exact fun _ _ _ h => h) ⟨hHeld.1, .inr hHeld.2⟩ (Or.inr ⟨by rfl, rfl⟩) ?_
              try simp only [Act.put, List.setIfInBounds_toArray, List.set_cons_zero, List.set_cons_succ]
              refine wpAnyF_take (i := 18) (v := undef) (by (simp only [List.getElem?_toArray, List.getElem?_cons_succ, List.getElem?_cons_zero]; rfl)) (by kernel_rfl) (by kernel_rfl) (by kernel_rfl) (by decide) (by exact fun _ _ _ h => h) ⟨hHeld.1, .inr hHeld.2⟩ (Or.inr ⟨by rfl, rfl⟩) ?_
              try simp only [Act.put, List.setIfInBounds_toArray, List.set_cons_zero, List.set_cons_succ]
              refine wpAnyF_take (i := 19) (v := undef) (by (simp only [List.getElem?_toArray, List.getElem?_cons_succ, List.getElem?_cons_zero]; rfl)) (by kernel_rfl) (by kernel_rfl) (by kernel_rfl) (by decide) (by exact fun _ _ _ h => h) ⟨hHeld.1, .inr hHeld.2⟩ (Or.inr ⟨by rfl, rfl⟩) ?_
              try simp only [Act.put, List.setIfInBounds_toArray, List.set_cons_zero, List.set_cons_succ]
              refine wpAnyF_take (i := 20) (v := undef) (by (simp only [List.getElem?_toArray, List.getElem?_cons_succ, List.getElem?_cons_zero]; rfl)) (by kernel_rfl) (by kernel_rfl) (by kernel_rfl) (by decide) (by exact fun _ _ _ h => h) ⟨hHeld.1, .inr hHeld.2⟩ (Or.inr ⟨by rfl, rfl⟩) ?_
              try simp only [Act.put, List.setIfInBounds_toArray, List.set_cons_zero, List.set_cons_succ]
              refine wpAnyF_take (i := 21) (v := undef) (by (simp only [List.getElem?_toArray, List.getElem?_cons_succ, List.getElem?_cons_zero]; rfl)) (by kernel_rfl) (by kernel_rfl) (by kernel_rfl) (by decide) (by exact fun _ _ _ h => h) ⟨hHeld.1, .inr hHeld.2⟩ (Or.inr ⟨by rfl, rfl⟩) ?_
              try simp only [Act.put, List.setIfInBounds_toArray, List.set_cons_zero, List.set_cons_succ]
              refine wpAnyF_take (i := 22) (v := undef) (by (simp only [List.getElem?_toArray, List.getElem?_cons_succ, List.getElem?_cons_zero]; rfl)) (by kernel_rfl) (by kernel_rfl) (by kernel_rfl) (by decide) (by exact fun _ _ _ h => h) ⟨hHeld.1, .inr hHeld.2⟩ (Or.inr ⟨by rfl, rfl⟩) ?_
              try simp only [Act.put, List.setIfInBounds_toArray, List.set_cons_zero, List.set_cons_succ]
              refine wpAnyF_take (i := 23) (v := ?_) (by (simp only [List.getElem?_toArray, List.getElem?_cons_succ, List.getElem?_cons_zero]; rfl)) (by kernel_rfl) (by kernel_rfl) (by kernel_rfl) (by decide) (by exact fun _ _ _ h => h) ⟨hHeld.1, .inr hHeld.2⟩ (Or.inl ⟨by rfl, ?_⟩) ?_
              rotate_left
              · (intro w' _; go_simp <;> with_reducible rfl)
              try simp only [Act.put, List.setIfInBounds_toArray, List.set_cons_zero, List.set_cons_succ]
              refine wpAnyF_take (i := 24) (v := ?_) (by (simp only [List.getElem?_toArray, List.getElem?_cons_succ, List.getElem?_cons_zero]; rfl)) (by kernel_rfl) (by kernel_rfl) (by kernel_rfl) (by decide) (by exact fun _ _ _ h => h) ⟨hHeld.1, .inr hHeld.2⟩ (Or.inl ⟨by rfl, ?_⟩) ?_
              rotate_left
              · (intro w' _; go_simp <;> with_reducible rfl)
              try simp only [Act.put, List.setIfInBounds_toArray, List.set_cons_zero, List.set_cons_succ]
              refine wpAnyF_done (by kernel_rfl) ?_ _
              have bE := hHeld.1.2.2.2.2.2.2
              go_wp2_with fail
              go_meet
              exact ⟨rfl, bE⟩
          case rest =>
            obtain ⟨rfl, b20⟩ := hcut
            obtain ⟨wx2, hwx⟩ : ∃ Y : World, Y = wc := ⟨_, rfl⟩
            subst hwx
            have z_20 := Below.size b20
            replace rm := (rm.below b20).lt
            replace B := B.trans (b20.mono B.size)
            replace k3 := k3.kept b20
            replace k5 := k5.kept b20
            replace r6 := (r6.below b20).lt
            replace k6 := k6.kept b20
            clear b20
            go_wp2
            go_loopw [17] (fun q wr => ∃ i : Nat, i ≤ 7 ∧ q = .int .i64 i ∧ Below wx2.heap.size wx2 wr) (fun q _ => 7 - (intOf q).toNat)
            case atStart => exact ⟨0, by omega, rfl, Below.refl _ _⟩
            case round =>
              obtain ⟨i, hi, rfl, hb⟩ := hrel
              have hz := hb.size
              by_cases hlt : i < 7
              · have k3r := k3.kept hb
                have k5r := k5.kept hb
                have k6r := k6.kept hb
                have rmr := (rm.below hb).lt
                have r6r := (r6.below hb).lt
                by_cases hix : (i : Int) = x.a
                · have hbx : ((i : Int) != x.a) = false := by rw [hix]; simp
                  clear hix
                  go_wp2_with fail
                  have a0 : wr.drew.cell? ⟨w4.heap.size, 1, none⟩ = some (Value.slice A6 n.cs.length c6) := (k6r.cell 1).trans rfl
                  have a1 : wr.drew.cell? ⟨w4.heap.size, 2, none⟩ = some (Value.slice Ap6 n.mem.length cp6) := (k6r.cell 2).trans rfl
                  have a2 : wr.drew.cell? ⟨w1.heap.size + 1, 1, none⟩ = some (Value.int .i64 x.a) := (k5r.cell 1).trans rfl
                  have a3 : wr.drew.cell? ⟨w1.heap.size, 0, none⟩ = some (Value.slice A1 m.cs.length c1) := (k3r.cell 0).trans rfl
                  have a4 : wr.drew.cell? ⟨w1.heap.size, 1, none⟩ = some (Value.slice A2 m.mem.length c2) := (k3r.cell 1).trans rfl
                  have bD : Below wr.heap.size wr wr.drew := (Below.refl _ _).drew
                  refine wp_region_F 99 (fun w' => w'.cell? ⟨w4.heap.size, 1, none⟩ = some (Value.slice A6 n.cs.length c6) ∧ w'.cell? ⟨w4.heap.size, 2, none⟩ = some (Value.slice Ap6 n.mem.length cp6) ∧ w'.cell? ⟨w1.heap.size + 1, 1, none⟩ = some (Value.int .i64 x.a) ∧ w'.cell? ⟨w1.heap.size, 0, none⟩ = some (Value.slice A1 m.cs.length c1) ∧ w'.cell? ⟨w1.heap.size, 1, none⟩ = some (Value.slice A2 m.mem.length c2) ∧ Below wr.heap.size wr w') (fun w' => True) (by kernel_rfl) ⟨⟨a0, a1, a2, a3, a4, bD⟩, trivial⟩ (fun hHeld => ?_)
                  try simp only [Act.put, List.setIfInBounds_toArray, List.set_cons_zero, List.set_cons_succ]
                  clear a0 a1 a2 a3 a4 bD
                  refine wpAnyF_take (i := 0) (v := ?_) (by (simp only [List.getElem?_toArray, List.getElem?_cons_zero]; rfl)) (by kernel_rfl) (by kernel_rfl) (by kernel_rfl) (by decide) (by exact fun _ _ _ h => h) ⟨hHeld.1, .inr hHeld.2⟩ (Or.inl ⟨by rfl, ?_⟩) ?_
                  rotate_left
                  · (intro w' _; go_simp <;> with_reducible rfl)
                  try simp only [Act.put, List.setIfInBounds_toArray, List.set_cons_zero, List.set_cons_succ]
                  refine wpAnyF_take (i := 1) (v := ?_) (by (simp only [List.getElem?_toArray, List.getElem?_cons_succ, List.getElem?_cons_zero]; rfl)) (by kernel_rfl) (by kernel_rfl) (by kernel_rfl) (by decide) (by exact fun _ _ _ h => h) ⟨hHeld.1, .inr hHeld.2⟩ (Or.inl ⟨by rfl, ?_⟩) ?_
                  rotate_left
                  · (intro w' _; go_simp <;> with_reducible rfl)
                  try simp only [Act.put, List.setIfInBounds_toArray, List.set_cons_zero, List.set_cons_succ]
                  refine wpAnyF_keep (i := 2) (v := ?_) (by (simp only [List.getElem?_toArray, List.getElem?_cons_succ, List.getElem?_cons_zero]; rfl)) (by kernel_rfl) (by kernel_rfl) (by kernel_rfl) (by decide) (by exact fun _ _ _ h => h) ⟨hHeld.1, .inr hHeld.2⟩ (Or.inl ⟨by rfl, ?_⟩) ?_
                  rotate_left
                  · (intro w' hSw; (try dsimp only at hSw); obtain ⟨hSa0, hSa1, hSa2, hSa3, hSa4, hSa5⟩ := hSw; go_simp <;> with_reducible rfl)
                  try simp only [Act.put, List.setIfInBounds_toArray, List.set_cons_zero, List.set_cons_succ]
                  refine wpAnyF_take (i := 3) (v := ?_) (by (simp only [List.getElem?_toArray, List.getElem?_cons_succ, List.getElem?_cons_zero]; rfl)) (by kernel_rfl) (by kernel_rfl) (by kernel_rfl) (by decide) (by exact fun _ _ _ h => h) ⟨hHeld.1, .inr hHeld.2⟩ (Or.inl ⟨by rfl, ?_⟩) ?_
                  rotate_left
                  · (intro w' _; go_simp <;> with_reducible rfl)
                  try simp only [Act.put, List.setIfInBounds_toArray, List.set_cons_zero, List.set_cons_succ]
                  refine wpAnyF_take (i := 4) (v := ?_) (by (simp only [List.getElem?_toArray, List.getElem?_cons_succ, List.getElem?_cons_zero]; rfl)) (by kernel_rfl) (by kernel_rfl) (by kernel_rfl) (by decide) (by exact fun _ _ _ h => h) ⟨hHeld.1, .inr hHeld.2⟩ (Or.inl ⟨by rfl, ?_⟩) ?_
                  rotate_left
                  · (intro w' _; go_simp <;> with_reducible rfl)
                  try simp only [Act.put, List.setIfInBounds_toArray, List.set_cons_zero, List.set_cons_succ]
                  refine wpAnyF_take (i := 5) (v := undef) (by (simp only [List.getElem?_toArray, List.getElem?_cons_succ, List.getElem?_cons_zero]; rfl)) (by kernel_rfl) (by kernel_rfl) (by kernel_rfl) (by decide) (by exact fun _ _ _ h => h) ⟨hHeld.1, .inr hHeld.2⟩ (Or.inr ⟨by rfl, rfl⟩) ?_
                  try simp only [Act.put, List.setIfInBounds_toArray, List.set_cons_zero, List.set_cons_succ]
                  refine wpAnyF_take (i := 6) (v := undef) (by (simp only [List.getElem?_toArray, List.getElem?_cons_succ, List.getElem?_cons_zero]; rfl)) (by kernel_rfl) (by kernel_rfl) (by kernel_rfl) (by decide) (by exact fun _ _ _ h => h) ⟨hHeld.1, .inr hHeld.2⟩ (Or.inr ⟨by rfl, rfl⟩) ?_
                  try simp only [Act.put, List.setIfInBounds_toArray, List.set_cons_zero, List.set_cons_succ]
                  refine wpAnyF_take (i := 7) (v := undef) (by (simp only [List.getElem?_toArray, List.getElem?_cons_succ, List.getElem?_cons_zero]; rfl)) (by kernel_rfl) (by kernel_rfl) (by kernel_rfl) (by decide) (by exact fun _ _ _ h => h) ⟨hHeld.1, .inr hHeld.2⟩ (Or.inr ⟨by rfl, rfl⟩) ?_
                  try simp only [Act.put, List.setIfInBounds_toArray, List.set_cons_zero, List.set_cons_succ]
                  refine wpAnyF_take (i := 8) (v := undef) (by (simp only [List.getElem?_toArray, List.getElem?_cons_succ, List.getElem?_cons_zero]; rfl)) (by kernel_rfl) (by kernel_rfl) (by kernel_rfl) (by decide) (by exact fun _ _ _ h => h) ⟨hHeld.1, .inr hHeld.2⟩ (Or.inr ⟨by rfl, rfl⟩) ?_
                  try simp only [Act.put, List.setIfInBounds_toArray, List.set_cons_zero, List.set_cons_succ]
                  refine wpAnyF_take (i := 9) (v := undef) (by (simp only [List.getElem?_toArray, List.getElem?_cons_succ, List.getElem?_cons_zero]; rfl)) (by kernel_rfl) (by kernel_rfl) (by kernel_rfl) (by decide) (by exact fun _ _ _ h => h) ⟨hHeld.1, .inr hHeld.2⟩ (Or.inr ⟨by rfl, rfl⟩) ?_
                  try simp only [Act.put, List.setIfInBounds_toArray, List.set_cons_zero, List.set_cons_succ]
                  refine wpAnyF_take (i := 10) (v := undef) (by (simp only [List.getElem?_toArray, List.getElem?_cons_succ, List.getElem?_cons_zero]; rfl)) (by kernel_rfl) (by kernel_rfl) (by kernel_rfl) (by decide) (by exact fun _ _ _ h => h) ⟨hHeld.1, .inr hHeld.2⟩ (Or.inr ⟨by rfl, rfl⟩) ?_
                  try simp only [Act.put, List.setIfInBounds_toArray, List.set_cons_zero, List.set_cons_succ]
                  refine wpAnyF_take (i := 11) (v := undef) (by (simp only [List.getElem?_toArray, List.getElem?_cons_succ, List.getElem?_cons_zero]; rfl)) (by kernel_rfl) (by kernel_rfl) (by kernel_rfl) (by decide) (by exact fun _ _ _ h => h) ⟨hHeld.1, .inr hHeld.2⟩ (Or.inr ⟨by rfl, rfl⟩) ?_
                  try simp only [Act.put, List.setIfInBounds_toArray, List.set_cons_zero, List.set_cons_succ]
                  refine wpAnyF_take (i := 12) (v := undef) (by (simp only [List.getElem?_toArray, List.getElem?_cons_succ, List.getElem?_cons_zero]; rfl)) (by kernel_rfl) (by kernel_rfl) (by kernel_rfl) (by decide) (by exact fun _ _ _ h => h) ⟨hHeld.1, .inr hHeld.2⟩ (Or.inr ⟨by rfl, rfl⟩) ?_
                  try simp only [Act.put, List.setIfInBounds_toArray, List.set_cons_zero, List.set_cons_succ]
                  refine wpAnyF_take (i := 13) (v := ?_) (by (simp only [List.getElem?_toArray, List.getElem?_cons_succ, List.getElem?_cons_zero]; rfl)) (by kernel_rfl) (by kernel_rfl) (by kernel_rfl) (by decide) (by exact fun _ _ _ h => h) ⟨hHeld.1, .inr hHeld.2⟩ (Or.inl ⟨by rfl, ?_⟩) ?_
                  rotate_left
                  · (intro w' _; go_simp <;> with_reducible rfl)
                  try simp only [Act.put, List.setIfInBounds_toArray, List.set_cons_zero, List.set_cons_succ]
                  refine wpAnyF_done (by kernel_rfl) ?_ _
                  have bE := hHeld.1.2.2.2.2.2
                  have hb2 := hb.trans (bE.mono hz)
                  go_wp2
                  go_roundw
                  case rel => exact ⟨i + 1, by omega, by go_num, hb2⟩
                  case measure => simp [intOf]; omega
                · have hbx : ((i : Int) != x.a) = true := by simpa using hix
                  have hi6 : 0 ≤ (i : Int) ∧ (i : Int) ≤ 999999 := by omega
                  have VN := IVn.out (i : Int)
                  have VM := IVm.out (i : Int)
                  rw [vaC_ok hi6, vaV_ok hi6, HOT.out _ hix] at VN
                  rw [vaC_ok hi6, vaV_ok hi6] at VM
                  obtain ⟨u, hu⟩ : ∃ u, u = valM m (i : Int) := ⟨_, rfl⟩
                  rw [← hu] at VN VM
                  have HVN2 := hide VN
                  have HVM2 := hide VM
                  clear VN VM hu
                  clear hix
                  go_wp2_with fail
                  have a0 : wr.drew.cell? ⟨w4.heap.size, 1, none⟩ = some (Value.slice A6 n.cs.length c6) := (k6r.cell 1).trans rfl
                  have a1 : wr.drew.cell? ⟨w4.heap.size, 2, none⟩ = some (Value.slice Ap6 n.mem.length cp6) := (k6r.cell 2).trans rfl
                  have a2 : wr.drew.cell? ⟨w1.heap.size + 1, 1, none⟩ = some (Value.int .i64 x.a) := (k5r.cell 1).trans rfl
                  have a3 : wr.drew.cell? ⟨w1.heap.size, 0, none⟩ = some (Value.slice A1 m.cs.length c1) := (k3r.cell 0).trans rfl
                  have a4 : wr.drew.cell? ⟨w1.heap.size, 1, none⟩ = some (Value.slice A2 m.mem.length c2) := (k3r.cell 1).trans rfl
                  have bD : Below wr.heap.size wr wr.drew := (Below.refl _ _).drew
                  refine wp_region_F 99 (fun w' => w'.cell? ⟨w4.heap.size, 1, none⟩ = some (Value.slice A6 n.cs.length c6) ∧ w'.cell? ⟨w4.heap.size, 2, none⟩ = some (Value.slice Ap6 n.mem.length cp6) ∧ w'.cell? ⟨w1.heap.size + 1, 1, none⟩ = some (Value.int .i64 x.a) ∧ w'.cell? ⟨w1.heap.size, 0, none⟩ = some (Value.slice A1 m.cs.length c1) ∧ w'.cell? ⟨w1.heap.size, 1, none⟩ = some (Value.slice A2 m.mem.length c2) ∧ Below wr.heap.size wr w') (fun w' => True) (by kernel_rfl) ⟨⟨a0, a1, a2, a3, a4, bD⟩, trivial⟩ (fun hHeld => ?_)
                  try simp only [Act.put, List.setIfInBounds_toArray, List.set_cons_zero, List.set_cons_succ]
                  clear a0 a1 a2 a3 a4 bD
                  refine wpAnyF_take (i := 0) (v := ?_) (by (simp only [List.getElem?_toArray, List.getElem?_cons_zero]; rfl)) (by kernel_rfl) (by kernel_rfl) (by kernel_rfl) (by decide) (by exact fun _ _ _ h => h) ⟨hHeld.1, .inr hHeld.2⟩ (Or.inl ⟨by rfl, ?_⟩) ?_
                  rotate_left
                  · (intro w' _; go_simp <;> with_reducible rfl)
                  try simp only [Act.put, List.setIfInBounds_toArray, List.set_cons_zero, List.set_cons_succ]
                  refine wpAnyF_take (i := 1) (v := ?_) (by (simp only [List.getElem?_toArray, List.getElem?_cons_succ, List.getElem?_cons_zero]; rfl)) (by kernel_rfl) (by kernel_rfl) (by kernel_rfl) (by decide) (by exact fun _ _ _ h => h) ⟨hHeld.1, .inr hHeld.2⟩ (Or.inl ⟨by rfl, ?_⟩) ?_
                  rotate_left
                  · (intro w' _; go_simp <;> with_reducible rfl)
                  try simp only [Act.put, List.setIfInBounds_toArray, List.set_cons_zero, List.set_cons_succ]
                  refine wpAnyF_keep (i := 2) (v := ?_) (by (simp only [List.getElem?_toArray, List.getElem?_cons_succ, List.getElem?_cons_zero]; rfl)) (by kernel_rfl) (by kernel_rfl) (by kernel_rfl) (by decide) (by exact fun _ _ _ h => h) ⟨hHeld.1, .inr hHeld.2⟩ (Or.inl ⟨by rfl, ?_⟩) ?_
                  rotate_left
                  · (intro w' hSw; (try dsimp only at hSw); obtain ⟨hSa0, hSa1, hSa2, hSa3, hSa4, hSa5⟩ := hSw; go_simp <;> with_reducible rfl)
                  try simp only [Act.put, List.setIfInBounds_toArray, List.set_cons_zero, List.set_cons_succ]
                  refine wpAnyF_take (i := 3) (v := ?_) (by (simp only [List.getElem?_toArray, List.getElem?_cons_succ, List.getElem?_cons_zero]; rfl)) (by kernel_rfl) (by kernel_rfl) (by kernel_rfl) (by decide) (by exact fun _ _ _ h => h) ⟨hHeld.1, .inr hHeld.2⟩ (Or.inl ⟨by rfl, ?_⟩) ?_
                  rotate_left
                  · (intro w' _; go_simp <;> with_reducible rfl)
                  try simp only [Act.put, List.setIfInBounds_toArray, List.set_cons_zero, List.set_cons_succ]
                  refine wpAnyF_take (i := 4) (v := ?_) (by (simp only [List.getElem?_toArray, List.getElem?_cons_succ, List.getElem?_cons_zero]; rfl)) (by kernel_rfl) (by kernel_rfl) (by kernel_rfl) (by decide) (by exact fun _ _ _ h => h) ⟨hHeld.1, .inr hHeld.2⟩ (Or.inl ⟨by rfl, ?_⟩) ?_
                  rotate_left
                  · (intro w' _; go_simp <;> with_reducible rfl)
                  try simp only [Act.put, List.setIfInBounds_toArray, List.set_cons_zero, List.set_cons_succ]
                  refine wpAnyF_take (i := 5) (v := ?_) (by (simp only [List.getElem?_toArray, List.getElem?_cons_succ, List.getElem?_cons_zero]; rfl)) (by kernel_rfl) (by kernel_rfl) (by kernel_rfl) (by decide) (by exact fun _ _ _ h => h) ⟨hHeld.1, .inr hHeld.2⟩ (Or.inl ⟨by rfl, ?_⟩) ?_
                  rotate_left
                  · (intro w' _; go_simp <;> with_reducible rfl)
                  try simp only [Act.put, List.setIfInBounds_toArray, List.set_cons_zero, List.set_cons_succ]
                  refine wpAnyF_keep (i := 6) (v := ?_) (by (simp only [List.getElem?_toArray, List.getElem?_cons_succ, List.getElem?_cons_zero]; rfl)) (by kernel_rfl) (by kernel_rfl) (by kernel_rfl) (by decide) (by exact fun _ _ _ h => h) ⟨hHeld.1, .inr hHeld.2⟩ (Or.inl ⟨by rfl, ?_⟩) ?_
                  rotate_left
                  · (intro w' hSw; (try dsimp only at hSw); obtain ⟨hSa0, hSa1, hSa2, hSa3, hSa4, hSa5⟩ := hSw; go_simp <;> with_reducible rfl)
                  try simp only [Act.put, List.setIfInBounds_toArray, List.set_cons_zero, List.set_cons_succ]
                  refine wpAnyF_take (i := 7) (v := ?_) (by (simp only [List.getElem?_toArray, List.getElem?_cons_succ, List.getElem?_cons_zero]; rfl)) (by kernel_rfl) (by kernel_rfl) (by kernel_rfl) (by decide) (by exact fun _ _ _ h => h) ⟨hHeld.1, .inr hHeld.2⟩ (Or.inl ⟨by rfl, ?_⟩) ?_
                  rotate_left
                  · (intro w' _; go_simp <;> with_reducible rfl)
                  try simp only [Act.put, List.setIfInBounds_toArray, List.set_cons_zero, List.set_cons_succ]
                  refine wpAnyF_keep (i := 9) (v := ?_) (by (simp only [List.getElem?_toArray, List.getElem?_cons_succ, List.getElem?_cons_zero]; rfl)) (by kernel_rfl) (by kernel_rfl) (by kernel_rfl) (by decide) (by exact fun _ _ _ h => h) ⟨hHeld.1, .inr hHeld.2⟩ (Or.inl ⟨by rfl, ?_⟩) ?_
                  rotate_left
                  · (intro w' hSw; (try dsimp only at hSw); obtain ⟨hSa0, hSa1, hSa2, hSa3, hSa4, hSa5⟩ := hSw; go_simp <;> with_reducible rfl)
                  try simp only [Act.put, List.setIfInBounds_toArray, List.set_cons_zero, List.set_cons_succ]
                  refine wpAnyF_take (i := 10) (v := ?_) (by (simp only [List.getElem?_toArray, List.getElem?_cons_succ, List.getElem?_cons_zero]; rfl)) (by kernel_rfl) (by kernel_rfl) (by kernel_rfl) (by decide) (by exact fun _ _ _ h => h) ⟨hHeld.1, .inr hHeld.2⟩ (Or.inl ⟨by rfl, ?_⟩) ?_
                  rotate_left
                  · (intro w' _; go_simp <;> with_reducible rfl)
                  try simp only [Act.put, List.setIfInBounds_toArray, List.set_cons_zero, List.set_cons_succ]
                  refine wpAnyF_ready (rs := [8]) (by kernel_rfl) (by simp) ?_
                  refine AllReadyF.cons (by (simp only [List.getElem?_toArray, List.getElem?_cons_succ, List.getElem?_cons_zero]; rfl)) (fun K hK => ?_) AllReadyF.nil
                  go_simp
                  go_at_call 18
                  refine (HVN2.out _ (r6r.below (hHeld.1.2.2.2.2.2)).lt).mono ?_
                  rintro e wa ⟨rfl, ba⟩
                  refine hK.out _ _ ⟨keep5q ba hHeld.1, trivial⟩ (fun hNew => ?_)
                  clear hK K hHeld
                  have hHeld := hNew
                  clear hNew
                  try simp only [Act.put, List.setIfInBounds_toArray, List.set_cons_zero, List.set_cons_succ]
                  refine wpAnyF_ready (rs := [11]) (by kernel_rfl) (by simp) ?_
                  refine AllReadyF.cons (by (simp only [List.getElem?_toArray, List.getElem?_cons_succ, List.getElem?_cons_zero]; rfl)) (fun K hK => ?_) AllReadyF.nil
                  go_simp
                  go_at_call 18
                  refine (HVM2.out _ (rmr.below (hHeld.1.2.2.2.2.2)).lt).mono ?_
                  rintro e wb ⟨rfl, bb⟩
                  refine hK.out _ _ ⟨keep5q bb hHeld.1, trivial⟩ (fun hNew => ?_)
                  clear hK K hHeld
                  have hHeld := hNew
                  clear hNew
                  try simp only [Act.put, List.setIfInBounds_toArray, List.set_cons_zero, List.set_cons_succ]
                  refine wpAnyF_take (i := 12) (v := ?_) (by (simp only [List.getElem?_toArray, List.getElem?_cons_succ, List.getElem?_cons_zero]; rfl)) (by kernel_rfl) (by kernel_rfl) (by kernel_rfl) (by decide) (by exact fun _ _ _ h => h) ⟨hHeld.1, .inr hHeld.2⟩ (Or.inl ⟨by rfl, ?_⟩) ?_
                  rotate_left
                  · (intro w' _; go_simp <;> with_reducible rfl)
                  try simp only [Act.put, List.setIfInBounds_toArray, List.set_cons_zero, List.set_cons_succ]
                  refine wpAnyF_take (i := 13) (v := ?_) (by (simp only [List.getElem?_toArray, List.getElem?_cons_succ, List.getElem?_cons_zero]; rfl)) (by kernel_rfl) (by kernel_rfl) (by kernel_rfl) (by decide) (by exact fun _ _ _ h => h) ⟨hHeld.1, .inr hHeld.2⟩ (Or.inl ⟨by rfl, ?_⟩) ?_
                  rotate_left
                  · (intro w' _; go_simp <;> with_reducible rfl)
                  try simp only [Act.put, List.setIfInBounds_toArray, List.set_cons_zero, List.set_cons_succ]
                  refine wpAnyF_done (by kernel_rfl) ?_ _
                  have bE := hHeld.1.2.2.2.2.2
                  have hb2 := hb.trans (bE.mono hz)
                  go_wp2
                  go_roundw
                  case rel => exact ⟨i + 1, by omega, by go_num, hb2⟩
                  case measure => simp [intOf]; omega
              · have B2 := B.trans (hb.mono B.size)
                obtain rfl : i = 7 := by omega
                go_wp2
                go_ret
                exact ⟨rfl, B2⟩
      · have hS0 := HZ.out.1 hc
        have h1 : (C != 0) = true := bne_iff_ne.2 hc
        have hS1 : n.cs.length = 0 := by rw [hS0]; rfl
        have h2 : ((n.cs.length : Int) == 0) = true := by rw [hS1]; rfl
        clear hS0 hS1 hc HZ
        go_wp2
        go_ret
        exact ⟨ret_bool (by simp [*]), B⟩
  · go_enter Try.func3, Try.ntmps3
    go_wp2_with fail
    refine (lwBig_yes l A c w hL hl).mono ?_
    rintro e w0 ⟨rfl, rfl⟩
    go_wp2
    go_ret
    exact ⟨rfl, Below.refl _ _⟩
end Go.Proofs.Ytifijhfeeammkaa
