/- HexOf of the program. -/
import Derived.Test.YtmdaianbhpppfaaGreatDoorFmt16
import Derived.Test.YtmdaianbhpppfaaGreatDoorGTxB
import Derived.Test.YtmdaianbhpppfaaGreatDoorGEv
import Derived.Lib.ItoaNum
namespace Go.Proofs.YtmdaianbhpppfaaGreatDoor
open Go.RowKit

set_option maxRecDepth 100000 in
theorem isFmt16_any (N : Nat) (w : World) (hN : N ≤ 999999) (hT : Db w) :
    Calls Tryz.prog 60 #[.int .i64 N, .int .i64 16] w fun e w' => e = .returned (.string (strOfNums (digL 16 N))) ∧ Below w.heap.size w w' := by
  have hC := fmtBits_any N w hN hT
  have s1 : IntKind.u64.wrap (N : Int) = N := IntWalk.u64_in _ (by omega)
  generalize strOfNums (digL 16 N) = S at hC ⊢
  go_enter Tryz.func60, Tryz.ntmps60
  go_wp2_with fail
  refine hC.mono ?_
  rintro e w' ⟨rfl, hb⟩
  go_wp2
  go_ret
  exact ⟨rfl, hb⟩
set_option maxRecDepth 100000 in
theorem fmt16_any (N : Nat) (w : World) (hN : N ≤ 999999) (hT : Db w) :
    Calls Tryz.prog 37 #[.int .i64 N, .int .i64 16] w fun e w' => e = .returned (.string (strOfNums (digL 16 N))) ∧ Below w.heap.size w w' := by
  have hC := isFmt16_any N w hN hT
  go_enter Tryz.func37, Tryz.ntmps37
  go_wp2_with fail
  refine hC.mono ?_
  rintro e w' ⟨rfl, hb⟩
  go_wp2
  go_ret
  exact ⟨rfl, hb⟩
/-- A number in decimal, as the library has it. -/
theorem dec_text : ∀ (f n : Nat), n < f → (⟨(Lib.decDigits n).toArray⟩ : ByteArray) = strOfNums (digL 10 n)
  | 0, n, h => by omega
  | f + 1, n, h => by
    by_cases hn : n < 10
    · rw [Lib.decDigits, dif_pos hn, digL_few hn]
      unfold strOfNums dg
      rw [if_pos hn]
      simp only [List.map_cons, List.map_nil, show ((48 : Int) + (n : Int)).toNat = 48 + n by omega]
    · have ih := dec_text f (n / 10) (by omega)
      have hm := Nat.mod_lt n (show 0 < 10 by omega)
      rw [Lib.decDigits, dif_neg hn, digL_more (by omega) hn]
      unfold strOfNums at ih ⊢
      have ih' := congrArg (fun s : ByteArray => s.data.toList) ih
      simp only at ih'
      rw [ih', List.map_append]
      unfold dg
      rw [if_pos hm]
      simp only [List.map_cons, List.map_nil, show ((48 : Int) + ((n % 10 : Nat) : Int)).toNat = 48 + n % 10 by omega]
theorem itoa_text (n : Nat) : (⟨(Lib.itoa n).toArray⟩ : ByteArray) = strOfNums (digL 10 n) := by
  unfold Lib.itoa
  rw [if_neg (by omega), Int.toNat_natCast]
  exact dec_text (n + 1) n (by omega)

set_option maxRecDepth 100000 in
set_option maxHeartbeats 800000 in
theorem HexOf_any (n : Int) (w : World) (hT : Db w) :
    Calls Tryz.prog 10 #[.int .i64 n] w fun e w' => e = .returned (txtV (hxC n) (hxL n)) ∧ Below w.heap.size w w' := by
  by_cases h : 0 ≤ n ∧ n ≤ 999999
  · obtain ⟨N, rfl⟩ : ∃ N : Nat, n = N := ⟨n.toNat, by omega⟩
    have hl := digL_len (b := 16) (by omega) 4 N (by omega)
    have p0 := fun w => run_sadd (P := Tryz.prog) (l := [48, 120]) (m := digL 16 N) (by simp only [List.length_cons, List.length_nil]; omega) w
    have e1 : hxC (N : Int) = 0 := by unfold hxC; rw [if_pos h]
    have e2 : hxL (N : Int) = [48, 120] ++ digL 16 N := by unfold hxL; rw [if_pos h, Int.toNat_natCast]
    rw [e1, e2]
    have hC := fun w h => fmt16_any N w (by omega) h
    generalize [48, 120] ++ digL 16 N = E at p0 ⊢
    generalize digL 16 N = D at p0 hC
    have p1 : ∀ w, (Op.stringOp .add ({ data := #[48, 120] } : ByteArray) (strOfNums D)).run Tryz.prog w = .ok (.string (strOfNums E)) w := p0
    obtain ⟨o, ho⟩ : ∃ o, o = Obj.cells #[.int .i64 0, .string { data := #[] }] 27 := ⟨_, rfl⟩
    clear p0 hl e1 e2
    go_enter Tryz.func10, Tryz.ntmps10
    go_wp2_with fail
    refine (allWithin_one _ _ _ _ _ _ (by simp [go_sem]) h).mono ?_
    rintro e w2 ⟨rfl, rfl⟩
    rw [← ho]
    have hb1 : Below (w.alloc o).heap.size (w.alloc o) ((w.alloc o).alloc (Obj.cells #[.int .i64 N] 2)) := (Below.refl _ _).alloc (Nat.le_refl _) _
    generalize (w.alloc o).alloc (Obj.cells #[.int .i64 N] 2) = w1 at hb1 ⊢
    go_wp2_with fail
    refine (hC w1 (hT.on (below_alloc hb1))).mono ?_
    rintro e w2 ⟨rfl, hb2⟩
    have hb := hb1.trans (hb2.mono hb1.size)
    rw [ho] at hb
    have r0 := res_cell hb 0
    have r1 := res_cell hb 1
    have r2 := res_frozen hb 0
    have r3 := res_frozen hb 1
    have hbw := below_alloc hb
    clear hb hb1 hb2 ho hC
    go_wp2
    refine bodyPost_ret (v := txtV 0 E) (by simp [results, Tryz.results10, go_sem, r0, r1]) rfl ?_
    exact ⟨rfl, (hbw.setCell (Nat.le_refl _) _).setCell (Nat.le_refl _) _⟩
  · have e1 : hxC n = 3 := by unfold hxC; rw [if_neg h]
    have e2 : hxL n = [] := by unfold hxL; rw [if_neg h]
    rw [e1, e2]
    have h' : n < 0 ∨ 999999 < n := by omega
    clear h
    go_enter Tryz.func10, Tryz.ntmps10
    go_wp2_with fail
    refine (allWithin_not _ _ _ _ _ _ (by simp [go_sem]) h').mono ?_
    rintro e w2 ⟨rfl, rfl⟩
    go_wp2
    go_returns
    exact ⟨rfl, by go_grown⟩

end Go.Proofs.YtmdaianbhpppfaaGreatDoor
