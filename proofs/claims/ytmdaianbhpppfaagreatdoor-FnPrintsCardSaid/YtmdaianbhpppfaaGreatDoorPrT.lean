/- PrintTrace of the program. -/
import Derived.Test.YtmdaianbhpppfaaGreatDoorEvTx
import Derived.Test.YtmdaianbhpppfaaGreatDoorGTxB
import Derived.Test.YtmdaianbhpppfaaGreatDoorBld
namespace Go.Proofs.YtmdaianbhpppfaaGreatDoor
open Go.RowKit

theorem itoa_any (n : Nat) (w : World) (hn : n < 100) :
    Calls Tryz.prog 28 #[.int .i64 n] w fun e w' => e = .returned (.string (strOfNums (digL 10 n))) ∧ w = w' := by
  refine (Tryz.strconv_Itoa_small n hn w).mono ?_
  rintro e w' ⟨rfl, rfl⟩
  exact ⟨by rw [dec_text (n + 1) n (by omega)], rfl⟩

set_option maxRecDepth 100000 in
set_option maxHeartbeats 6400000 in
theorem PrintTrace_any (t : List (List Ev)) (A : Option Addr) (c : Nat) (w : World) (hm : t.length ≤ maxLen) (h : RdT w w.heap.size A t) (hT : Tb w) :
    Calls Tryz.prog 6 #[.slice A t.length c] w fun e w' => e = .returned (txtV (trF t) (ptL t)) ∧ Below w.heap.size w w' := by
  have hC := hide (fun w h => implTrF_any t A c w hm h)
  unfold ptL
  obtain ⟨o, ho⟩ : ∃ o, o = Obj.cells #[.int .i64 0, .string { data := #[] }] 27 := ⟨_, rfl⟩
  have hb0 : Below w.heap.size w (w.alloc o) := (Below.refl _ _).alloc (Nat.le_refl _) o
  have h0 : RdT (w.alloc o) (w.alloc o).heap.size A t := (h.alloc (Nat.le_refl _) o).lt
  by_cases hF : trF t = 0
  · rw [if_pos hF]
    obtain ⟨h1, h4, hall⟩ := trT_zero hF
    have IT := hide (fun (n : Nat) w (hn : n < 10) => itoa_any n w (by omega))
    have ET := hide (fun e w (he : evF e = 0) (hT : Tb w) => (EventText_any e w hT).mono (fun r w' (hr : r = .returned (txtV (evF e) (etL e)) ∧ Below w.heap.size w w') => (show r = .returned (.agg #[.int .i64 0, .string (strOfNums (txE e))]) ∧ Below w.heap.size w w' by rw [hr.1]; unfold etL; rw [if_pos he, he]; exact ⟨rfl, hr.2⟩)))
    have WS := hide (fun B l m w h hm hl => WriteString_any B l m w h hm hl)
    have hd1 := dig_one (n := t.length) (by omega)
    have p0 := fun w => run_sadd (P := Tryz.prog) (l := [116, 114, 97, 99, 101, 32]) (m := digL 10 t.length) (by simp only [List.length_cons, List.length_nil]; omega) w
    have p1 := fun w => run_sadd (P := Tryz.prog) (l := [116, 114, 97, 99, 101, 32] ++ digL 10 t.length) (m := [10]) (by simp only [List.length_append, List.length_cons, List.length_nil]; omega) w
    have q0 : ∀ w, (Op.stringOp .add ({ data := #[116, 114, 97, 99, 101, 32] } : ByteArray) (strOfNums (digL 10 t.length))).run Tryz.prog w = .ok (.string (strOfNums ([116, 114, 97, 99, 101, 32] ++ digL 10 t.length))) w := p0
    have q1 : ∀ w, (Op.stringOp .add (strOfNums ([116, 114, 97, 99, 101, 32] ++ digL 10 t.length)) ({ data := #[10] } : ByteArray)).run Tryz.prog w = .ok (.string (strOfNums (trL t.length))) w := p1
    have HE := hide (prL_eq t)
    have HB := hide (prL_B8 t)
    have hlt := trL_len (n := t.length) (by omega)
    have hT8 := trL_B8 t.length
    have dg0 := fun w => IT.out t.length w (by omega)
    rw [hF] at hC ⊢
    generalize hPL : prL t = L at HE HB ⊢
    clear hPL
    generalize trL t.length = T at q1 HE hlt hT8
    generalize [116, 114, 97, 99, 101, 32] ++ digL 10 t.length = X1 at q0 q1
    generalize digL 10 t.length = D at q0 dg0
    clear p0 p1 hd1
    go_enter Tryz.func6, Tryz.ntmps6
    go_wp2_with fail
    rw [← ho]
    refine (hC.out _ h0).mono ?_
    rintro e w1 ⟨rfl, b1⟩
    have hb1 : Below w.heap.size w w1 := hb0.trans (b1.mono hb0.size)
    have hs0 := SB.new w1
    have z1 := b1.size
    have zo : (w.alloc o).heap.size = w.heap.size + 1 := by simp
    go_wp2_with fail
    refine (dg0 _).mono ?_
    rintro e w2 ⟨rfl, rfl⟩
    have bB0 : Below w1.heap.size w1 (w1.alloc (.cells #[.pointer none, .slice none 0 0] 49)) := (Below.refl _ _).alloc (Nat.le_refl _) _
    generalize w1.alloc (.cells #[.pointer none, .slice none 0 0] 49) = w2 at hs0 bB0 ⊢
    go_wp2_with fail
    refine (WS.out w1.heap.size [] T w2 hs0 hT8 (by simp; omega)).mono ?_
    rintro e w3 ⟨rfl, hs3, b3⟩
    rw [List.nil_append] at hs3
    have bB3 : Below w1.heap.size w1 w3 := bB0.trans b3
    clear hs0 bB0 b3 q0 q1 dg0
    go_wp2
    have hbB : ∀ W, Below w1.heap.size w1 W → Below w.heap.size w W := fun W hW => hb1.trans (hW.mono hb1.size)
    have hbA : ∀ W, Below w1.heap.size w1 W → Below (w.alloc o).heap.size (w.alloc o) W := fun W hW => b1.trans (hW.mono b1.size)
    rw [ho] at hbA
    have HbA := hide hbA
    have HbB := hide hbB
    clear hbA hbB b1 hb0 h0 ho
    go_loopw [5, 6, 8, 23] (fun _ _ _ i wr => ∃ k : Nat, k ≤ t.length ∧ i = .int .i64 k ∧ SB w1.heap.size (T ++ prS 0 (t.take k)) wr ∧ Below w1.heap.size w1 wr) (fun _ _ _ i _ => t.length - (intOf i).toNat)
    case atStart => exact ⟨0, Nat.zero_le _, rfl, by simpa [prS] using hs3, bB3⟩
    case round =>
      obtain ⟨k, hk, rfl, hs, hB⟩ := hrel
      by_cases hlt2 : k < t.length
      · have hbw := HbB.out _ hB
        obtain ⟨b, off, a, d, rfl, hbb, hc0, hle, hcm, hr⟩ := (h.below hbw).get hlt2
        have hlS := prS_few hF k
        have HP := hide (prS_take hlt2)
        have hst := hall _ (List.getElem_mem hlt2)
        have hlC := fun m => prC_few hst m
        have h8 := stF_8 hst
        have hev := fun m (hm : m < t[k].length) => evs_right hst t[k][m] (List.getElem_mem hm)
        have hco := coL_len (n := k) (by omega)
        have hc8 := coL_B8 k
        have hd1 := dig_one (n := k) (by omega)
        have p0 := fun w => run_sadd (P := Tryz.prog) (l := [99, 111, 114, 101, 32]) (m := digL 10 k) (by simp only [List.length_cons, List.length_nil]; omega) w
        have p1 := fun w => run_sadd (P := Tryz.prog) (l := [99, 111, 114, 101, 32] ++ digL 10 k) (m := [10]) (by simp only [List.length_append, List.length_cons, List.length_nil]; omega) w
        have q0 : ∀ w, (Op.stringOp .add ({ data := #[99, 111, 114, 101, 32] } : ByteArray) (strOfNums (digL 10 k))).run Tryz.prog w = .ok (.string (strOfNums ([99, 111, 114, 101, 32] ++ digL 10 k))) w := p0
        have q1 : ∀ w, (Op.stringOp .add (strOfNums ([99, 111, 114, 101, 32] ++ digL 10 k)) ({ data := #[10] } : ByteArray)).run Tryz.prog w = .ok (.string (strOfNums (coL k))) w := p1
        have dg0 := fun w => IT.out k w (by omega)
        have hX : (T ++ prS 0 (t.take k)).length ≤ 590 := by simp only [List.length_append]; omega
        have HX := hide (show T ++ prS 0 (t.take k) ++ coL k ++ prC t[k] = T ++ prS 0 (t.take (k + 1)) by rw [HP.out]; simp)
        generalize T ++ prS 0 (t.take k) = X4 at hs hX HX ⊢
        generalize coL k = CO at q1 hco hc8 HX
        generalize [99, 111, 114, 101, 32] ++ digL 10 k = X2 at q0 q1
        generalize digL 10 k = D2 at q0 dg0
        clear p0 p1 hd1 hlS hlt HP
        go_wp2_with fail
        refine (dg0 _).mono ?_
        rintro e w4 ⟨rfl, rfl⟩
        go_wp2_with fail
        refine (WS.out w1.heap.size X4 CO wr hs hc8 (by omega)).mono ?_
        rintro e w4 ⟨rfl, hs4, b4⟩
        have hB4 := hB.trans b4
        have hr4 := hr.below (b4.mono (by have := hb1.size; omega))
        clear q0 q1 dg0 hs b4 hB hc0 hr hbw
        go_wp2
        go_loopw [8, 35] (fun _ j wr => ∃ m : Nat, m ≤ t[k].length ∧ j = .int .i64 m ∧ SB w1.heap.size (X4 ++ CO ++ prC (t[k].take m)) wr ∧ Below w1.heap.size w4 wr) (fun _ j _ => t[k].length - (intOf j).toNat)
        case atStart => exact ⟨0, Nat.zero_le _, rfl, by simpa [prC] using hs4, Below.refl _ _⟩
        case round =>
          obtain ⟨m, hm, rfl, hs5, hB5⟩ := hrel
          by_cases hlt3 : m < t[k].length
          · obtain ⟨b3, off3, rfl, hbb3, d0, d1, d2⟩ := (hr4.below (hB5.mono (by have := hb1.size; omega))).get hlt3
            have hE := hev m hlt3
            have hll := txE_length hE
            have hlm := hlC m
            have HP := hide (prC_take hlt3)
            have hE8 := (txE_B8 t[k][m]).append (show B8 [10] from fun x hx => by simp only [List.mem_cons, List.not_mem_nil, or_false] at hx; omega)
            have p1 := fun w => run_sadd (P := Tryz.prog) (l := txE t[k][m]) (m := [10]) (by simp only [List.length_cons, List.length_nil]; omega) w
            have q1 : ∀ w, (Op.stringOp .add (strOfNums (txE t[k][m])) ({ data := #[10] } : ByteArray)).run Tryz.prog w = .ok (.string (strOfNums (txE t[k][m] ++ [10]))) w := p1
            have HY := hide (show X4 ++ CO ++ prC (t[k].take m) ++ (txE t[k][m] ++ [10]) = X4 ++ CO ++ prC (t[k].take (m + 1)) by rw [HP.out]; simp)
            have hly : (X4 ++ CO ++ prC (t[k].take m)).length ≤ 800 := by simp only [List.length_append]; omega
            have hlz : (txE t[k][m] ++ [10]).length ≤ 17 := by simp only [List.length_append, List.length_cons, List.length_nil]; omega
            have ev := fun w hT => ET.out t[k][m] w hE hT
            generalize X4 ++ CO ++ prC (t[k].take m) = Y3 at hs5 HY hly ⊢
            generalize txE t[k][m] ++ [10] = Z at q1 hE8 HY hlz
            generalize txE t[k][m] = Y4 at q1 ev
            have F1 := fun W => field_txt 0 (strOfNums Y4) W
            have hs6 := hs5.kept ((Below.refl _ _).alloc (Nat.le_refl _) (Obj.cells #[.int .i64 t[k][m].k, .int .i64 t[k][m].a, .int .i64 t[k][m].v] 39))
            have hB6 : Below w1.heap.size w4 (wr.alloc (Obj.cells #[.int .i64 t[k][m].k, .int .i64 t[k][m].a, .int .i64 t[k][m].v] 39)) := hB5.alloc (Nat.le_of_lt hs5.lt) _
            clear p1 HP hE hll hlm
            go_wp2_with fail
            generalize wr.alloc (Obj.cells #[.int .i64 t[k][m].k, .int .i64 t[k][m].a, .int .i64 t[k][m].v] 39) = w6 at hs6 hB6 ⊢
            refine (ev w6 (hT.on (HbB.out _ (hB4.trans hB6)))).mono ?_
            rintro e w7 ⟨rfl, b7⟩
            have hs7 := hs6.kept b7
            have hB7 := hB6.trans (b7.mono (Nat.le_of_lt hs6.lt))
            go_wp2_with fail
            refine (WS.out w1.heap.size Y3 Z w7 hs7 hE8 (by omega)).mono ?_
            rintro e w8 ⟨rfl, hs8, b8⟩
            have hB8 := hB7.trans b8
            clear hs7 hs6 hs5 hB6 hB7 b7 b8 d0 d1 d2 ev q1
            go_wp2
            go_roundw
            case rel => exact ⟨m + 1, by omega, by go_num, by rw [← HY.out]; exact hs8, hB8⟩
            case measure => simp [intOf]; omega
          · have HN := hide (show t[k].take m = t[k] from List.take_of_length_le (by omega))
            have hB6 := hB4.trans hB5
            go_wp2
            go_roundw
            case rel => exact ⟨k + 1, by omega, by go_num, by rw [← HX.out, ← HN.out]; exact hs5, hB6⟩
            case measure => simp [intOf]; omega
      · have HN := hide (show T ++ prS 0 (t.take k) = L by rw [HE.out, List.take_of_length_le (by omega)])
        rw [HN.out] at hs
        have hL8 := HB.out
        go_wp2_with fail
        refine (String_any w1.heap.size L wr hs hL8).mono ?_
        rintro e w9 ⟨rfl, b9⟩
        have hb := HbA.out _ (hB.trans b9)
        have r0 := res_cell hb 0
        have r1 := res_cell hb 1
        have r2 := res_frozen hb 0
        have r3 := res_frozen hb 1
        have hbw := below_alloc hb
        clear hb b9 hs hB
        go_wp2
        refine bodyPost_ret (v := txtV 0 L) (by simp [results, Tryz.results6, go_sem, r0, r1]) rfl ?_
        exact ⟨rfl, (hbw.setCell (Nat.le_refl _) _).setCell (Nat.le_refl _) _⟩
  · rw [if_neg hF]
    obtain ⟨F, hFF⟩ : ∃ F, F = trF t := ⟨_, rfl⟩
    rw [← hFF] at hF hC ⊢
    have f0 : (F != 0) = true := bne_iff_ne.2 hF
    clear hF hFF
    go_enter Tryz.func6, Tryz.ntmps6
    go_wp2_with fail
    rw [← ho]
    refine (hC.out _ h0).mono ?_
    rintro e w1 ⟨rfl, hb⟩
    rw [ho] at hb
    have r0 := res_cell hb 0
    have r1 := res_cell hb 1
    have r2 := res_frozen hb 0
    have r3 := res_frozen hb 1
    have hbw := below_alloc hb
    clear hb ho
    go_wp2
    refine bodyPost_ret (v := txtV F []) (by simp [results, Tryz.results6, go_sem, r0, r1]; rfl) rfl ?_
    exact ⟨rfl, (hbw.setCell (Nat.le_refl _) _).setCell (Nat.le_refl _) _⟩
end Go.Proofs.YtmdaianbhpppfaaGreatDoor
