/- Contracts of the draws of chapter 4: a trace and a block; a file. The contract of the draw of a file to read. -/
import Derived.Test.YtmnpiakcppcmgaaGreatDoorGDrawT
import Derived.Test.YtmnpiakcppcmgaaGreatDoorFilS
import Derived.Test.YtmnpiakcppcmgaaGreatDoorGRf
namespace Go.Proofs.YtmnpiakcppcmgaaGreatDoor
open Go.RowKit

/-- A trace to read, and a block. -/
def TrBPost (w : World) (e : Ending) (w' : World) : Prop := ∃ (t : List (List Ev)) (b : Int) (D : Option Addr) (d : Nat), e = .returned (.tuple #[.slice D t.length d, .int .i64 b]) ∧ 0 ≤ b ∧ b ≤ 9 ∧ t.length ≤ 5 ∧ (∀ x ∈ t, x.length ≤ 20) ∧ RdT w' w'.heap.size D t ∧ Below w.heap.size w w'

set_option maxHeartbeats 800000 in
theorem DrawEncodeTrace_any (HB : BentOk) (l : List Int) (A : Option Addr) (c : Nat) (w : World) (hl : l.length ≤ 1048576) (hR : Rd .u8 w w.heap.size A l) (b8 : B8 l) :
    Calls Tryz.prog 5 #[.slice A l.length c] w (TrBPost w) := by
  go_enter Tryz.func5, Tryz.ntmps5
  go_wp2_with fail
  refine (l1Source_any l A c w hR b8 hl).mono ?_
  rintro e w1 ⟨rfl, S1, B1⟩
  go_wp2_with fail
  refine (HB _ _ A c l w1 S1 (by omega)).mono ?_
  rintro e w2 ⟨t, D, d, rfl, ht, hall, hT, k2, hk2, S2, g2⟩
  have B2 := grown_from B1 g2 B1.size (Nat.le_refl _)
  go_wp2_with fail
  refine (l1Pick_any _ _ _ [1, 2, 3, 8, 0, 9] A c l _ _ (S2.alloc _) (by omega) (by simp) (by simp) (Bk.new _ _ _) (by have := S2.lt; omega)).mono ?_
  rintro e w3 ⟨r, rfl, hm, S3, g3⟩
  have G3 := grown_alloc g3
  have B3 := grown_from B2 G3 B2.size (Nat.le_refl _)
  have hr : 0 ≤ r ∧ r ≤ 9 := by simp at hm; omega
  clear hm
  go_wp2
  refine bodyPost_ret (v := .tuple #[.slice D t.length d, .int .i64 r]) (by simp [results, Tryz.results5, go_sem]) rfl ?_
  exact ⟨t, r, D, d, rfl, hr.1, hr.2, ht, hall, hT _ G3, B3⟩

/-- One row of a trace of the call's own: where it stands, as long as only the source goes on. -/
theorem OwnT.item {w : World} {base c : Nat} {A : Option Addr} {t : List (List Ev)} {us : List Value} (h : OwnT w base (.slice A t.length c) t us) {j g : Nat} (hj : j < t.length) (hg : g < base) :
    ∃ b a d, A = some ⟨b, 0, none⟩ ∧ t[j].length ≤ d ∧ d ≤ maxLen ∧ ∀ w2, w.grownBy w2 (some g) → w2.cell? ⟨b, j, none⟩ = some (.slice a t[j].length d) ∧ RdE w2 w2.heap.size a t[j] := by
  rcases h.row.2 with ⟨_, h0⟩ | ⟨b, cap, cur, h', _⟩
  · omega
  · simp only [Value.slice.injEq] at h'
    obtain ⟨rfl, _, rfl⟩ := h'
    obtain ⟨u, h1, h2, h3⟩ := h.rows j hj
    obtain ⟨a, d, rfl⟩ := own_shape h2
    have hcp := own_capE h2
    refine ⟨b, a, d, rfl, hcp.1, hcp.2, fun w2 G => ?_⟩
    have h' := h.kept G (fun k e => by simp at e; omega)
    refine ⟨?_, RdE.of_own (h2.kept G (own_sep fun k hk e => by have := h2.lt k hk; simp at e; omega))⟩
    rw [h'.row.cellAt j (by omega)]
    exact h1
theorem run_headE (A : Option Addr) (n k c : Nat) (l : Int) (w : World) (hl : l = k) (h : k ≤ c) : (Instr.slice 45 (.slice A n c) none (some (.int .i64 l)) none).run Tryz.prog w = .ok (.slice A k c) w := by
  subst hl
  simp [go_sem, h]
theorem run_cutE (A : Option Addr) (n k c : Nat) (l : Int) (w : World) (hl : l = k) (h : k ≤ n) : (Instr.slice 45 (.slice A n c) (some (.int .i64 l)) none none).run Tryz.prog w = .ok (.slice (cutE A k c) (n - k) (c - k)) w := by
  subst hl
  simp [go_sem, h, cutE]
theorem grw {w w' : World} {row : Option Nat} (hb : Below w.heap.size w w') : w.grownBy w' row := ⟨hb.os, hb.tape, hb.output, hb.size, fun k hk _ => hb.block k hk⟩
theorem frL_small {i : Int} {p : List Ev} (h : stF p = 0) : (frL i (packL 0 p)).length ≤ 8 + 18 * p.length := by
  have := pcsB_len i [p] (fun q hq => by simp at hq; rw [hq]; exact h)
  simpa [pcsB] using this

set_option maxRecDepth 100000 in
set_option maxHeartbeats 3200000 in
theorem l4Mixed_any (g k : Nat) (A : Option Addr) (c : Nat) (l : List Int) (w : World) (hS : Src w g A c l k) (hk : k ≤ 100) :
    Calls Tryz.prog 23 #[.pointer (some ⟨g, 0, none⟩)] w fun e w' => ∃ (xs : List Int) (D : Option Addr) (d : Nat), e = .returned (.slice D xs.length d) ∧ 9 ≤ xs.length ∧ xs.length ≤ 841 ∧ B8 xs ∧ w'.ownsRow w.heap.size 5 1 (.slice D xs.length d) xs.length (xs.map (Value.int .u8)) ∧ Went w g A c l k 290 w' := by
  obtain ⟨i0, hi, hz0, hz1, hz2⟩ := info_parts info_u8
  have hgl := hS.lt
  go_enter Tryz.func23, Tryz.ntmps23
  go_wp2_with fail
  refine (l2TraceR_any g k 8 A c l w hS hk (by omega)).mono ?_
  rintro e w1 ⟨t, us, D, d, rfl, ht1, ht4, hall, oT, k1, hk1, S1, G1⟩
  have hst : ∀ x ∈ t, stF x = 0 := fun x hx => by rw [stF_few (hall x hx).1]; exact evsF_of x (hall x hx).2
  have hsum := sumT_few hst
  have z1 := G1.size
  obtain ⟨n, hn⟩ : ∃ n, n = t.length := ⟨_, rfl⟩
  have hn4 : 1 ≤ n ∧ n ≤ 4 := by omega
  have ob : (w1.alloc (Obj.cells #[.int .u8 67, .int .u8 n] 5)).ownsRow w1.heap.size 5 1 (.slice (some ⟨w1.heap.size, 0, none⟩) 2 2) 2 (([67, (n : Int)] : List Int).map (Value.int .u8)) := World.ownsRow_lit w1 #[.int .u8 67, .int .u8 n] 2 (Nat.le_refl _) (by unfold maxLen; omega) rfl
  rw [← hn]
  have oT' := oT
  rw [← hn] at oT'
  have x2 : ([67, (n : Int)] : List Int).length = 2 := rfl
  have bx : B8 [67, (n : Int)] := fun x hx => by simp at hx; omega
  have Gl := World.grownBy_alloc w1 (Obj.cells #[.int .u8 67, .int .u8 n] 5) (some g)
  have Sl := S1.alloc (Obj.cells #[.int .u8 67, .int .u8 n] 5)
  have hg1 : g < w1.heap.size := by omega
  have CO := hide (fun W hW => l4Count_any t D d W (by omega) (fun l hl => by have := (hall l hl).1; omega) hW)
  have HN := hide hn
  obtain ⟨Y, hY⟩ : ∃ Y : List Int, Y = [67, (n : Int)] := ⟨_, rfl⟩
  rw [← hY] at ob x2 bx
  clear hY hn
  go_wp2
  go_loopw [4, 5, 17] (fun v q i wr => ∃ (j M k' : Nat) (xs : List Int), j ≤ n ∧ i = .int .i64 j ∧ q = .int .i64 M ∧ wr.ownsRow w1.heap.size 5 1 v xs.length (xs.map (Value.int .u8)) ∧ B8 xs ∧ 2 ≤ xs.length ∧ xs.length + 26 * sumT (t.drop j) ≤ 2 + 26 * 32 ∧ M + sumT (t.drop j) ≤ 32 ∧ k' + sumT (t.drop j) ≤ k1 + 32 ∧ Src wr g A c l k' ∧ w1.grownBy wr (some g)) (fun _ _ i _ => n - (intOf i).toNat)
  case atStart => exact ⟨0, 0, k1, Y, by omega, by go_num, by go_num, by rw [x2]; exact ob, bx, by omega, by rw [x2, List.drop_zero]; omega, by rw [List.drop_zero]; omega, by rw [List.drop_zero]; omega, Sl, Gl⟩
  case round =>
    obtain ⟨j, M, k', xs, hj, rfl, rfl, ho, hB, hx2, hxl, hM, hkk, hSr, hgr⟩ := hrel
    by_cases hlt : j < n
    · have hlt' : j < t.length := by rw [← HN.out]; exact hlt
      obtain ⟨b, a, e, hD, hle, hem, hit⟩ := oT.item hlt' hgl
      have hsd := sumT_drop t j hlt'
      rw [hsd] at hxl hM hkk
      have hev := (hall _ (List.getElem_mem hlt'))
      have q0 := (hit wr hgr).1
      have hrr := fun w2 hw => (hit w2 hw).2
      obtain ⟨es, hes⟩ : ∃ es, es = t[j] := ⟨_, rfl⟩
      rw [← hes] at hle q0 hrr hxl hM hkk hev
      obtain ⟨Z, hZ⟩ : ∃ Z, Z = sumT (t.drop (j + 1)) := ⟨_, rfl⟩
      rw [← hZ] at hxl hM hkk
      have HZ := hide hZ
      subst hD
      clear hes hit hsd hZ hst hall hlt'
      go_wp2
      go_loopw [4, 5, 7] (fun v q r wr2 => ∃ (es2 : List Ev) (a2 : Option Addr) (e2 M2 k2 : Nat) (xs2 : List Int), r = .slice a2 es2.length e2 ∧ q = .int .i64 M2 ∧ es2.length ≤ 8 ∧ (∀ y ∈ es2, evF y = 0) ∧ es2.length ≤ e2 ∧ e2 ≤ maxLen ∧ (∀ w2, w1.grownBy w2 (some g) → RdE w2 w2.heap.size a2 es2) ∧ wr2.ownsRow w1.heap.size 5 1 v xs2.length (xs2.map (Value.int .u8)) ∧ B8 xs2 ∧ 2 ≤ xs2.length ∧ xs2.length + 26 * (es2.length + Z) ≤ 2 + 26 * 32 ∧ M2 + (es2.length + Z) ≤ 32 ∧ k2 + (es2.length + Z) ≤ k1 + 32 ∧ Src wr2 g A c l k2 ∧ w1.grownBy wr2 (some g)) (fun _ _ r _ => match r with | .slice _ n _ => n | _ => 0)
      case atStart => exact ⟨es, a, e, M, k', xs, rfl, rfl, hev.1, hev.2, hle, hem, hrr, ho, hB, hx2, hxl, hM, hkk, hSr, hgr⟩
      case round =>
        obtain ⟨es2, a2, e2, M2, k2, xs2, rfl, rfl, h28, hev2, hle2, hem2, hr2, ho2, hB2, hy2, hyl, hM2, hk2, hS2, hg2⟩ := hrel
        clear ho hB hx2 hxl hM hkk hSr hgr q0 hrr hev hle hem
        by_cases hl2 : 0 < es2.length
        · have hsp : stF (es2.take (0 + 1)) = stF (es2.take (0 + 1)) := rfl
          clear hsp
          go_wp2_with fail
          refine (l1Next_any g k2 es2.length A c l _ hS2 (by omega) (by omega) (by omega)).mono ?_
          rintro e w3 ⟨r, rfl, r0, r1, S3, g3⟩
          obtain ⟨r, rfl⟩ := Int.eq_ofNat_of_zero_le r0
          have hrn : r + 1 ≤ es2.length := by omega
          clear r0 r1
          have hpl : (es2.take (r + 1)).length = r + 1 := by rw [List.length_take]; omega
          have hpe : ∀ y ∈ es2.take (r + 1), evF y = 0 := fun y hy => hev2 y (List.mem_of_mem_take hy)
          have hsp : stF (es2.take (r + 1)) = 0 := by rw [stF_few (by omega)]; exact evsF_of _ hpe
          have LP := hide (fun W hW => l3Pack_any j (es2.take (r + 1)) a2 e2 W (by omega) (by omega) hsp hW)
          have X8 := frL_B8 (k := (j : Int)) (by omega) (by omega) (packL_B8 (es2.take (r + 1)) 0 (stF_zero hsp).2 (by omega))
          have Xl := frL_small (i := (j : Int)) hsp
          have G3 := hg2.trans g3
          have rp := (hr2 w3 G3).take_ (r + 1)
          have ho3 := ho2.kept g3 (own_sep fun b hb e => by have := ho2.lt b hb; simp at e; omega)
          obtain ⟨X, hX⟩ : ∃ X, X = frL j (packL 0 (es2.take (r + 1))) := ⟨_, rfl⟩
          rw [hpl, ← hX] at LP
          rw [hpl, ← hX] at Xl
          rw [← hX] at X8
          have RH := fun W => run_headE a2 es2.length (r + 1) e2 (1 + (r : Int)) W (by omega) (by omega)
          have RC := fun W => run_cutE a2 es2.length (r + 1) e2 (1 + (r : Int)) W (by omega) hrn
          clear hX hpe hsp g3 hS2 hg2 ho2
          go_wp2_with fail
          refine (LP.out _ rp).mono ?_
          rintro e w4 ⟨A4, c4, rfl, O4⟩
          have z3 := S3.lt
          have r4 := Rd.of_own O4.1
          have ho4 := own_below ho3 O4.2 (by have := G3.size; omega)
          have S4 := S3.below O4.2 z3
          have G4 := G3.trans (grw O4.2)
          have z4 := G4.size
          clear O4 LP rp ho3 S3 G3 z3
          go_wp2_with (at_builtin; refine wpList_append_rd _ rfl (.tmp 34) (.tmp 39) 22 rfl w1.heap.size 5 i0 (.int .u8 0) 1 Tryz.underlying22 hi hz0 hz1 hz2 rfl .u8 _ _ _ rfl ho4 A4 X c4 _ rfl r4 (by unfold maxLen; omega) (by omega) z4 ?_; intro v5 w5 o5 g5 hat5; have S5 := S4.below (grown_below ho4 g5 (B := w1.heap.size) (by omega) (Nat.le_refl _)) (by omega); have G5 := G4.andThen g5 (fun i hi => .inl (ho4.lt i hi).1); clear g5 hat5 r4 ho4 S4 G4; have e5 : xs2.length + X.length = (xs2 ++ X).length := List.length_append.symm; rw [← List.map_append, e5] at o5)
          go_roundw
          case rel => exact ⟨es2.drop (r + 1), cutE a2 (r + 1) e2, e2 - (r + 1), M2 + 1, k2 + 1, xs2 ++ X, by rw [List.length_drop], by go_num, by rw [List.length_drop]; omega, fun y hy => hev2 y (List.mem_of_mem_drop hy), by rw [List.length_drop]; omega, by omega, fun w2 hw => (hr2 w2 hw).cut hrn hle2, o5, hB2.append X8, by rw [List.length_append]; omega, by rw [List.length_append, List.length_drop]; omega, by rw [List.length_drop]; omega, by rw [List.length_drop]; omega, S5, G5⟩
          case measure => simp; omega
        · have e0 : es2.length = 0 := by omega
          go_wp2
          go_roundw
          case rel => exact ⟨j + 1, M2, k2, xs2, by omega, by go_num, rfl, ho2, hB2, hy2, by rw [← HZ.out]; omega, by rw [← HZ.out]; omega, by rw [← HZ.out]; omega, hS2, hg2⟩
          case measure => simp [intOf]; omega
    · have hjn : sumT (t.drop j) = 0 := by rw [List.drop_of_length_le (by rw [← HN.out]; omega)]; rfl
      rw [hjn] at hxl hM hkk
      have hrT := (oT.kept hgr (fun b e => by simp at e; omega)).rd
      obtain ⟨D2, d2, hv2⟩ := own_shape ho
      subst hv2
      have z0 := hgr.size
      have hsT : 0 ≤ (sumT t : Int) ∧ sumT t ≤ 32 := by omega
      obtain ⟨T, hT⟩ : ∃ T, T = sumT t := ⟨_, rfl⟩
      rw [← hT] at CO hsT
      clear hT hjn
      have CO2 := CO.out _ hrT
      rw [← HN.out] at CO2
      go_wp2_with fail
      refine CO2.mono ?_
      rintro e w2 ⟨rfl, rfl⟩
      have r3 := Rd.of_own (k := .u8) (l := [69, (M : Int), (T : Int)]) (World.ownsRow_lit wr #[.int .u8 69, .int .u8 M, .int .u8 T] 3 (e := 5) (size := 1) (base := wr.heap.size) (Nat.le_refl _) (by unfold maxLen; omega) rfl)
      have bl := (Below.refl wr.heap.size wr).alloc (Nat.le_refl _) (Obj.cells #[.int .u8 69, .int .u8 M, .int .u8 T] 5)
      have od := own_below ho bl (by omega)
      have Sd := hSr.below bl hSr.lt
      have Gd := hgr.trans (grw bl)
      have zd := Gd.size
      have m8 : B8 [69, (M : Int), (T : Int)] := fun x hx => by simp at hx; omega
      clear bl ho hSr hgr CO hrT CO2
      go_wp2_with (at_builtin; refine wpList_append_rd _ rfl (.tmp 45) (.tmp 51) 22 rfl w1.heap.size 5 i0 (.int .u8 0) 1 Tryz.underlying22 hi hz0 hz1 hz2 rfl .u8 (.slice D2 xs.length d2) _ _ rfl od (some ⟨wr.heap.size, 0, none⟩) [69, (M : Int), (T : Int)] 3 _ rfl r3 (by unfold maxLen; simp; omega) (by simp; omega) zd ?_; intro v4 w4 o4 g4 hat4; have S4 := Sd.below (grown_below od g4 (B := w1.heap.size) (by omega) (Nat.le_refl _)) (by omega); have G4 := Gd.andThen g4 (fun i hi => .inl (od.lt i hi).1); clear g4 hat4 r3 od Sd Gd; have e4 : xs.length + ([69, (M : Int), (T : Int)] : List Int).length = (xs ++ [69, (M : Int), (T : Int)]).length := List.length_append.symm; rw [← List.map_append, e4] at o4; clear e4; obtain ⟨D4, d4, hv4⟩ := own_shape o4; rw [hv4] at o4; rw [hv4]; clear hv4)
      have h8 := hB.append m8
      have hl3 : (xs ++ [69, (M : Int), (T : Int)]).length = xs.length + 3 := by simp
      obtain ⟨H, hH⟩ : ∃ H, H = xs ++ [69, (M : Int), (T : Int)] := ⟨_, rfl⟩
      rw [← hH] at o4 h8 hl3
      have CR := hide (l1Crc_any H D4 d4 w4 (by omega) (Rd.of_own o4) h8)
      have hcv : ((crcS 4294967295 H ^^^ 4294967295 : Nat) : Int) = crcV H := by unfold crcV; rw [if_pos (by omega)]
      rw [hcv] at CR
      have hbd := crcV_bd h8
      obtain ⟨V, hV⟩ : ∃ V, V = crcV H := ⟨_, rfl⟩
      rw [← hV] at CR hbd
      have FO := hide (fun W => l1Four_any V W hbd)
      have v8 := fourL_B8 hbd
      have e6 : xs.length + 3 + (fourL V).length = (H ++ fourL V).length := by rw [List.length_append, hl3]
      have l4 := fourL_length V
      clear hV hcv m8 hB
      clear hH
      rw [← hl3]
      refine CR.out.mono ?_
      rintro e w5 ⟨rfl, rfl⟩
      go_wp2_with fail
      refine (FO.out _).mono ?_
      rintro e w5 ⟨g5, rfl, o5, b5⟩
      have o6 := own_below o4 b5 (by have := G4.size; omega)
      rw [hl3] at o6
      have S6 := S4.below b5 S4.lt
      have G6 := G4.trans (grw b5)
      have z6 := G6.size
      clear b5 o4 S4 G4 CR FO
      go_wp2_with (at_builtin; refine wpList_append_rd _ rfl (.tmp 53) (.tmp 56) 22 rfl w1.heap.size 5 i0 (.int .u8 0) 1 Tryz.underlying22 hi hz0 hz1 hz2 rfl .u8 (.slice D4 (xs.length + 3) d4) _ _ rfl o6 (some ⟨g5, 0, none⟩) (fourL V) 4 _ rfl (Rd.of_own o5) (by unfold maxLen; omega) (by omega) z6 ?_; intro v7 w7 o7 g7 hat7; have S7 := S6.below (grown_below o6 g7 (B := w1.heap.size) (by omega) (Nat.le_refl _)) (by omega); have G7 := G6.andThen g7 (fun i hi => .inl (o6.lt i hi).1); clear g7 hat7 o6 S6 G6 o5; rw [← List.map_append, e6] at o7; obtain ⟨D7, d7, hv7⟩ := own_shape o7; rw [hv7] at o7; rw [hv7]; clear hv7)
      go_wp2_with fail
      go_ret
      have e8 : (H ++ fourL V).length = xs.length + 3 + 4 := by rw [← e6, l4]
      exact ⟨H ++ fourL V, D7, d7, by rw [e8]; rfl, by omega, by omega, h8.append v8, own_mono o7 z1, k', by omega, S7, G1.trans G7⟩
end Go.Proofs.YtmnpiakcppcmgaaGreatDoor
namespace Go.Proofs.YtmnpiakcppcmgaaGreatDoor
open Go.RowKit

theorem made_u8F (n : Nat) : (madeCells (Value.int .u8 0).cells (n * 1)).toList = List.replicate n (Value.int .u8 0) := by
  apply List.ext_getElem
  · simp [madeCells]
  · intro i h1 h2
    simp [madeCells, Value.cells, Nat.mod_one]

set_option maxRecDepth 100000 in
set_option maxHeartbeats 1600000 in
theorem DrawDecodeTrace_any (l : List Int) (A : Option Addr) (c : Nat) (w : World) (hl : l.length ≤ 1048576) (hR : Rd .u8 w w.heap.size A l) (b8 : B8 l) :
    Calls Tryz.prog 7 #[.slice A l.length c] w (BytPost w.heap.size 2010 w) := by
  obtain ⟨i0, hi, hz0, hz1, hz2⟩ := info_parts info_u8
  go_enter Tryz.func7, Tryz.ntmps7
  go_wp2_with fail
  refine (l1Source_any l A c w hR b8 hl).mono ?_
  rintro e w1 ⟨rfl, S1, B1⟩
  have z1 := S1.lt
  go_wp2_with fail
  refine (l4Mixed_any _ _ A c l w1 S1 (by omega)).mono ?_
  rintro e w2 ⟨xs, D, d, rfl, x9, xm, x8, o2, k2, hk2, S2, g2⟩
  have B2 := grown_from B1 g2 B1.size (Nat.le_refl _)
  have z2 := g2.size
  clear g2 S1 B1
  go_wp2_with fail
  refine (l1Next_any _ _ 6 A c l _ S2 (by omega) (by omega) (by omega)).mono ?_
  rintro e w3 ⟨s, rfl, s0, s1, S3, g3⟩
  have o3 := o2.kept g3 (own_sep fun b hb e => by have := o2.lt b hb; simp at e; omega)
  have B3 := grown_from B2 g3 B2.size (Nat.le_refl _)
  have z3 := g3.size
  have hcp := own_capE o3
  clear g3 S2 s1 B2 o2
  by_cases e0 : s = 0
  · subst e0
    go_wp2_with fail
    refine (l2SpoilN_any _ _ w1.heap.size w.heap.size A c l w3 S3 (by omega) xs D d 841 (by omega) xm x8 o3 z1 (by omega) (Nat.le_refl _)).mono ?_
    rintro e w4 ⟨ys, D4, d4, rfl, y1, y2, y3, y4, y5⟩
    go_wp2
    go_ret
    exact ⟨ys, D4, d4, rfl, by omega, y2, y3, y4, B3.trans y5⟩
  · by_cases e1 : s = 1
    · subst e1
      clear e0
      have oh := own_head o3 (q := xs.length - 4) (by omega)
      rw [← List.map_take] at oh
      have hh : (xs.take (xs.length - 4)).length = xs.length - 4 := by rw [List.length_take]; omega
      have h8 := x8.take (xs.length - 4)
      obtain ⟨H, hH⟩ : ∃ H, H = xs.take (xs.length - 4) := ⟨_, rfl⟩
      rw [← hH] at oh hh h8
      have RH := fun W => run_head D xs.length (xs.length - 4) d ((xs.length : Int) - 4) W (by omega) (by omega)
      have SP := hide (l2SpoilO_any _ _ w1.heap.size w.heap.size A c l w3 S3 (by omega) H D d 841 (by omega) (by omega) h8 (by rw [hh]; exact oh) z1 (by omega) (Nat.le_refl _))
      rw [hh] at SP
      clear hH o3 oh
      go_wp2_with fail
      refine SP.out.mono ?_
      rintro e w4 ⟨ys, D4, d4, rfl, y1, y8, o4, b4⟩
      have B4 := B3.trans b4
      have hcv : ((crcS 4294967295 ys ^^^ 4294967295 : Nat) : Int) = crcV ys := by unfold crcV; rw [if_pos (by omega)]
      have CR := hide (l1Crc_any ys D4 d4 w4 (by omega) (Rd.of_own o4) y8)
      rw [hcv] at CR
      have hbd := crcV_bd y8
      obtain ⟨V, hV⟩ : ∃ V, V = crcV ys := ⟨_, rfl⟩
      rw [← hV] at CR hbd
      have FO := hide (fun W => l1Four_any V W hbd)
      have v8 := fourL_B8 hbd
      have e6 : ys.length + (fourL V).length = (ys ++ fourL V).length := List.length_append.symm
      have l4 := fourL_length V
      have z4 := b4.size
      clear hV hcv SP b4 B3
      go_wp2_with fail
      refine CR.out.mono ?_
      rintro e w5 ⟨rfl, rfl⟩
      go_wp2_with fail
      refine (FO.out _).mono ?_
      rintro e w5 ⟨g5, rfl, o5, b5⟩
      have o6 := own_below o4 b5 (by omega)
      have B6 := B4.trans (b5.mono B4.size)
      have z6 := b5.size
      clear b5 o4 CR FO B4
      go_wp2_with (at_builtin; refine wpList_append_rd _ rfl (.tmp 25) (.tmp 28) 22 rfl w1.heap.size 5 i0 (.int .u8 0) 1 Tryz.underlying22 hi hz0 hz1 hz2 rfl .u8 (.slice D4 ys.length d4) _ _ rfl o6 (some ⟨g5, 0, none⟩) (fourL V) 4 _ rfl (Rd.of_own o5) (by unfold maxLen; omega) (by omega) (by omega) ?_; intro v7 w7 o7 g7 hat7; have B7 := B6.trans (grown_below o6 g7 (B := w.heap.size) (by omega) (by omega)); clear g7 hat7 o6 o5 B6; rw [← List.map_append, e6] at o7; obtain ⟨D7, d7, hv7⟩ := own_shape o7; rw [hv7] at o7; rw [hv7]; clear hv7)
      have c7 := own_capE o7
      have HO := hide o7
      have HY := hide e6
      clear o7 e6
      go_wp2_with fail
      go_ret
      have e8 : (ys ++ fourL V).length = ys.length + 4 := by rw [← HY.out, l4]
      exact ⟨ys ++ fourL V, D7, d7, by first | rfl | (rw [e8]; rfl), by omega, c7.1, y8.append v8, Rd.of_own HO.out, B7⟩
    · by_cases e2 : s = 2
      · subst e2
        clear e0 e1
        go_wp2_with fail
        refine (l1Pick_any _ _ _ [0, 1, 4, 5] A c l _ _ (S3.alloc _) (by omega) (by simp) (by simp) (Bk.new _ _ _) (by have := S3.lt; omega)).mono ?_
        rintro e w4 ⟨v, rfl, hv, S4, g4⟩
        have o4 := (o3.alloc (.cells #[.int .i64 0, .int .i64 1, .int .i64 4, .int .i64 5] 2)).kept g4 (own_sep fun b hb e => by have := o3.lt b hb; simp at e; omega)
        have B4 := grown_from B3 (grown_alloc g4) B3.size (Nat.le_refl _)
        have hv' : 0 ≤ v ∧ v < 256 := by simp at hv; omega
        obtain ⟨hv0, hv1⟩ := hv'
        obtain ⟨gb, rfl⟩ : ∃ g, D = some ⟨g, 0, none⟩ := by
          rcases o4.2 with ⟨h', h''⟩ | ⟨g, cap, cur, h', _⟩
          · omega
          · simp only [Value.slice.injEq, true_and] at h'
            exact ⟨g, h'.1⟩
        have hf := o4.frozenAt 1
        obtain ⟨x, hc⟩ : ∃ v, w4.cell? ⟨gb, 1, none⟩ = some v := by
          rw [o4.cellAt 1 (by omega)]
          exact ⟨_, List.getElem?_eq_getElem (by rw [o4.1]; omega)⟩
        have hst := o4.stored 1 (.int .u8 v)
        have hgb2 := (o4.lt gb rfl).1
        have HS := hide hst.1
        have HB := hide (B4.setCell (p := ⟨gb, 1, none⟩) (by simp only; omega) (.int .u8 v))
        clear hst hv o3 o4 B3 B4 S3 S4 g4
        go_wp2
        go_ret
        have hrow' := HS.out
        rw [show (xs.map (Value.int IntKind.u8)).set 1 (.int .u8 v) = (xs.set 1 v).map (Value.int .u8) by rw [List.map_set]] at hrow'
        exact ⟨xs.set 1 v, some ⟨gb, 0, none⟩, d, (by rw [List.length_set]; rfl), by rw [List.length_set]; omega, by rw [List.length_set]; exact hcp.1, x8.set_ 1 hv0 hv1, Rd.of_own hrow', HB.out⟩
      · by_cases e3 : s = 3
        · subst e3
          clear e0 e1 e2
          go_wp2_with fail
          refine (l1Chance_any _ _ 12 A c l _ S3 (by omega) (by omega) (by omega)).mono ?_
          rintro e w4 ⟨b, rfl, S4, g4⟩
          have o4 := o3.kept g4 (own_sep fun b hb e => by have := o3.lt b hb; simp at e; omega)
          have B4 := grown_from B3 g4 B3.size (Nat.le_refl _)
          clear g4 o3 B3 S3
          cases b with
          | false =>
            have HO := hide o4
            clear o4
            go_wp2
            go_ret
            exact ⟨xs, D, d, rfl, by omega, hcp.1, x8, Rd.of_own HO.out, B4⟩
          | true =>
            clear o4
            go_wp2_with fail
            refine (l1Pick_any _ _ _ [2000, 2001] A c l _ _ (S4.alloc _) (by omega) (by simp) (by simp) (Bk.new _ _ _) (by have := S4.lt; omega)).mono ?_
            rintro e w5 ⟨r, rfl, hm, S5, g5⟩
            have hm' : r = 2000 ∨ r = 2001 := by simpa using hm
            obtain ⟨n, rfl⟩ := Int.eq_ofNat_of_zero_le (show 0 ≤ r by omega)
            have hn : n ≤ 2001 := by omega
            have B5 := grown_from B4 (grown_alloc g5) B4.size (Nat.le_refl _)
            clear hm hm' g5 B4 S4 S5
            go_wp2_with (at_make; refine wpList_make_full _ rfl _ _ 22 rfl w5.heap.size 5 i0 (.int .u8 0) 1 Tryz.underlying22 hi hz0 hz1 .i64 .i64 _ _ n rfl rfl rfl rfl (by rw [hz2]; omega) (by unfold maxLen; omega) (Nat.le_refl _) ?_; intro w6 hown hg)
            rw [made_u8F] at hown
            have B6 := B5.trans (((Below.refl _ _).grown hg (Nat.le_refl _) (by simp)).mono B5.size)
            have hmap : List.replicate n (Value.int IntKind.u8 0) = (List.replicate n 0).map (Value.int .u8) := by rw [List.map_replicate]
            rw [hmap] at hown
            have HL := hide (show (List.replicate n (0 : Int)).length = n from List.length_replicate)
            have HO := hide hown
            clear hg hmap hown
            go_wp2
            go_ret
            have ho := HO.out
            have hr := Rd.of_own (k := .u8) (l := List.replicate n 0) ho
            exact ⟨List.replicate n 0, some ⟨w5.heap.size, 0, none⟩, n, (by rw [HL.out]; rfl), by rw [HL.out]; omega, by rw [HL.out]; exact Nat.le_refl _, fun x hx => by rw [List.eq_of_mem_replicate hx]; omega, hr, B6⟩
        · have b0 : (s == 0) = false := beq_eq_false_iff_ne.2 e0
          have b1 : (s == 1) = false := beq_eq_false_iff_ne.2 e1
          have b2 : (s == 2) = false := beq_eq_false_iff_ne.2 e2
          have b3 : (s == 3) = false := beq_eq_false_iff_ne.2 e3
          have HO := hide o3
          clear e0 e1 e2 e3 o3
          go_wp2
          go_ret
          exact ⟨xs, D, d, rfl, by omega, hcp.1, x8, Rd.of_own HO.out, B3⟩
end Go.Proofs.YtmnpiakcppcmgaaGreatDoor
