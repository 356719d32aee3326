/- What the laws' walks rest upon, part 5. -/
import Derived.Test.YtnnfkmjhaljplaaGreatM02
import Derived.Test.YtnnfkmjhaljplaaGreatM04
import Derived.Test.YtnnfkmjhaljplaaGreatM01
import Derived.StillTailTactics
import Derived.Lib.Hide
namespace Go.Proofs.YtnnfkmjhaljplaaGreat
open Go.RowKit
theorem grown_row {w w1 w2 : World} {g : Nat} {row : Option Nat} (h : w.grownBy w1 (some g)) (hg : w1.grownBy w2 row) (hr : ∀ b, row = some b → w.heap.size ≤ b) : w.grownBy w2 (some g) :=
  ⟨hg.os.trans h.os, hg.tape.trans h.tape, hg.output.trans h.output, Nat.le_trans h.size hg.size, fun k hk hne => by
    have h1 := h.size
    refine (hg.block k (by omega) (fun e => ?_)).trans (h.block k hk hne)
    have := hr k e.symm
    omega⟩
def I64s (l : List Int) : Prop := ∀ p ∈ l, I64 p
theorem I64s.snoc {l : List Int} {x : Int} (h : I64s l) (hx : I64 x) : I64s (l ++ [x]) := fun p hp => by
  rcases List.mem_append.1 hp with a | a
  · exact h p a
  · simp at a; rw [a]; exact hx
/-- What is drawn: picks in a row of the call's own. -/
def PksPost (w : World) (g : Nat) (A : Option Addr) (c : Nat) (l : List Int) (k : Nat) (e : Ending) (w' : World) : Prop :=
  ∃ (ps : List Int) (D : Option Addr) (d : Nat), e = .returned (.slice D ps.length d) ∧ ps.length ≤ 101 ∧ I64s ps ∧ w'.ownsRow w.heap.size 2 1 (.slice D ps.length d) ps.length (ps.map (Value.int .i64)) ∧ Went w g A c l k 50 w'
set_option maxRecDepth 100000 in
set_option maxHeartbeats 1600000 in
theorem l6Picks_any (g k : Nat) (A : Option Addr) (c : Nat) (l : List Int) (w : World) (hS : Src w g A c l k) (hk : k ≤ 1000) :
    Calls Tryz.prog 22 #[.pointer (some ⟨g, 0, none⟩)] w (PksPost w g A c l k) := by
  unfold PksPost
  obtain ⟨i0, hi, hz0, hz1, hz2⟩ := info_parts info_i64
  have hgl := hS.lt
  have row0 : (w.alloc (Obj.cells #[] 2)).ownsRow w.heap.size 2 1 (.slice (some ⟨w.heap.size, 0, none⟩) 0 0) 0 [] := World.ownsRow_lit w #[] 0 (Nat.le_refl _) (by simp) rfl
  have S0 := hS.alloc (Obj.cells #[] 2)
  have G0 : w.grownBy (w.alloc (Obj.cells #[] 2)) (some g) := World.grownBy_alloc _ _ _
  go_enter Tryz.func22, Tryz.ntmps22
  obtain ⟨W, hW⟩ : ∃ W, W = w.alloc (Obj.cells #[] 2) := ⟨_, rfl⟩
  have zW : W.heap.size = w.heap.size + 1 := by rw [hW]; simp
  rw [← hW] at row0 S0 G0
  have HW := hide hW
  have HZ := hide zW
  clear hW zW
  go_wp2_with fail
  rw [← HW.out, ← HZ.out]
  have zW := HZ.out
  refine (l1Pick_any g k _ [0, 5, 20, 40] A c l _ _ (S0.alloc _) (by omega) (by simp) (by simp) (Bk.new _ _ _) (by simp; omega)).mono ?_
  rintro e w1 ⟨n, rfl, hn, S1, g1⟩
  have G1 := G0.trans (grown_alloc g1)
  have row1 := (row0.alloc (Obj.cells #[.int .i64 0, .int .i64 5, .int .i64 20, .int .i64 40] 2)).kept g1 (own_sep fun b hb e => by simp only [Value.ownBlock, Option.some.injEq] at hb; simp at e; omega)
  obtain ⟨N, rfl⟩ : ∃ N : Nat, n = (N : Int) := Int.eq_ofNat_of_zero_le (by simp at hn; omega)
  have hN : N ≤ 40 := by simp at hn; omega
  clear hn g1 row0 S0 G0
  go_wp2
  go_loopw [3, 4] (fun v i wr => ∃ (m k' : Nat) (xs : List Int), i = .int .i64 m ∧ xs.length + m ≤ 40 ∧ k' + m ≤ k + 41 ∧ wr.ownsRow w.heap.size 2 1 v xs.length (xs.map (Value.int .i64)) ∧ Hid (I64s xs) ∧ Src wr g A c l k' ∧ w.grownBy wr (some g)) (fun _ i _ => (intOf i).toNat)
  case atStart => exact ⟨N, k + 1, [], rfl, by simpa using hN, by omega, by simpa using row1, hide (fun p hp => by simp at hp), S1, G1⟩
  case round =>
    obtain ⟨m, k', xs, rfl, hxm, hkm, ho, HI, hS2, hG2⟩ := hrel
    clear row1 S1 G1
    obtain ⟨D, d, rfl⟩ := own_shape ho
    have zG := hG2.size
    by_cases h0 : 0 < m
    · go_wp2_with fail
      refine (l1Pick_any g k' _ [0, 1, 2, 3, 0, 1, 4, -1] A c l _ _ (hS2.alloc _) (by omega) (by simp) (by simp) (Bk.new _ _ _) (by have := hS2.lt; simp; omega)).mono ?_
      rintro e w3 ⟨x, rfl, hx, S3, g3⟩
      have G3 := hG2.trans (grown_alloc g3)
      have row3 := (ho.alloc (Obj.cells #[.int .i64 0, .int .i64 1, .int .i64 2, .int .i64 3, .int .i64 0, .int .i64 1, .int .i64 4, .int .i64 (-1)] 2)).kept g3 (own_sep fun b hb e => by have := ho.lt b hb; simp at e; omega)
      have HI3 := hide (HI.out.snoc (x := x) (by unfold I64; simp at hx; omega))
      have ho4 := row3.alloc (Obj.cells #[.int .i64 x] 2)
      have hBl := Rd.one_new w3 x 2
      have S4 := S3.alloc (Obj.cells #[.int .i64 x] 2)
      have G4 : w.grownBy (w3.alloc (Obj.cells #[.int .i64 x] 2)) (some g) := G3.trans (World.grownBy_alloc _ _ _)
      have zG3 := G3.size
      clear hx g3 row3 ho S3 G3 hS2 hG2
      go_wp2_with (at_builtin; refine wpList_append_rd _ rfl (.tmp 13) (.tmp 17) 29 rfl w.heap.size 2 i0 (.int .i64 0) 8 Tryz.underlying29 hi hz0 hz1 hz2 rfl .i64 _ _ _ rfl ho4 (some ⟨w3.heap.size, 0, none⟩) [x] 1 _ rfl hBl (by unfold maxLen; simp only [List.length_cons, List.length_nil]; omega) (by simp only [List.length_cons, List.length_nil]; omega) (by simp; omega) ?_; intro v5 w5 o5 g5 hat5; have S5 : Src w5 g A c l (k' + 1) := S4.below (B := g + 1) (grown_below ho4 g5 (by simp; omega) (by omega)) (Nat.lt_succ_self _); have G5 := grown_row G4 g5 (fun b hb => (ho4.lt b hb).1); have o6 : w5.ownsRow w.heap.size 2 1 v5 (xs ++ [x]).length ((xs ++ [x]).map (Value.int .i64)) := (by rw [List.length_append, List.map_append]; exact o5); clear o5 g5 hat5 ho4 hBl S4 G4)
      go_roundw
      case rel => exact ⟨m - 1, k' + 1, xs ++ [x], by go_num, by rw [List.length_append, List.length_singleton]; omega, by omega, o6, HI3, S5, G5⟩
      case measure => simp [intOf]; omega
    · obtain rfl : m = 0 := by omega
      clear h0
      go_wp2_with fail
      refine (l1Chance_any g k' 30 A c l _ hS2 (by omega) (by omega) (by omega)).mono ?_
      rintro e w3 ⟨b, rfl, S3, g3⟩
      have G3 := hG2.trans g3
      have row3 := ho.kept g3 (own_sep fun b hb e => by have := ho.lt b hb; simp at e; omega)
      have zG3 := G3.size
      clear g3 ho hS2 hG2
      by_cases hb : b = true
      · subst hb
        go_wp2_with fail
        refine (l1Pick_any g (k' + 1) _ [100, 101] A c l _ _ (S3.alloc _) (by omega) (by simp) (by simp) (Bk.new _ _ _) (by have := S3.lt; simp; omega)).mono ?_
        rintro e w4 ⟨x, rfl, hx, S4, g4⟩
        have G4 := G3.trans (grown_alloc g4)
        have zG4 := G4.size
        obtain ⟨q, rfl⟩ : ∃ q : Nat, x = (q : Int) := Int.eq_ofNat_of_zero_le (by simp at hx; omega)
        have hq : q ≤ 101 := by simp at hx; omega
        clear hx g4 row3 S3 G3
        have MD : (madeCells (Value.int .i64 0).cells (q * 1)).toList = (List.replicate q (0 : Int)).map (Value.int .i64) := by rw [made_i64, List.map_replicate]
        go_wp2_with (at_make; refine wpList_make_full _ rfl _ _ 29 rfl w.heap.size 2 i0 (.int .i64 0) 1 Tryz.underlying29 hi hz0 hz1 .i64 .i64 _ _ q rfl rfl rfl rfl (by rw [hz2]; omega) (by unfold maxLen; omega) (by omega) ?_; intro w5 hown hg)
        go_ret
        rw [MD] at hown
        refine ⟨List.replicate q 0, some ⟨w4.heap.size, 0, none⟩, q, by rw [List.length_replicate]; rfl, by rw [List.length_replicate]; exact hq, fun p hp => by rw [List.eq_of_mem_replicate hp]; unfold I64; omega, by rw [List.length_replicate]; exact hown, k' + 1 + 1, by omega, S4.below (B := g + 1) ((Below.refl _ _).grown hg (by have := S4.lt; omega) (fun k e => by cases e)) (Nat.lt_succ_self _), grown_row G4 hg (fun b hb => by cases hb)⟩
      · obtain rfl : b = false := by simpa using hb
        go_wp2
        go_ret
        exact ⟨xs, D, d, rfl, by omega, HI.out, row3, k' + 1, by omega, S3, G3⟩
end Go.Proofs.YtnnfkmjhaljplaaGreat
namespace Go.Proofs.YtnnfkmjhaljplaaGreat
open Go.RowKit
theorem info_events : (Tryz.prog.info? 88).map (fun i => (i.zero, i.size, i.bytes)) = some (some (.slice none 0 0), 1, 24) := by kernel_rfl
end Go.Proofs.YtnnfkmjhaljplaaGreat
namespace Go.Proofs.YtnnfkmjhaljplaaGreat
open Go.RowKit
theorem trF_few {t : List (List Ev)} (h : 1 ≤ t.length ∧ t.length ≤ 4) : trF t = stsF t := if_pos h
theorem trF_many {t : List (List Ev)} (h : ¬ (1 ≤ t.length ∧ t.length ≤ 4)) : trF t = 2 := if_neg h
set_option maxRecDepth 100000 in
set_option maxHeartbeats 400000 in
theorem implTrF_any (t : List (List Ev)) (A : Option Addr) (c : Nat) (w : World) (hm : t.length ≤ maxLen) (h : RdT w w.heap.size A t) :
    Calls Tryz.prog 52 #[.slice A t.length c] w fun e w' => e = .returned (.int .i64 (trF t)) ∧ Below w.heap.size w w' := by
  unfold maxLen at hm
  by_cases h14 : 1 ≤ (t.length : Int) ∧ (t.length : Int) ≤ 4
  · have HF := hide (trF_few (t := t) (by omega))
    go_enter Tryz.func52, Tryz.ntmps52
    go_wp2_with fail
    refine (allWithin_one _ _ _ _ _ _ (by simp [go_sem]) h14).mono ?_
    rintro e w' ⟨rfl, rfl⟩
    go_wp2
    go_loopw [13] (fun i wr => ∃ k : Nat, k ≤ t.length ∧ i = .int .i64 k ∧ Below w.heap.size w wr ∧ Hid (stsF t = stsF (t.drop k))) (fun i _ => t.length - (intOf i).toNat)
    case atStart => exact ⟨0, Nat.zero_le _, rfl, (Below.refl _ _).alloc (Nat.le_refl _) _, hide rfl⟩
    case round =>
      obtain ⟨k, hk, rfl, hb, HR⟩ := hrel
      by_cases hlt : k < t.length
      · obtain ⟨b, off, a, d, rfl, hbb, hc0, hle, hcm, hr⟩ := (h.below hb).get hlt
        have IM := hide (fun W => implStF_any t[k] a d W (by omega))
        by_cases h0 : stF t[k] = 0
        · have HN := hide (stsF_next hlt h0)
          rw [h0] at IM
          clear h0
          go_wp2_with fail
          refine (IM.out _ hr.lt).mono ?_
          rintro e w2 ⟨rfl, hb2⟩
          have hb3 := hb.trans (hb2.mono hb.size)
          go_wp2
          go_roundw
          case rel => exact ⟨k + 1, by omega, by go_num, hb3, hide (HR.out.trans HN.out)⟩
          case measure => simp [intOf]; omega
        · have HN := hide (stsF_stop hlt h0)
          obtain ⟨F, hF⟩ : ∃ F, F = stF t[k] := ⟨_, rfl⟩
          rw [← hF] at h0 HN IM
          have f0 : (F != 0) = true := bne_iff_ne.2 h0
          have f1 : (F == 0) = false := beq_eq_false_iff_ne.2 h0
          clear h0 hF
          go_wp2_with fail
          refine (IM.out _ hr.lt).mono ?_
          rintro e w2 ⟨rfl, hb2⟩
          have hb3 := hb.trans (hb2.mono hb.size)
          go_wp2
          go_ret
          exact ⟨ret_int (by rw [HF.out, HR.out, HN.out]), hb3⟩
      · have HN := hide (stsF_end hlt)
        go_wp2
        go_ret
        exact ⟨ret_int (by rw [HF.out, HR.out, HN.out]), hb⟩
  · rw [trF_many (by omega)]
    have h14' : (t.length : Int) < 1 ∨ 4 < (t.length : Int) := by omega
    clear h14
    go_enter Tryz.func52, Tryz.ntmps52
    go_wp2_with fail
    refine (allWithin_not _ _ _ _ _ _ (by simp [go_sem]) h14').mono ?_
    rintro e w' ⟨rfl, rfl⟩
    go_wp2
    go_ret
    exact ⟨rfl, by go_grown⟩
set_option maxRecDepth 100000 in
set_option maxHeartbeats 400000 in
theorem specTrF_any (t : List (List Ev)) (A : Option Addr) (c : Nat) (w : World) (hm : t.length ≤ maxLen) (h : RdT w w.heap.size A t) :
    Calls Tryz.prog 73 #[.slice A t.length c] w fun e w' => e = .returned (.int .i64 (trF t)) ∧ Below w.heap.size w w' := by
  unfold maxLen at hm
  by_cases h14 : 1 ≤ (t.length : Int) ∧ (t.length : Int) ≤ 4
  · have HF := hide (trF_few (t := t) (by omega))
    obtain ⟨h1, h4⟩ := h14
    go_enter Tryz.func73, Tryz.ntmps73
    go_wp2
    go_loopw [15] (fun i wr => ∃ k : Nat, k ≤ t.length ∧ i = .int .i64 k ∧ Below w.heap.size w wr ∧ Hid (stsF t = stsF (t.drop k))) (fun i _ => t.length - (intOf i).toNat)
    case atStart => exact ⟨0, Nat.zero_le _, rfl, Below.refl _ _, hide rfl⟩
    case round =>
      obtain ⟨k, hk, rfl, hb, HR⟩ := hrel
      by_cases hlt : k < t.length
      · obtain ⟨b, off, a, d, rfl, hbb, hc0, hle, hcm, hr⟩ := (h.below hb).get hlt
        have IM := hide (fun W => specStF_any t[k] a d W (by omega))
        by_cases h0 : stF t[k] = 0
        · have HN := hide (stsF_next hlt h0)
          rw [h0] at IM
          clear h0
          go_wp2_with fail
          refine (IM.out _ hr.lt).mono ?_
          rintro e w2 ⟨rfl, hb2⟩
          have hb3 := hb.trans (hb2.mono hb.size)
          go_wp2
          go_roundw
          case rel => exact ⟨k + 1, by omega, by go_num, hb3, hide (HR.out.trans HN.out)⟩
          case measure => simp [intOf]; omega
        · have HN := hide (stsF_stop hlt h0)
          obtain ⟨F, hF⟩ : ∃ F, F = stF t[k] := ⟨_, rfl⟩
          rw [← hF] at h0 HN IM
          have f0 : (F != 0) = true := bne_iff_ne.2 h0
          have f1 : (F == 0) = false := beq_eq_false_iff_ne.2 h0
          clear h0 hF
          go_wp2_with fail
          refine (IM.out _ hr.lt).mono ?_
          rintro e w2 ⟨rfl, hb2⟩
          have hb3 := hb.trans (hb2.mono hb.size)
          go_wp2
          go_ret
          exact ⟨ret_int (by rw [HF.out, HR.out, HN.out]), hb3⟩
      · have HN := hide (stsF_end hlt)
        go_wp2
        go_ret
        exact ⟨ret_int (by rw [HF.out, HR.out, HN.out]), hb⟩
  · rw [trF_many (by omega)]
    by_cases h1 : 1 ≤ t.length
    · have h4 : 4 < t.length := by omega
      clear h14
      go_enter Tryz.func73, Tryz.ntmps73
      go_wp2
      go_ret
      exact ⟨rfl, Below.refl _ _⟩
    · have h4 : t.length < 1 := by omega
      clear h14
      go_enter Tryz.func73, Tryz.ntmps73
      go_wp2
      go_ret
      exact ⟨rfl, Below.refl _ _⟩
end Go.Proofs.YtnnfkmjhaljplaaGreat
namespace Go.Proofs.YtnnfkmjhaljplaaGreat
open Go.RowKit
theorem one_cellS (A : Option Addr) (n c : Nat) : ∀ u ∈ [Value.slice A n c], u.oneCell' = true := by intro u hu; simp at hu; subst hu; rfl
/-- A new row is apart from what was there. -/
theorem OwnT.fresh {w w' : World} {base : Nat} {v : Value} {t : List (List Ev)} {us : List Value} (h : OwnT w base v t us) {u : Value} {n : Nat} {xs : List Value} (hu : w'.ownsRow w.heap.size 64 3 u n xs) :
    ∀ b, u.ownBlock = some b → v.ownBlock ≠ some b ∧ ∀ (i : Nat) (u' : Value), us[i]? = some u' → u'.ownBlock ≠ some b := by
  intro b hb
  have h1 := (hu.lt b hb).1
  refine ⟨fun e => by have := h.row.lt b e; omega, fun i u' hi e => ?_⟩
  obtain ⟨_, hq, _⟩ := h.at_ hi
  have := hq.lt b e
  omega
set_option maxRecDepth 100000 in
set_option maxHeartbeats 800000 in
theorem l2TraceR_any (g k n : Nat) (A : Option Addr) (c : Nat) (l : List Int) (w : World) (hS : Src w g A c l k) (hk : k ≤ 200) (hn : n ≤ 20) :
    Calls Tryz.prog 43 #[.pointer (some ⟨g, 0, none⟩), .int .i64 n] w fun e w' => ∃ t us D d, e = .returned (.slice D t.length d) ∧ 1 ≤ t.length ∧ t.length ≤ 4 ∧ (∀ x ∈ t, x.length ≤ n ∧ ∀ y ∈ x, evF y = 0) ∧ OwnT w' w.heap.size (.slice D t.length d) t us ∧ Went w g A c l k 250 w' := by
  obtain ⟨i0, hi, hz0, hz1, hz2⟩ := info_parts info_events
  have hgl := hS.lt
  go_enter Tryz.func43, Tryz.ntmps43
  go_wp2_with fail
  refine (l1Next_any g k 4 A c l _ (hS.alloc _) (by omega) (by omega) (by omega)).mono ?_
  rintro e w1 ⟨r, rfl, h0, h1, S1, g1⟩
  have hr : r ≤ 3 := by omega
  obtain ⟨N, rfl⟩ := Int.eq_ofNat_of_zero_le h0
  have hN : N ≤ 3 := by omega
  have o1 := (World.ownsRow_lit w #[] 0 (e := 88) (size := 1) (base := w.heap.size) (Nat.le_refl _) (by simp) rfl).kept g1 (.inr (by simp [Value.ownBlock]; omega))
  have oT : OwnT w1 w.heap.size (.slice (some ⟨w.heap.size, 0, none⟩) 0 0) [] [] := ⟨o1, fun i hi => by simp at hi, fun i j u u' _ hu => by simp at hu⟩
  have G1 := grown_alloc g1
  clear g1 h1 hr o1
  go_wp2
  go_loopw [5, 6] (fun v q wr => ∃ (t : List (List Ev)) (us : List Value) (m k' : Nat), m + t.length = N + 1 ∧ q = .int .i64 m ∧ (∀ x ∈ t, x.length ≤ n ∧ ∀ y ∈ x, evF y = 0) ∧ OwnT wr w.heap.size v t us ∧ Src wr g A c l k' ∧ k' + 61 * m ≤ k + 1 + 61 * (N + 1) ∧ w.grownBy wr (some g)) (fun _ q _ => (intOf q).toNat)
  case atStart => exact ⟨[], [], N + 1, k + 1, rfl, by go_num, by simp, oT, S1, by omega, G1⟩
  case round =>
    obtain ⟨t, us, m, k', hm, rfl, hall, ho, hSr, hkk, hgr⟩ := hrel
    have HM := hide hm
    have hx1 : t.length ≤ 4 := by omega
    have hm1 : m ≤ 4 := by omega
    clear hm
    have hsz := hgr.size
    by_cases hlt : 0 < m
    · go_wp2_with fail
      refine (l2Steps_any g k' n A c l wr hSr (by omega) hn).mono ?_
      rintro e w1 ⟨es, D, d, rfl, hes, hev, hown, k2, hk2, hS1, hg1⟩
      have ho1 := ho.kept hg1 (fun b e => by simp at e; omega)
      have hfr := ho.fresh hown
      have hown1 := own_mono hown hsz
      have hgr1 := hgr.trans hg1
      have hsz1 := hgr1.size
      clear hg1
      go_wp2_with (at_builtin; refine wpList_append_own_at _ rfl _ _ 39 rfl w.heap.size 88 i0 (.slice none 0 0) 1 24 Tryz.underlying39 hi hz0 hz1 hz2 rfl (by decide) _ _ _ rfl (ho1.row.alloc _) ⟨w1.heap.size, 0, none⟩ 1 1 [.slice D es.length d] rfl rfl (cell_one_new _ _ _) (one_cellS _ _ _) (by unfold maxLen; omega) (by omega) (by simp; omega) ?_; intro v' w2 hown' hgrow _ hat)
      have hP := (ho1.alloc (.cells #[.slice D es.length d] 88)).push (es := es) (hown1.alloc _) hfr hown' hgrow hat
      have hbl : Below w.heap.size w1 w2 := ((Below.refl _ _).alloc hsz1 _).trans (grown_below (ho1.row.alloc (.cells #[.slice D es.length d] 88)) hgrow (by simp; omega) (Nat.le_refl _))
      have hgr2 : w.grownBy w2 (some g) := hgr1.andThen (grown_alloc hgrow) (fun j hj => .inl (ho1.row.lt j hj).1)
      clear hgrow hat
      go_roundw
      case rel => exact ⟨t ++ [es], us ++ [.slice D es.length d], m - 1, k2, by have := HM.out; simp; omega, by go_num, by intro y hy; rcases List.mem_append.1 hy with h | h; exact hall y h; simp at h; rw [h]; exact ⟨hes, hev⟩, hP, hS1.below hbl hgl, by omega, hgr2⟩
      case measure => simp [intOf]; omega
    · obtain ⟨D, d, hv⟩ := own_shape ho.row
      have HV := hide hv
      clear hv
      go_wp2
      go_ret
      have hn : t.length = N + 1 := by have := HM.out; omega
      have ho2 := ho
      rw [HV.out] at ho2
      exact ⟨t, us, D, d, congrArg Ending.returned HV.out, by omega, by omega, hall, ho2, k', by omega, hSr, hgr⟩
theorem l2Trace_any (g k n : Nat) (A : Option Addr) (c : Nat) (l : List Int) (w : World) (hS : Src w g A c l k) (hk : k ≤ 200) (hn : n ≤ 20) :
    Calls Tryz.prog 43 #[.pointer (some ⟨g, 0, none⟩), .int .i64 n] w fun e w' => ∃ t us D d, e = .returned (.slice D t.length d) ∧ 1 ≤ t.length ∧ t.length ≤ 4 ∧ (∀ x ∈ t, x.length ≤ n) ∧ OwnT w' w.heap.size (.slice D t.length d) t us ∧ Went w g A c l k 250 w' := by
  refine (l2TraceR_any g k n A c l w hS hk hn).mono ?_
  rintro e w1 ⟨t, us, D, d, h1, h2, h3, h4, h5⟩
  exact ⟨t, us, D, d, h1, h2, h3, fun x hx => (h4 x hx).1, h5⟩
end Go.Proofs.YtnnfkmjhaljplaaGreat
namespace Go.Proofs.YtnnfkmjhaljplaaGreat
open Go.RowKit
theorem made_nil (n : Nat) : (madeCells (Value.slice none 0 0).cells (n * 1)).toList = List.replicate n (Value.slice none 0 0) := by
  apply List.ext_getElem
  · simp [madeCells]
  · intro i h1 h2
    simp [madeCells, Value.cells, Nat.mod_one]
theorem OwnT.rd_ {w : World} {base n c : Nat} {A : Option Addr} {t : List (List Ev)} {us : List Value} (h : OwnT w base (.slice A n c) t us) (hn : n = t.length) : RdT w w.heap.size A t := by
  subst hn
  exact h.rd
theorem set_len {t : List (List Ev)} {i n : Nat} {es : List Ev} (h : ∀ x ∈ t, x.length ≤ n) (he : es.length ≤ n) : ∀ x ∈ t.set i es, x.length ≤ n := fun x hx => by
  rcases List.mem_or_eq_of_mem_set hx with a | a
  · exact h x a
  · rw [a]; exact he
end Go.Proofs.YtnnfkmjhaljplaaGreat
namespace Go.Proofs.YtnnfkmjhaljplaaGreat
open Go.RowKit
/-- A row turned in its own memory. -/
theorem OwnT.turn {w w1 : World} {base i : Nat} {v u : Value} {t : List (List Ev)} {us : List Value} {es' : List Ev} (h : OwnT w base v t us) (hui : us[i]? = some u) (hg : w.grownBy w1 u.ownBlock) (hu' : w1.ownsRow base 64 3 u es'.length (evs es')) :
    OwnT w1 base v (t.set i es') us := by
  obtain ⟨hi, hu, hu3⟩ := h.at_ hui
  refine ⟨?_, fun j hj => ?_, h.apart⟩
  · rw [List.length_set]
    exact h.row.kept hg (own_sep fun b hb e => hu3 b e hb)
  · have hj' : j < t.length := by rw [List.length_set] at hj; exact hj
    obtain ⟨x, h1, h2, h3⟩ := h.rows j hj'
    by_cases hji : j = i
    · subst hji
      rw [hui] at h1
      cases h1
      refine ⟨u, hui, ?_, hu3⟩
      rw [List.getElem_set_self]
      exact hu'
    · refine ⟨x, h1, ?_, h3⟩
      rw [List.getElem_set_ne (by omega)]
      exact h2.kept hg (own_sep fun b hb e => h.apart i j u x (by omega) hui h1 b e hb)
end Go.Proofs.YtnnfkmjhaljplaaGreat
namespace Go.Proofs.YtnnfkmjhaljplaaGreat
open Go.RowKit
/-- Only the rows us are turned; there may be more memory. -/
structure Only (us : List Value) (w w' : World) : Prop where
  size : w.heap.size ≤ w'.heap.size
  below : ∀ lo : Nat, lo ≤ w.heap.size → (∀ u ∈ us, ∀ b, u.ownBlock = some b → lo ≤ b) → Below lo w w'
  own : ∀ (base : Nat) (e : TypeId) (size n : Nat) (v : Value) (xs : List Value), w.ownsRow base e size v n xs → (∀ b, v.ownBlock = some b → ∀ u ∈ us, u.ownBlock ≠ some b) → w'.ownsRow base e size v n xs
  bk : ∀ (g : Nat) (cs : Array Value) (t : TypeId), Bk w g cs t → (∀ u ∈ us, u.ownBlock ≠ some g) → Bk w' g cs t
theorem Only.refl (us : List Value) (w : World) : Only us w w := ⟨Nat.le_refl _, fun _ _ _ => Below.refl _ _, fun _ _ _ _ _ _ h _ => h, fun _ _ _ h _ => h⟩
theorem Only.trans {us : List Value} {a b c : World} (h : Only us a b) (k : Only us b c) : Only us a c :=
  ⟨Nat.le_trans h.size k.size, fun lo hl hu => (h.below lo hl hu).trans (k.below lo (by have := h.size; omega) hu), fun _ _ _ _ _ _ x y => k.own _ _ _ _ _ _ (h.own _ _ _ _ _ _ x y) y, fun _ _ _ x y => k.bk _ _ _ (h.bk _ _ _ x y) y⟩
theorem Only.of_grown {us : List Value} {w w' : World} {u : Value} (h : w.grownBy w' u.ownBlock) (hu : u ∈ us) : Only us w w' :=
  ⟨h.size, fun _ hl hlo => (Below.refl _ _).grown h hl (fun k hk => hlo u hu k hk), fun _ _ _ _ _ _ x y => x.kept h (own_sep fun b hb => y b hb u hu), fun _ _ _ x y => x.grown h (fun e => y u hu e.symm)⟩
theorem Only.more {us us' : List Value} {w w' : World} (h : Only us w w') (hs : ∀ u ∈ us, u ∈ us') : Only us' w w' :=
  ⟨h.size, fun lo hl hu => h.below lo hl fun u x => hu u (hs u x), fun _ _ _ _ _ _ x y => h.own _ _ _ _ _ _ x fun b hb u z => y b hb u (hs u z), fun _ _ _ x y => h.bk _ _ _ x fun u z => y u (hs u z)⟩
end Go.Proofs.YtnnfkmjhaljplaaGreat
namespace Go.Proofs.YtnnfkmjhaljplaaGreat
open Go.RowKit
theorem info_line : (Tryz.prog.info? 129).map (fun i => (i.zero, i.size, i.bytes)) = some (some (.agg #[.int .i64 0, .int .i64 0, .int .i64 0]), 3, 24) := by kernel_rfl
end Go.Proofs.YtnnfkmjhaljplaaGreat
namespace Go.Proofs.YtnnfkmjhaljplaaGreat
open Go.RowKit
theorem info_lines : (Tryz.prog.info? 114).map (fun i => (i.zero, i.size, i.bytes)) = some (some (.slice none 0 0), 1, 24) := by kernel_rfl
end Go.Proofs.YtnnfkmjhaljplaaGreat
namespace Go.Proofs.YtnnfkmjhaljplaaGreat
open Go.RowKit
theorem ownT_made {w : World} {base n : Nat} {v : Value} (h : w.ownsRow base 88 1 v n (List.replicate n (.slice none 0 0))) : OwnT w base v (List.replicate n []) (List.replicate n (.slice none 0 0)) := by
  refine ⟨by rw [List.length_replicate]; exact h, fun i hi => ?_, fun i j u u' _ hu _ b hb => ?_⟩
  · rw [List.length_replicate] at hi
    refine ⟨.slice none 0 0, by rw [List.getElem?_replicate, if_pos hi], ?_, fun b hb => by cases hb⟩
    simp only [List.getElem_replicate]
    exact World.ownsRow_nil _ _ _ _
  · have := List.eq_of_mem_replicate (List.mem_of_getElem? hu)
    rw [this] at hb
    cases hb
theorem made_slices (n : Nat) : (madeCells (Value.slice none 0 0).cells (n * 1)).toList = List.replicate n (.slice none 0 0) := by
  apply List.ext_getElem
  · simp [madeCells]
  · intro i h1 h2
    simp [madeCells, Value.cells, Nat.mod_one]
theorem RdE.one_new (w : World) (e : Ev) (T : TypeId) : RdE (w.alloc (.cells #[.int .i64 e.k, .int .i64 e.a, .int .i64 e.v] T)) (w.heap.size + 1) (some ⟨w.heap.size, 0, none⟩) [e] := fun _ =>
  ⟨w.heap.size, 0, rfl, Nat.lt_succ_self _, fun i hi => by
    rw [Nat.zero_add, (Bk.new w #[.int .i64 e.k, .int .i64 e.a, .int .i64 e.v] T).cell i]
    simp only [List.getElem?_toArray]
    exact List.getElem?_eq_getElem hi⟩
end Go.Proofs.YtnnfkmjhaljplaaGreat
namespace Go.Proofs.YtnnfkmjhaljplaaGreat
open Go.RowKit
structure OwnTLine (w : World) (base : Nat) (v : Value) (t : List (List Ev)) (us : List Value) : Prop where
  row : w.ownsRow base 114 1 v t.length us
  rows : ∀ i, (h : i < t.length) → ∃ u, us[i]? = some u ∧ w.ownsRow base 129 3 u t[i].length (evs t[i]) ∧ ∀ b, u.ownBlock = some b → v.ownBlock ≠ some b
  apart : ∀ (i j : Nat) (u u' : Value), i ≠ j → us[i]? = some u → us[j]? = some u' → ∀ b, u.ownBlock = some b → u'.ownBlock ≠ some b
section
variable {w w' w1 : World} {base : Nat} {v v' : Value} {t : List (List Ev)} {us : List Value} {es : List Ev}
theorem OwnTLine.len (h : OwnTLine w base v t us) : us.length = t.length := by have := h.row.1; omega
theorem OwnTLine.at_ (h : OwnTLine w base v t us) {i : Nat} {u : Value} (hu : us[i]? = some u) : ∃ (hi : i < t.length), w.ownsRow base 129 3 u t[i].length (evs t[i]) ∧ ∀ b, u.ownBlock = some b → v.ownBlock ≠ some b := by
  have hi : i < t.length := by
    rcases Nat.lt_or_ge i us.length with a | a
    · rw [← h.len]; exact a
    · rw [List.getElem?_eq_none a] at hu; exact absurd hu (by simp)
  obtain ⟨u', h1, h2, h3⟩ := h.rows i hi
  rw [hu] at h1
  cases h1
  exact ⟨hi, h2, h3⟩
theorem OwnTLine.kept {row : Option Nat} (h : OwnTLine w base v t us) (hg : w.grownBy w' row) (hr : ∀ b, row = some b → b < base) : OwnTLine w' base v t us :=
  ⟨h.row.kept hg (own_sep fun b hb e => by have := h.row.lt b hb; have := hr b e; omega),
   fun i hi => by
    obtain ⟨u, h1, h2, h3⟩ := h.rows i hi
    exact ⟨u, h1, h2.kept hg (own_sep fun b hb e => by have := h2.lt b hb; have := hr b e; omega), h3⟩,
   h.apart⟩
theorem OwnTLine.below (h : OwnTLine w base v t us) (hb : Below w.heap.size w w') : OwnTLine w' base v t us := h.kept (row := none) ⟨hb.os, hb.tape, hb.output, hb.size, fun k hk _ => hb.block k hk⟩ (fun b e => by cases e)
theorem OwnTLine.alloc (h : OwnTLine w base v t us) (o : Obj) : OwnTLine (w.alloc o) base v t us := h.below ((Below.refl _ _).alloc (Nat.le_refl _) _)
theorem OwnTLine.mono (h : OwnTLine w base v t us) {b' : Nat} (hb : b' ≤ base) : OwnTLine w b' v t us :=
  ⟨own_mono h.row hb, fun i hi => by
    obtain ⟨u, h1, h2, h3⟩ := h.rows i hi
    exact ⟨u, h1, own_mono h2 hb, h3⟩, h.apart⟩
theorem OwnTLine.rd {A : Option Addr} {c : Nat} (h : OwnTLine w base (.slice A t.length c) t us) : RdT w w.heap.size A t := by
  intro h0
  rcases h.row.2 with ⟨_, h''⟩ | ⟨g, cap, cur, h', _⟩
  · omega
  · simp only [Value.slice.injEq] at h'
    obtain ⟨rfl, _, rfl⟩ := h'
    refine ⟨g, 0, rfl, (h.row.lt g rfl).2, fun i hi => ?_⟩
    obtain ⟨u, h1, h2, h3⟩ := h.rows i hi
    obtain ⟨a, c, rfl⟩ := own_shape h2
    have hcp := own_capE h2
    refine ⟨a, c, ?_, hcp.1, hcp.2, RdE.of_own h2⟩
    rw [Nat.zero_add, h.row.cellAt i (by omega)]
    exact h1
/-- A new row behind the others. -/
theorem OwnTLine.push {u : Value} (h : OwnTLine w base v t us) (hu : w.ownsRow base 129 3 u es.length (evs es)) (hf : ∀ b, u.ownBlock = some b → v.ownBlock ≠ some b ∧ ∀ (i : Nat) (u' : Value), us[i]? = some u' → u'.ownBlock ≠ some b)
    (ho : w'.ownsRow base 114 1 v' (t.length + 1) (us ++ [u])) (hg : w.grownBy w' v.ownBlock) (hat : v'.ownBlock = v.ownBlock ∨ v'.ownBlock = some w.heap.size) : OwnTLine w' base v' (t ++ [es]) (us ++ [u]) := by
  have hnew : ∀ (x : Value) (n : Nat) (xs : List Value), w.ownsRow base 129 3 x n xs → (∀ b, x.ownBlock = some b → v.ownBlock ≠ some b) → ∀ b, x.ownBlock = some b → v'.ownBlock ≠ some b := by
    intro x n xs hx h3 b hb
    rcases hat with e | e
    · rw [e]; exact h3 b hb
    · rw [e]
      intro e2
      simp only [Option.some.injEq] at e2
      have := hx.lt b hb
      omega
  refine ⟨by rw [List.length_append]; exact ho, fun i hi => ?_, ?_⟩
  · rw [List.length_append, List.length_singleton] at hi
    by_cases hlt : i < t.length
    · obtain ⟨x, h1, h2, h3⟩ := h.rows i hlt
      refine ⟨x, by rw [List.getElem?_append_left (by rw [h.len]; exact hlt)]; exact h1, ?_, hnew x _ _ h2 h3⟩
      rw [List.getElem_append_left hlt]
      exact h2.kept hg (own_sep h3)
    · obtain rfl : i = t.length := by omega
      refine ⟨u, by rw [List.getElem?_append_right (by rw [h.len]; exact Nat.le_refl _), h.len, Nat.sub_self]; rfl, ?_, hnew u _ _ hu (fun b hb => (hf b hb).1)⟩
      rw [List.getElem_append_right (Nat.le_refl _)]
      simp only [Nat.sub_self, List.getElem_cons_zero]
      exact hu.kept hg (own_sep fun b hb => (hf b hb).1)
  · have key : ∀ (i : Nat) (x : Value), (us ++ [u])[i]? = some x → (i < us.length ∧ us[i]? = some x) ∨ (i = us.length ∧ x = u) := by
      intro i x hx
      by_cases hlt : i < us.length
      · rw [List.getElem?_append_left hlt] at hx
        exact .inl ⟨hlt, hx⟩
      · rw [List.getElem?_append_right (by omega)] at hx
        have hi : i - us.length = 0 := by
          rcases Nat.eq_zero_or_pos (i - us.length) with a | a
          · exact a
          · rw [List.getElem?_eq_none (by simp; omega)] at hx; exact absurd hx (by simp)
        rw [hi] at hx
        simp only [List.getElem?_cons_zero, Option.some.injEq] at hx
        exact .inr ⟨by omega, hx.symm⟩
    intro i j x y hij hx hy b hb
    rcases key i x hx with ⟨i1, i2⟩ | ⟨i1, rfl⟩
    · rcases key j y hy with ⟨j1, j2⟩ | ⟨j1, rfl⟩
      · exact h.apart i j x y hij i2 j2 b hb
      · intro e
        exact (hf b e).2 i x i2 hb
    · rcases key j y hy with ⟨j1, j2⟩ | ⟨j1, rfl⟩
      · exact (hf b hb).2 j y j2
      · omega
/-- Another row in the place of one. -/
theorem OwnTLine.swap {gv c i : Nat} {u u' : Value} {row : Option Nat} {es' : List Ev} (h : OwnTLine w base (.slice (some ⟨gv, 0, none⟩) t.length c) t us) (hui : us[i]? = some u) (hg : w.grownBy w1 row) (hrow : ∀ b, row = some b → u.ownBlock = some b ∨ b < base)
    (hu' : w1.ownsRow base 129 3 u' es'.length (evs es')) (hat : ∀ b, u'.ownBlock = some b → u.ownBlock = some b ∨ w.heap.size ≤ b) :
    OwnTLine (w1.setCell ⟨gv, i, none⟩ u') base (.slice (some ⟨gv, 0, none⟩) t.length c) (t.set i es') (us.set i u') := by
  obtain ⟨hi, hu, hu3⟩ := h.at_ hui
  have hgv := h.row.lt gv rfl
  have hne : ∀ b, u'.ownBlock = some b → b ≠ gv := by
    intro b hb e
    subst e
    rcases hat b hb with a | a
    · exact hu3 b a rfl
    · omega
  have hrk : ∀ (x : Value) (n : Nat) (xs : List Value) (j : Nat), j ≠ i → us[j]? = some x → w.ownsRow base 129 3 x n xs → ∀ b, x.ownBlock = some b → row ≠ some b := by
    intro x n xs j hji hj hx b hb e
    rcases hrow b e with a | a
    · exact h.apart j i x u hji hj hui b hb a
    · have := hx.lt b hb; omega
  refine ⟨?_, fun j hj => ?_, ?_⟩
  · rw [List.length_set]
    exact ((h.row.kept hg (own_sep fun b hb e => by
      simp only [Value.ownBlock, Option.some.injEq] at hb
      subst hb
      rcases hrow _ e with a | a
      · exact hu3 _ a rfl
      · omega)).stored i u').1
  · have hj' : j < t.length := by rw [List.length_set] at hj; exact hj
    by_cases hji : j = i
    · subst hji
      refine ⟨u', by rw [List.getElem?_set_self (by rw [h.len]; exact hj')], ?_, fun b hb e => ?_⟩
      · rw [List.getElem_set_self]
        exact hu'.kept (grown_set w1 gv j u') (own_sep fun b hb e => hne b hb (by simpa using e.symm))
      · simp only [Value.ownBlock, Option.some.injEq] at e
        exact hne b hb e.symm
    · obtain ⟨x, h1, h2, h3⟩ := h.rows j hj'
      refine ⟨x, by rw [List.getElem?_set_ne (by omega)]; exact h1, ?_, h3⟩
      rw [List.getElem_set_ne (by omega)]
      refine (h2.kept hg (own_sep (hrk x _ _ j hji h1 h2))).kept (grown_set w1 gv i u') (own_sep fun b hb e => ?_)
      exact h3 b hb (by simpa [Value.ownBlock] using e)
  · have key : ∀ (j : Nat) (x : Value), (us.set i u')[j]? = some x → (j = i ∧ x = u') ∨ (j ≠ i ∧ us[j]? = some x) := by
      intro j x hx
      by_cases hji : j = i
      · subst hji
        rw [List.getElem?_set_self (by rw [h.len]; exact hi)] at hx
        exact .inl ⟨rfl, (Option.some.inj hx).symm⟩
      · rw [List.getElem?_set_ne (by omega)] at hx
        exact .inr ⟨hji, hx⟩
    intro p q x y hpq hx hy b hb
    rcases key p x hx with ⟨p1, rfl⟩ | ⟨p1, p2⟩
    · rcases key q y hy with ⟨q1, rfl⟩ | ⟨q1, q2⟩
      · omega
      · rcases hat b hb with a | a
        · exact h.apart i q u y (by omega) hui q2 b a
        · intro e
          obtain ⟨_, hq, _⟩ := h.at_ q2
          have := hq.lt b e
          omega
    · rcases key q y hy with ⟨q1, rfl⟩ | ⟨q1, q2⟩
      · intro e
        rcases hat b e with a | a
        · exact h.apart p i x u (by omega) p2 hui b hb a
        · obtain ⟨_, hp, _⟩ := h.at_ p2
          have := hp.lt b hb
          omega
      · exact h.apart p q x y hpq p2 q2 b hb
end
theorem ownTLine_made {w : World} {base n : Nat} {v : Value} (h : w.ownsRow base 114 1 v n (List.replicate n (.slice none 0 0))) : OwnTLine w base v (List.replicate n []) (List.replicate n (.slice none 0 0)) := by
  refine ⟨by rw [List.length_replicate]; exact h, fun i hi => ?_, fun i j u u' _ hu _ b hb => ?_⟩
  · rw [List.length_replicate] at hi
    refine ⟨.slice none 0 0, by rw [List.getElem?_replicate, if_pos hi], ?_, fun b hb => by cases hb⟩
    simp only [List.getElem_replicate]
    exact World.ownsRow_nil _ _ _ _
  · have := List.eq_of_mem_replicate (List.mem_of_getElem? hu)
    rw [this] at hb
    cases hb
end Go.Proofs.YtnnfkmjhaljplaaGreat
namespace Go.Proofs.YtnnfkmjhaljplaaGreat
open Go.RowKit
/-- A row turned in its own memory. -/
theorem OwnTLine.turn {w w1 : World} {base i : Nat} {v u : Value} {t : List (List Ev)} {us : List Value} {es' : List Ev} (h : OwnTLine w base v t us) (hui : us[i]? = some u) (hg : w.grownBy w1 u.ownBlock) (hu' : w1.ownsRow base 129 3 u es'.length (evs es')) :
    OwnTLine w1 base v (t.set i es') us := by
  obtain ⟨hi, hu, hu3⟩ := h.at_ hui
  refine ⟨?_, fun j hj => ?_, h.apart⟩
  · rw [List.length_set]
    exact h.row.kept hg (own_sep fun b hb e => hu3 b e hb)
  · have hj' : j < t.length := by rw [List.length_set] at hj; exact hj
    obtain ⟨x, h1, h2, h3⟩ := h.rows j hj'
    by_cases hji : j = i
    · subst hji
      rw [hui] at h1
      cases h1
      refine ⟨u, hui, ?_, hu3⟩
      rw [List.getElem_set_self]
      exact hu'
    · refine ⟨x, h1, ?_, h3⟩
      rw [List.getElem_set_ne (by omega)]
      exact h2.kept hg (own_sep fun b hb e => h.apart i j u x (by omega) hui h1 b e hb)
theorem own_boundLine {w : World} {base : Nat} {v : Value} {t : List (List Ev)} {us : List Value} (h : OwnTLine w base v t us) : ∀ u ∈ us, ∀ b, u.ownBlock = some b → b < w.heap.size := fun u hu b hb => by
  obtain ⟨i, hi⟩ := List.getElem?_of_mem hu
  obtain ⟨_, h1, _⟩ := h.at_ hi
  exact (h1.lt b hb).2
end Go.Proofs.YtnnfkmjhaljplaaGreat
