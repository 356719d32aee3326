/- The contract of the model's draw of picks. -/
import Derived.Test.YtifijhfeeammkaaGDrawT
import Derived.Test.YtifijhfeeammkaaIntS
import Derived.Test.YtifijhfeeammkaaPick
namespace Go.Proofs.Ytifijhfeeammkaa
open Go.RowKit

theorem grown_row {w w1 w2 : World} {g : Nat} {row : Option Nat} (h : w.grownBy w1 (some g)) (hg : w1.grownBy w2 row) (hr : ∀ b, row = some b → w.heap.size ≤ b) : w.grownBy w2 (some g) :=
  ⟨hg.os.trans h.os, hg.tape.trans h.tape, hg.output.trans h.output, Nat.le_trans h.size hg.size, fun k hk hne => by
    have h1 := h.size
    refine (hg.block k (by omega) (fun e => ?_)).trans (h.block k hk hne)
    have := hr k e.symm
    omega⟩
def I64s (l : List Int) : Prop := ∀ p ∈ l, I64 p
theorem I64s.snoc {l : List Int} {x : Int} (h : I64s l) (hx : I64 x) : I64s (l ++ [x]) := fun p hp => by
  rcases List.mem_append.1 hp with a | a
  · exact h p a
  · simp at a; rw [a]; exact hx

/-- What is drawn: picks in a row of the call's own. -/
def PksPost (w : World) (g : Nat) (A : Option Addr) (c : Nat) (l : List Int) (k : Nat) (e : Ending) (w' : World) : Prop :=
  ∃ (ps : List Int) (D : Option Addr) (d : Nat), e = .returned (.slice D ps.length d) ∧ ps.length ≤ 101 ∧ I64s ps ∧ w'.ownsRow w.heap.size 2 1 (.slice D ps.length d) ps.length (ps.map (Value.int .i64)) ∧ Went w g A c l k 50 w'

set_option maxRecDepth 100000 in
set_option maxHeartbeats 1600000 in
theorem l6Picks_any (g k : Nat) (A : Option Addr) (c : Nat) (l : List Int) (w : World) (hS : Src w g A c l k) (hk : k ≤ 1000) :
    Calls Try.prog 91 #[.pointer (some ⟨g, 0, none⟩)] w (PksPost w g A c l k) := by
  unfold PksPost
  obtain ⟨i0, hi, hz0, hz1, hz2⟩ := info_parts info_i64
  have hgl := hS.lt
  have row0 : (w.alloc (Obj.cells #[] 2)).ownsRow w.heap.size 2 1 (.slice (some ⟨w.heap.size, 0, none⟩) 0 0) 0 [] := World.ownsRow_lit w #[] 0 (Nat.le_refl _) (by simp) rfl
  have S0 := hS.alloc (Obj.cells #[] 2)
  have G0 : w.grownBy (w.alloc (Obj.cells #[] 2)) (some g) := World.grownBy_alloc _ _ _
  go_enter Try.func91, Try.ntmps91
  obtain ⟨W, hW⟩ : ∃ W, W = w.alloc (Obj.cells #[] 2) := ⟨_, rfl⟩
  have zW : W.heap.size = w.heap.size + 1 := by rw [hW]; simp
  rw [← hW] at row0 S0 G0
  have HW := hide hW
  have HZ := hide zW
  clear hW zW
  go_wp2_with fail
  rw [← HW.out, ← HZ.out]
  have zW := HZ.out
  refine (l1Pick_any g k _ [0, 5, 20, 40] A c l _ _ (S0.alloc _) (by omega) (by simp) (by simp) (Bk.new _ _ _) (by simp; omega)).mono ?_
  rintro e w1 ⟨n, rfl, hn, S1, g1⟩
  have G1 := G0.trans (grown_alloc g1)
  have row1 := (row0.alloc (Obj.cells #[.int .i64 0, .int .i64 5, .int .i64 20, .int .i64 40] 2)).kept g1 (own_sep fun b hb e => by simp only [Value.ownBlock, Option.some.injEq] at hb; simp at e; omega)
  obtain ⟨N, rfl⟩ : ∃ N : Nat, n = (N : Int) := Int.eq_ofNat_of_zero_le (by simp at hn; omega)
  have hN : N ≤ 40 := by simp at hn; omega
  clear hn g1 row0 S0 G0
  go_wp2
  go_loopw [3, 4] (fun v i wr => ∃ (m k' : Nat) (xs : List Int), i = .int .i64 m ∧ xs.length + m ≤ 40 ∧ k' + m ≤ k + 41 ∧ wr.ownsRow w.heap.size 2 1 v xs.length (xs.map (Value.int .i64)) ∧ Hid (I64s xs) ∧ Src wr g A c l k' ∧ w.grownBy wr (some g)) (fun _ i _ => (intOf i).toNat)
  case atStart => exact ⟨N, k + 1, [], rfl, by simpa using hN, by omega, by simpa using row1, hide (fun p hp => by simp at hp), S1, G1⟩
  case round =>
    obtain ⟨m, k', xs, rfl, hxm, hkm, ho, HI, hS2, hG2⟩ := hrel
    clear row1 S1 G1
    obtain ⟨D, d, rfl⟩ := own_shape ho
    have zG := hG2.size
    by_cases h0 : 0 < m
    · go_wp2_with fail
      refine (l1Pick_any g k' _ [0, 1, 2, 3, 0, 1, 4, -1] A c l _ _ (hS2.alloc _) (by omega) (by simp) (by simp) (Bk.new _ _ _) (by have := hS2.lt; simp; omega)).mono ?_
      rintro e w3 ⟨x, rfl, hx, S3, g3⟩
      have G3 := hG2.trans (grown_alloc g3)
      have row3 := (ho.alloc (Obj.cells #[.int .i64 0, .int .i64 1, .int .i64 2, .int .i64 3, .int .i64 0, .int .i64 1, .int .i64 4, .int .i64 (-1)] 2)).kept g3 (own_sep fun b hb e => by have := ho.lt b hb; simp at e; omega)
      have HI3 := hide (HI.out.snoc (x := x) (by unfold I64; simp at hx; omega))
      have ho4 := row3.alloc (Obj.cells #[.int .i64 x] 2)
      have hBl := Rd.one_new w3 x 2
      have S4 := S3.alloc (Obj.cells #[.int .i64 x] 2)
      have G4 : w.grownBy (w3.alloc (Obj.cells #[.int .i64 x] 2)) (some g) := G3.trans (World.grownBy_alloc _ _ _)
      have zG3 := G3.size
      clear hx g3 row3 ho S3 G3 hS2 hG2
      go_wp2_with (at_builtin; refine wpList_append_rd _ rfl (.tmp 13) (.tmp 17) 50 rfl w.heap.size 2 i0 (.int .i64 0) 8 Try.underlying50 hi hz0 hz1 hz2 rfl .i64 _ _ _ rfl ho4 (some ⟨w3.heap.size, 0, none⟩) [x] 1 _ rfl hBl (by unfold maxLen; simp only [List.length_cons, List.length_nil]; omega) (by simp only [List.length_cons, List.length_nil]; omega) (by simp; omega) ?_; intro v5 w5 o5 g5 hat5; have S5 : Src w5 g A c l (k' + 1) := S4.below (B := g + 1) (grown_below ho4 g5 (by simp; omega) (by omega)) (Nat.lt_succ_self _); have G5 := grown_row G4 g5 (fun b hb => (ho4.lt b hb).1); have o6 : w5.ownsRow w.heap.size 2 1 v5 (xs ++ [x]).length ((xs ++ [x]).map (Value.int .i64)) := (by rw [List.length_append, List.map_append]; exact o5); clear o5 g5 hat5 ho4 hBl S4 G4)
      go_roundw
      case rel => exact ⟨m - 1, k' + 1, xs ++ [x], by go_num, by rw [List.length_append, List.length_singleton]; omega, by omega, o6, HI3, S5, G5⟩
      case measure => simp [intOf]; omega
    · obtain rfl : m = 0 := by omega
      clear h0
      go_wp2_with fail
      refine (l1Chance_any g k' 30 A c l _ hS2 (by omega) (by omega) (by omega)).mono ?_
      rintro e w3 ⟨b, rfl, S3, g3⟩
      have G3 := hG2.trans g3
      have row3 := ho.kept g3 (own_sep fun b hb e => by have := ho.lt b hb; simp at e; omega)
      have zG3 := G3.size
      clear g3 ho hS2 hG2
      by_cases hb : b = true
      · subst hb
        go_wp2_with fail
        refine (l1Pick_any g (k' + 1) _ [100, 101] A c l _ _ (S3.alloc _) (by omega) (by simp) (by simp) (Bk.new _ _ _) (by have := S3.lt; simp; omega)).mono ?_
        rintro e w4 ⟨x, rfl, hx, S4, g4⟩
        have G4 := G3.trans (grown_alloc g4)
        have zG4 := G4.size
        obtain ⟨q, rfl⟩ : ∃ q : Nat, x = (q : Int) := Int.eq_ofNat_of_zero_le (by simp at hx; omega)
        have hq : q ≤ 101 := by simp at hx; omega
        clear hx g4 row3 S3 G3
        have MD : (madeCells (Value.int .i64 0).cells (q * 1)).toList = (List.replicate q (0 : Int)).map (Value.int .i64) := by rw [made_i64, List.map_replicate]
        go_wp2_with (at_make; refine wpList_make_full _ rfl _ _ 50 rfl w.heap.size 2 i0 (.int .i64 0) 1 Try.underlying50 hi hz0 hz1 .i64 .i64 _ _ q rfl rfl rfl rfl (by rw [hz2]; omega) (by unfold maxLen; omega) (by omega) ?_; intro w5 hown hg)
        go_ret
        rw [MD] at hown
        refine ⟨List.replicate q 0, some ⟨w4.heap.size, 0, none⟩, q, by rw [List.length_replicate]; rfl, by rw [List.length_replicate]; exact hq, fun p hp => by rw [List.eq_of_mem_replicate hp]; unfold I64; omega, by rw [List.length_replicate]; exact hown, k' + 1 + 1, by omega, S4.below (B := g + 1) ((Below.refl _ _).grown hg (by have := S4.lt; omega) (fun k e => by cases e)) (Nat.lt_succ_self _), grown_row G4 hg (fun b hb => by cases hb)⟩
      · obtain rfl : b = false := by simpa using hb
        go_wp2
        go_ret
        exact ⟨xs, D, d, rfl, by omega, HI.out, row3, k' + 1, by omega, S3, G3⟩
end Go.Proofs.Ytifijhfeeammkaa
