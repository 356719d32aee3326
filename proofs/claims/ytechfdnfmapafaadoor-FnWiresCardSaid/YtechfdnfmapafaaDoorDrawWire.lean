/- Contracts of the draws of chapter 1. -/
import Derived.Test.YtechfdnfmapafaaDoorDraw2
import Derived.Test.YtechfdnfmapafaaDoorPut
import Derived.Laws.BitsAllLaws
namespace Go.Proofs.YtechfdnfmapafaaDoor
open Go.RowKit

theorem DrawPutVar_any (l : List Int) (A : Option Addr) (c : Nat) (w : World) (hl : l.length ≤ 1048576) (hR : Rd .u8 w w.heap.size A l) (b8 : B8 l) :
    Calls Tryd.prog 6 #[.slice A l.length c] w fun e w' => ∃ r : Int, e = .returned (.int .i64 r) ∧ -1 ≤ r ∧ r ≤ 9223372036854775807 ∧ Below w.heap.size w w' := by
  go_enter Tryd.func6, Tryd.ntmps6
  go_wp2_with fail
  refine (l1Source_any l A c w hR b8 hl).mono ?_
  rintro e w1 ⟨rfl, S1, B1⟩
  go_wp2_with fail
  refine (l1Chance_any _ _ _ A c l w1 S1 (by omega) (by omega) (by omega)).mono ?_
  rintro e w2 ⟨b, rfl, S2, g2⟩
  have B2 := grown_from B1 g2 B1.size (Nat.le_refl _)
  cases b
  · go_wp2_with fail
    refine (l1Number_any _ _ A c l w2 S2 (by omega)).mono ?_
    rintro e w3 ⟨r, rfl, h0, h1, S3, g3⟩
    have B3 := grown_from B2 g3 B2.size (Nat.le_refl _)
    go_wp2
    go_ret
    exact ⟨r, rfl, by omega, h1, B3⟩
  · go_wp2
    go_ret
    exact ⟨-1, rfl, by omega, by omega, B2⟩

theorem DrawZigZag_any (l : List Int) (A : Option Addr) (c : Nat) (w : World) (hl : l.length ≤ 1048576) (hR : Rd .u8 w w.heap.size A l) (b8 : B8 l) :
    Calls Tryd.prog 10 #[.slice A l.length c] w fun e w' => ∃ r : Int, e = .returned (.int .i64 r) ∧ -9223372036854775808 ≤ r ∧ r ≤ 9223372036854775807 ∧ Below w.heap.size w w' := by
  go_enter Tryd.func10, Tryd.ntmps10
  go_wp2_with fail
  refine (l1Source_any l A c w hR b8 hl).mono ?_
  rintro e w1 ⟨rfl, S1, B1⟩
  go_wp2_with fail
  refine (l1Pick_any _ _ _ [0, 1, -1, 2, -2, 1000000000000, -1000000000000, 1000000000001, -1000000000001] A c l _ _ (S1.alloc _) (by omega) (by simp) (by simp) (Bk.new _ _ _) (by have := S1.lt; omega)).mono ?_
  rintro e w2 ⟨r, rfl, hm, S2, g2⟩
  have B2 := grown_from B1 (grown_alloc g2) B1.size (Nat.le_refl _)
  go_wp2
  go_ret
  refine ⟨r, rfl, ?_, ?_, B2⟩
  all_goals
    simp at hm
    omega

theorem DrawZagZig_any (l : List Int) (A : Option Addr) (c : Nat) (w : World) (hl : l.length ≤ 1048576) (hR : Rd .u8 w w.heap.size A l) (b8 : B8 l) :
    Calls Tryd.prog 12 #[.slice A l.length c] w fun e w' => ∃ r : Int, e = .returned (.int .i64 r) ∧ -9223372036854775808 ≤ r ∧ r ≤ 9223372036854775807 ∧ Below w.heap.size w w' := by
  go_enter Tryd.func12, Tryd.ntmps12
  go_wp2_with fail
  refine (l1Source_any l A c w hR b8 hl).mono ?_
  rintro e w1 ⟨rfl, S1, B1⟩
  go_wp2_with fail
  refine (l1Pick_any _ _ _ [0, 1, 2, 3, 2000000000000, 1999999999999, 2000000000001, -1] A c l _ _ (S1.alloc _) (by omega) (by simp) (by simp) (Bk.new _ _ _) (by have := S1.lt; omega)).mono ?_
  rintro e w2 ⟨r, rfl, hm, S2, g2⟩
  have B2 := grown_from B1 (grown_alloc g2) B1.size (Nat.le_refl _)
  go_wp2
  go_ret
  refine ⟨r, rfl, ?_, ?_, B2⟩
  all_goals
    simp at hm
    omega

/-- A row of bytes that a draw answers. -/
def IsBytes (m : Nat) (v : Value) (w : World) : Prop := ∃ (xs : List Int) (D : Option Addr) (d : Nat), v = .slice D xs.length d ∧ xs.length ≤ m ∧ xs.length ≤ d ∧ B8 xs ∧ Rd .u8 w w.heap.size D xs
theorem own_cap {w : World} {base : Nat} {e : TypeId} {n c size : Nat} {A : Option Addr} {xs : List Value} (h : w.ownsRow base e size (.slice A n c) n xs) : n ≤ c := by
  rcases h.2 with ⟨h', h''⟩ | ⟨g, cap, cur, h', _, _, h2, _⟩
  · omega
  · simp only [Value.slice.injEq, true_and] at h'
    omega
theorem IsBytes.of_own {m : Nat} {w : World} {base : Nat} {xs : List Int} {D : Option Addr} {d : Nat} (ho : w.ownsRow base 5 1 (.slice D xs.length d) xs.length (xs.map (Value.int .u8))) (h8 : B8 xs) (hm : xs.length ≤ m) : IsBytes m (.slice D xs.length d) w :=
  ⟨xs, D, d, rfl, hm, own_cap ho, h8, Rd.of_own ho⟩

theorem DrawCrcOf_any (l : List Int) (A : Option Addr) (c : Nat) (w : World) (hl : l.length ≤ 1048576) (hR : Rd .u8 w w.heap.size A l) (b8 : B8 l) :
    Calls Tryd.prog 14 #[.slice A l.length c] w fun e w' => ∃ v, e = .returned v ∧ IsBytes 4001 v w' ∧ Below w.heap.size w w' := by
  obtain ⟨i0, hi, hz0, hz1, hz2⟩ := info_parts info_u8
  go_enter Tryd.func14, Tryd.ntmps14
  go_wp2_with fail
  refine (l1Source_any l A c w hR b8 hl).mono ?_
  rintro e w1 ⟨rfl, S1, B1⟩
  go_wp2_with fail
  refine (l1Chance_any _ _ _ A c l w1 S1 (by omega) (by omega) (by omega)).mono ?_
  rintro e w2 ⟨b, rfl, S2, g2⟩
  have B2 := grown_from B1 g2 B1.size (Nat.le_refl _)
  cases b
  · go_wp2_with fail
    refine (l1Pick_any _ _ _ [0, 1, 2, 9, 30] A c l _ _ (S2.alloc _) (by omega) (by simp) (by simp) (Bk.new _ _ _) (by have := S2.lt; omega)).mono ?_
    rintro e w3 ⟨r, rfl, hm, S3, g3⟩
    have B3 := grown_from B2 (grown_alloc g3) B2.size (Nat.le_refl _)
    have hr : 0 ≤ r ∧ r ≤ 30 := by simp at hm; omega
    obtain ⟨h0, h1⟩ := hr
    obtain ⟨q, rfl⟩ := Int.eq_ofNat_of_zero_le h0
    clear hm
    go_wp2_with fail
    refine (l1Some_any _ _ q A c l w3 S3 (by omega)).mono ?_
    rintro e w4 ⟨xs, D, d, rfl, hx, h8, ho, S4, g4⟩
    have B4 := grown_from B3 g4 B3.size (Nat.le_refl _)
    have HX := hide hx
    clear hx
    go_wp2
    go_ret
    exact ⟨_, rfl, IsBytes.of_own ho h8 (by have := HX.out; omega), B4⟩
  · go_wp2_with fail
    refine (l1Pick_any _ _ _ [4000, 4001] A c l _ _ (S2.alloc _) (by omega) (by simp) (by simp) (Bk.new _ _ _) (by have := S2.lt; omega)).mono ?_
    rintro e w3 ⟨r, rfl, hm, S3, g3⟩
    have B3 := grown_from B2 (grown_alloc g3) B2.size (Nat.le_refl _)
    have hr : 0 ≤ r ∧ r ≤ 4001 := by simp at hm; omega
    obtain ⟨h0, h1⟩ := hr
    obtain ⟨q, rfl⟩ := Int.eq_ofNat_of_zero_le h0
    clear hm
    go_wp2_with (at_make; refine wpList_make_full _ rfl _ _ 22 rfl w3.heap.size 5 i0 (.int .u8 0) 1 Tryd.underlying22 hi hz0 hz1 .i64 .i64 _ _ q rfl rfl rfl rfl (by rw [hz2]; omega) (by unfold maxLen; omega) (Nat.le_refl _) ?_; intro w4 hown hg)
    have B4 : Below w.heap.size w w4 := B3.grown hg B3.size (by simp)
    rw [made_u8] at hown
    go_ret
    refine ⟨_, rfl, ?_, B4⟩
    have e1 : (List.replicate q (0 : Int)).length = q := by simp
    have e2 : (List.replicate q (0 : Int)).map (Value.int .u8) = List.replicate q (Value.int .u8 0) := by simp
    have h8 : B8 (List.replicate q (0 : Int)) := fun x hx => by rw [List.eq_of_mem_replicate hx]; omega
    have := IsBytes.of_own (m := 4001) (xs := List.replicate q (0 : Int)) (D := some ⟨w3.heap.size, 0, none⟩) (d := q) (base := w3.heap.size) (w := w4) (by rw [e1, e2]; exact hown) h8 (by rw [e1]; omega)
    rw [e1] at this
    exact this

set_option maxHeartbeats 800000 in
theorem DrawReadVar_any (l : List Int) (A : Option Addr) (c : Nat) (w : World) (hl : l.length ≤ 1048576) (hR : Rd .u8 w w.heap.size A l) (b8 : B8 l) :
    Calls Tryd.prog 8 #[.slice A l.length c] w fun e w' => ∃ v, e = .returned v ∧ IsBytes 4001 v w' ∧ Below w.heap.size w w' := by
  obtain ⟨i0, hi, hz0, hz1, hz2⟩ := info_parts info_u8
  go_enter Tryd.func8, Tryd.ntmps8
  go_wp2_with fail
  refine (l1Source_any l A c w hR b8 hl).mono ?_
  rintro e w1 ⟨rfl, S1, B1⟩
  go_wp2_with fail
  refine (l1Number_any _ _ A c l w1 S1 (by omega)).mono ?_
  rintro e w2 ⟨n, rfl, hn0, hn1, S2, g2⟩
  have B2 := grown_from B1 g2 B1.size (Nat.le_refl _)
  go_wp2_with fail
  refine (l1Put_any n w2 hn0 hn1).mono ?_
  rintro e w3 ⟨D1, d1, rfl, o3, b3⟩
  have S3 := S2.below b3 S2.lt
  have B3 := B2.trans (b3.mono B2.size)
  have ln : (putL n).length ≤ 9 := putL_len hn0 hn1
  have lp : 0 < (putL n).length := putL_pos n
  have p8 : B8 (putL n) := putL_B8 _ n hn0 (Nat.le_refl _)
  obtain ⟨ps, hps⟩ : ∃ ps, ps = putL n := ⟨_, rfl⟩
  rw [← hps] at o3 ln lp p8
  rw [← hps]
  have z3 := b3.size
  clear hps b3
  go_wp2_with fail
  refine (l1Next_any _ _ _ A c l w3 S3 (by omega) (by omega) (by omega)).mono ?_
  rintro e w4 ⟨r, rfl, hr0, hr1, S4, g4⟩
  have hr : r < 3 := by omega
  obtain ⟨q, rfl⟩ := Int.eq_ofNat_of_zero_le hr0
  have hq : q ≤ 2 := by omega
  have o4 := o3.kept g4 (.inr (fun e => own_apart o3 _ (.inl S2.lt) e.symm))
  have B4 := grown_from B3 g4 B3.size (Nat.le_refl _)
  clear hr1 hr0 hr o3
  go_wp2_with fail
  refine (l1Some_any _ _ q A c l w4 S4 (by omega)).mono ?_
  rintro e w5 ⟨xs, D2, d2, rfl, hx, x8, o5, S5, g5⟩
  have hx2 : xs.length ≤ 2 := by omega
  clear hx
  have o5' := o4.kept g5 (.inr (fun e => own_apart o4 _ (.inl S2.lt) e.symm))
  have B5 := grown_from B4 g5 B4.size (Nat.le_refl _)
  have r5 := Rd.of_own o5
  have z2 : w2.heap.size ≤ w5.heap.size := by have := g5.size; have := g4.size; omega
  clear o4 o5 z3
  go_wp2_with (at_builtin; refine wpList_append_rd _ rfl (.tmp 9) (.tmp 13) 22 rfl w2.heap.size 5 i0 (.int .u8 0) 1 Tryd.underlying22 hi hz0 hz1 hz2 rfl .u8 _ _ _ rfl o5' _ xs d2 _ rfl r5 (by unfold maxLen; omega) (by omega) z2 ?_; intro v6 w6 o6 hg6 hat6; have S6 := S5.below (grown_below o5' hg6 z2 (Nat.le_refl _)) S2.lt; have B6 : Below w.heap.size w w6 := B5.trans (grown_below o5' hg6 B5.size (Nat.le_of_lt S2.lt)); have z6 := hg6.size; clear hg6 hat6 o5' r5; have e6 : ps.length + xs.length = (ps ++ xs).length := List.length_append.symm; rw [← List.map_append, e6] at o6; obtain ⟨D6, d6, hv6⟩ := own_shape o6; rw [hv6] at o6; rw [hv6]; clear hv6 e6)
  have y8 : B8 (ps ++ xs) := p8.append x8
  have yl : (ps ++ xs).length ≤ 11 := by simp; omega
  have yp : 0 < (ps ++ xs).length := by simp; omega
  obtain ⟨ys, hys⟩ : ∃ ys, ys = ps ++ xs := ⟨_, rfl⟩
  rw [← hys] at o6 y8 yl yp
  have e7 : ps.length + xs.length = ys.length := by rw [hys, List.length_append]
  rw [e7]
  clear e7 hys p8 x8 lp ln hx2
  refine (l1Next_any _ _ _ A c l w6 S6 (by omega) (by omega) (by omega)).mono ?_
  rintro e w7 ⟨r7, rfl, h70, h71, S7, g7⟩
  have o7 := o6.kept g7 (.inr (fun e => own_apart o6 _ (.inl S2.lt) e.symm))
  have B7 := grown_from B6 g7 B6.size (Nat.le_refl _)
  have z7 : w2.heap.size ≤ w7.heap.size := by have := g7.size; omega
  clear o6 B6 S6 z6 g7 h71
  by_cases c0 : r7 = 0
  · subst c0
    go_wp2_with fail
    refine (l1Next_any _ _ _ A c l w7 S7 (by omega) (by omega) (by omega)).mono ?_
    rintro e w8 ⟨r8, rfl, h80, h81, S8, g8⟩
    have hr8 : r8 < ys.length := by omega
    obtain ⟨q8, rfl⟩ := Int.eq_ofNat_of_zero_le h80
    have hq8 : q8 < ys.length := by omega
    have o8 := o7.kept g8 (.inr (fun e => own_apart o7 _ (.inl S2.lt) e.symm))
    have Bw8 := grown_from B7 g8 B7.size (Nat.le_refl _)
    have hcap := own_cap o8
    clear h81 h80 hr8 o7
    go_wp2
    go_ret
    have e8 : (ys.take q8).length = q8 := by simp; omega
    refine ⟨.slice D6 q8 d6, rfl, ⟨ys.take q8, D6, d6, by rw [e8], by omega, by omega, y8.take _, (Rd.of_own o8).take _⟩, Bw8⟩
  · have t0 : (r7 == 0) = false := beq_eq_false_iff_ne.2 c0
    by_cases c1 : r7 = 1
    · subst c1
      go_wp2_with fail
      refine (l1Next_any _ _ _ A c l w7 S7 (by omega) (by omega) (by omega)).mono ?_
      rintro e w8 ⟨r8, rfl, h80, h81, S8, g8⟩
      have hr8 : r8 < ys.length := by omega
      obtain ⟨q8, rfl⟩ := Int.eq_ofNat_of_zero_le h80
      have hq8 : q8 < ys.length := by omega
      have o8 := o7.kept g8 (.inr (fun e => own_apart o7 _ (.inl S2.lt) e.symm))
      have Bw8 := grown_from B7 g8 B7.size (Nat.le_refl _)
      clear h81 h80 hr8 o7
      go_wp2_with fail
      refine (l1Pick_any _ _ _ [0, 128, 255] A c l _ _ (S8.alloc _) (by omega) (by simp) (by simp) (Bk.new _ _ _) (by have := S8.lt; omega)).mono ?_
      rintro e w9 ⟨r9, rfl, hm, S9, g9⟩
      have h9 : 0 ≤ r9 ∧ r9 < 256 := by simp at hm; omega
      obtain ⟨h90, h91⟩ := h9
      clear hm
      have o9 := (o8.alloc (.cells #[.int .i64 0, .int .i64 128, .int .i64 255] 2)).kept g9 (.inr (fun e => own_apart o8 _ (.inl S2.lt) e.symm))
      have Bw9 := grown_from Bw8 (grown_alloc g9) Bw8.size (Nat.le_refl _)
      obtain ⟨gg, rfl⟩ : ∃ gg, D6 = some ⟨gg, 0, none⟩ := by
        rcases o9.2 with ⟨h', h''⟩ | ⟨gg, cap, cur, h', _⟩
        · omega
        · simp only [Value.slice.injEq, true_and] at h'
          exact ⟨gg, h'.1⟩
      have hgg : w.heap.size ≤ gg := by have := (o9.lt gg rfl).1; have := S2.lt; omega
      have hf := o9.frozenAt q8
      obtain ⟨vv, hx⟩ : ∃ vv, w9.cell? ⟨gg, q8, none⟩ = some vv := by
        rw [o9.cellAt q8 (by omega)]
        exact ⟨_, List.getElem?_eq_getElem (by rw [o9.1]; omega)⟩
      have HO := hide (o9.stored q8 (.int .u8 r9)).1
      have HC := hide (own_cap o9)
      clear o8 o9
      go_wp2
      go_ret
      have e9 : (ys.set q8 r9).length = ys.length := by simp
      have o10 : (w9.setCell ⟨gg, q8, none⟩ (.int .u8 r9)).ownsRow w2.heap.size 5 1 (.slice (some ⟨gg, 0, none⟩) ys.length d6) ys.length ((ys.set q8 r9).map (Value.int .u8)) := by
        have := HO.out
        rwa [← List.map_set] at this
      refine ⟨.slice (some ⟨gg, 0, none⟩) ys.length d6, rfl, ⟨ys.set q8 r9, some ⟨gg, 0, none⟩, d6, by rw [e9], by omega, by have := HC.out; omega, ?_, Rd.of_own o10⟩, Bw9.setCell hgg _⟩
      intro x hx
      rcases List.mem_or_eq_of_mem_set hx with a | rfl
      · exact y8 x a
      · omega
    · have t1 : (r7 == 1) = false := beq_eq_false_iff_ne.2 c1
      by_cases c2 : r7 = 2
      · subst c2
        have hR7 := Rd.of_own (k := .u8) o7
        go_wp2_with (at_builtin; refine wpList_append_rd _ rfl (.tmp 39) (.tmp 40) 22 rfl w7.heap.size 5 i0 (.int .u8 0) 1 Tryd.underlying22 hi hz0 hz1 hz2 rfl .u8 _ _ _ rfl (World.ownsRow_lit w7 #[.int .u8 255, .int .u8 255, .int .u8 255, .int .u8 255, .int .u8 255, .int .u8 255, .int .u8 255, .int .u8 255] 8 (Nat.le_refl _) (by unfold maxLen; omega) rfl) D6 ys d6 w7.heap.size rfl (hR7.alloc (Nat.le_refl _) _) (by unfold maxLen; omega) (by omega) (by simp) ?_; intro v8 w8 o8 hg8 hat8; have Bw8 : Below w.heap.size w w8 := (B7.alloc B7.size _).trans ((Below.refl _ _).grown hg8 (by simp; have := B7.size; omega) (fun k hk => by simp [Act.eval, Value.ownBlock] at hk; have := B7.size; omega)); clear hg8 hat8; obtain ⟨D8, d8, hv8⟩ := own_shape o8; rw [hv8] at o8; rw [hv8]; clear hv8)
        go_ret
        have e8 : 8 + ys.length = ([255, 255, 255, 255, 255, 255, 255, 255] ++ ys).length := by simp; omega
        have o8' : w8.ownsRow w7.heap.size 5 1 (.slice D8 ([255, 255, 255, 255, 255, 255, 255, 255] ++ ys).length d8) ([255, 255, 255, 255, 255, 255, 255, 255] ++ ys).length (([255, 255, 255, 255, 255, 255, 255, 255] ++ ys).map (Value.int .u8)) := by
          rw [← e8]
          exact o8
        refine ⟨_, rfl, ?_, Bw8⟩
        have := IsBytes.of_own (m := 4001) o8' (fun x hx => by
          rcases List.mem_append.1 hx with a | a
          · simp at a; omega
          · exact y8 x a) (by simp; omega)
        rw [← e8] at this
        exact this
      · have t2 : (r7 == 2) = false := beq_eq_false_iff_ne.2 c2
        go_wp2
        go_ret
        exact ⟨_, rfl, IsBytes.of_own o7 y8 (by omega), B7⟩

theorem u8_xor_one (x : Int) (h0 : 0 ≤ x) (h1 : x < 256) : 0 ≤ bits .xor .u8 x 1 ∧ bits .xor .u8 x 1 < 256 := by
  rw [u8_xor x 1 h0 h1 (by omega) (by omega)]
  have : x.toNat ^^^ (1 : Int).toNat < 2 ^ 8 := Nat.xor_lt_two_pow (by omega) (by decide)
  omega

set_option maxHeartbeats 800000 in
theorem DrawSameBytes_any (l : List Int) (A : Option Addr) (c : Nat) (w : World) (hl : l.length ≤ 1048576) (hR : Rd .u8 w w.heap.size A l) (b8 : B8 l) :
    Calls Tryd.prog 16 #[.slice A l.length c] w fun e w' => ∃ v1 v2, e = .returned (.tuple #[v1, v2]) ∧ IsBytes 4001 v1 w' ∧ IsBytes 4001 v2 w' ∧ Below w.heap.size w w' := by
  go_enter Tryd.func16, Tryd.ntmps16
  go_wp2_with fail
  refine (l1Source_any l A c w hR b8 hl).mono ?_
  rintro e w1 ⟨rfl, S1, B1⟩
  go_wp2_with fail
  refine (l1Next_any _ _ _ A c l w1 S1 (by omega) (by omega) (by omega)).mono ?_
  rintro e w2 ⟨r, rfl, hr0, hr1, S2, g2⟩
  have hr : r < 9 := by omega
  obtain ⟨q, rfl⟩ := Int.eq_ofNat_of_zero_le hr0
  have hq : q < 9 := by omega
  have B2 := grown_from B1 g2 B1.size (Nat.le_refl _)
  clear hr1 hr0 hr
  go_wp2_with fail
  refine (l1Some_any _ _ q A c l w2 S2 (by omega)).mono ?_
  rintro e w3 ⟨xs, D1, d1, rfl, hx, x8, o3, S3, g3⟩
  have hx2 : xs.length < 9 := by omega
  clear hx
  have B3 := grown_from B2 g3 B2.size (Nat.le_refl _)
  go_wp2_with fail
  refine (l1Copy_any xs D1 d1 w3 (by omega) (Rd.of_own o3)).mono ?_
  rintro e w4 ⟨D2, d2, rfl, o4, b4⟩
  have S4 := S3.below b4 S3.lt
  have B4 := B3.trans (b4.mono B3.size)
  have o3' := own_below o3 b4 (Nat.le_refl _)
  have z3 := B3.size
  have z23 := g3.size
  have hs2 := S2.lt
  have hs3 := S3.lt
  have hlt3 : ∀ k, (Value.slice D1 xs.length d1).ownBlock = some k → k < w3.heap.size := fun k hk => (o3.lt k hk).2
  clear b4 o3
  by_cases h0 : 0 < xs.length
  · go_wp2_with fail
    refine (l1Chance_any _ _ _ A c l w4 S4 (by omega) (by omega) (by omega)).mono ?_
    rintro e w5 ⟨b, rfl, S5, g5⟩
    have o5 := o4.kept g5 (.inr (fun e => own_apart o4 _ (.inl hs3) e.symm))
    have o5' := o3'.kept g5 (.inr (fun e => own_apart o3' _ (.inl hs2) e.symm))
    have B5 := grown_from B4 g5 B4.size (Nat.le_refl _)
    cases b
    · go_wp2
      go_ret2
      exact ⟨_, _, rfl, IsBytes.of_own o5' x8 (by omega), IsBytes.of_own o5 x8 (by omega), B5⟩
    · go_wp2_with fail
      refine (l1Next_any _ _ _ A c l w5 S5 (by omega) (by omega) (by omega)).mono ?_
      rintro e w6 ⟨r6, rfl, h60, h61, S6, g6⟩
      have hr6 : r6 < xs.length := by omega
      obtain ⟨q6, rfl⟩ := Int.eq_ofNat_of_zero_le h60
      have hq6 : q6 < xs.length := by omega
      have o6 := o5.kept g6 (.inr (fun e => own_apart o5 _ (.inl hs3) e.symm))
      have o6' := o5'.kept g6 (.inr (fun e => own_apart o5' _ (.inl hs2) e.symm))
      have B6 := grown_from B5 g6 B5.size (Nat.le_refl _)
      clear h61 h60 hr6
      obtain ⟨gg, rfl⟩ : ∃ gg, D2 = some ⟨gg, 0, none⟩ := by
        rcases o6.2 with ⟨h', h''⟩ | ⟨gg, cap, cur, h', _⟩
        · omega
        · simp only [Value.slice.injEq, true_and] at h'
          exact ⟨gg, h'.1⟩
      have hgg := (o6.lt gg rfl).1
      have hf := o6.frozenAt q6
      have hx : w6.cell? ⟨gg, q6, none⟩ = some (.int .u8 xs[q6]) := by
        rw [o6.cellAt q6 (by omega)]
        simp [hq6]
      have hxr := x8.get q6 hq6
      have hb := u8_xor_one xs[q6] hxr.1 hxr.2
      obtain ⟨y, hy⟩ : ∃ y, bits .xor .u8 xs[q6] 1 = y := ⟨_, rfl⟩
      rw [hy] at hb
      have HO := hide (o6.stored q6 (.int .u8 y)).1
      have HC := hide (own_cap o6)
      have HB := hide (grown_set w6 gg q6 (.int .u8 y))
      have HA : Hid (some gg ≠ (Value.slice D1 xs.length d1).ownBlock) := hide (fun e => by have := hlt3 gg e.symm; omega)
      have HO' := hide (o6'.kept HB.out (.inr (fun e => HA.out e.symm)))
      clear hlt3
      clear o4 o5 o5' o3' o6 o6'
      go_wp2
      go_ret2
      have e6 : (xs.set q6 y).length = xs.length := by simp
      have o7 : (w6.setCell ⟨gg, q6, none⟩ (.int .u8 y)).ownsRow w3.heap.size 5 1 (.slice (some ⟨gg, 0, none⟩) xs.length d2) xs.length ((xs.set q6 y).map (Value.int .u8)) := by
        have := HO.out
        rwa [← List.map_set] at this
      refine ⟨.slice D1 xs.length d1, .slice (some ⟨gg, 0, none⟩) xs.length d2, rfl, IsBytes.of_own HO'.out x8 (by omega), ⟨xs.set q6 y, some ⟨gg, 0, none⟩, d2, by rw [e6], by omega, by have := HC.out; omega, ?_, Rd.of_own o7⟩, B6.setCell (by show w.heap.size ≤ gg; omega) _⟩
      intro x hx
      rcases List.mem_or_eq_of_mem_set hx with a | rfl
      · exact x8 x a
      · exact hb
  · go_wp2
    go_ret2
    exact ⟨_, _, rfl, IsBytes.of_own o3' x8 (by omega), IsBytes.of_own o4 x8 (by omega), B4⟩
end Go.Proofs.YtechfdnfmapafaaDoor
