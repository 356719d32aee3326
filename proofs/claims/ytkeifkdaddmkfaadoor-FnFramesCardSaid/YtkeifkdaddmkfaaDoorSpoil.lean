/- Contracts of the model's spoilt bytes, and of the draw of bytes to read steps of. -/
import Derived.Test.YtkeifkdaddmkfaaDoorDrawEv
import Derived.Test.YtkeifkdaddmkfaaDoorOwnT
import Derived.Test.YtkeifkdaddmkfaaDoorPackS
import Derived.Laws.BitsAllLaws
namespace Go.Proofs.YtkeifkdaddmkfaaDoor
open Go.RowKit

/-- Bytes to read; below B nothing is turned. -/
def BytPost (B m : Nat) (w : World) (e : Ending) (w' : World) : Prop := ∃ (ys : List Int) (D : Option Addr) (d : Nat), e = .returned (.slice D ys.length d) ∧ ys.length ≤ m ∧ ys.length ≤ d ∧ B8 ys ∧ Rd .u8 w' w'.heap.size D ys ∧ Below B w w'
theorem B8.set_ {xs : List Int} (h : B8 xs) (q : Nat) {r : Int} (h0 : 0 ≤ r) (h1 : r < 256) : B8 (xs.set q r) := fun x hx => by
  rcases List.mem_or_eq_of_mem_set hx with a | a
  · exact h x a
  · rw [a]; exact ⟨h0, h1⟩

set_option maxRecDepth 100000 in
set_option maxHeartbeats 1600000 in
theorem l2SpoilN_any (g k base B : Nat) (A : Option Addr) (c : Nat) (l : List Int) (w : World) (hS : Src w g A c l k) (hk : k ≤ 900) (xs : List Int) (D : Option Addr) (d N : Nat) (hN : N ≤ 990) (hx : xs.length ≤ N) (x8 : B8 xs)
    (hrow : w.ownsRow base 5 1 (.slice D xs.length d) xs.length (xs.map (Value.int .u8))) (hgb : g < base) (hb : base ≤ w.heap.size) (hB : B ≤ g) :
    Calls Tryd.prog 41 #[.pointer (some ⟨g, 0, none⟩), .slice D xs.length d] w (BytPost B (N + 2) w) := by
  obtain ⟨i0, hi, hz0, hz1, hz2⟩ := info_parts info_u8
  have hcp := own_capE hrow
  have hgl := hS.lt
  by_cases h0 : xs.length = 0
  · have e0 : ((xs.length : Int) == 0) = true := beq_iff_eq.2 (by omega)
    clear h0
    go_enter Tryd.func41, Tryd.ntmps41
    go_wp2
    go_ret
    exact ⟨xs, D, d, rfl, by omega, hcp.1, x8, Rd.of_own hrow, Below.refl _ _⟩
  · have e0 : ((xs.length : Int) == 0) = false := beq_eq_false_iff_ne.2 (by omega)
    go_enter Tryd.func41, Tryd.ntmps41
    go_wp2_with fail
    refine (l1Next_any g k 5 A c l _ hS (by omega) (by omega) (by omega)).mono ?_
    rintro e w1 ⟨s, rfl, s0, s1, S1, g1⟩
    have o1 := hrow.kept g1 (own_sep fun b hb e => by have := hrow.lt b hb; simp at e; omega)
    have B1 : Below B w w1 := (Below.refl _ _).grown g1 (by omega) (fun k hk => by simp at hk; omega)
    have z1 := g1.size
    clear s1 g1
    by_cases a0 : s = 0
    · subst a0
      go_wp2_with fail
      refine (l1Next_any g (k + 1) _ A c l _ S1 (by omega) (by omega) (by omega)).mono ?_
      rintro e w2 ⟨r, rfl, r0, r1, S2, g2⟩
      have hr : r < xs.length := by omega
      obtain ⟨q, rfl⟩ := Int.eq_ofNat_of_zero_le r0
      have hq : q < xs.length := by omega
      have o2 := o1.kept g2 (own_sep fun b hb e => by have := o1.lt b hb; simp at e; omega)
      have B2 := B1.grown g2 (by omega) (fun k hk => by simp at hk; omega)
      have z2 := g2.size
      clear r1 hr g2
      go_wp2_with fail
      refine (l1Pick_any g (k + 2) _ [0, 1, 2, 127, 128, 255] A c l _ _ (S2.alloc _) (by omega) (by simp) (by simp) (Bk.new _ _ _) (by have := S2.lt; omega)).mono ?_
      rintro e w3 ⟨v, rfl, hv, S3, g3⟩
      have o3 := (o2.alloc (.cells #[.int .i64 0, .int .i64 1, .int .i64 2, .int .i64 127, .int .i64 128, .int .i64 255] 2)).kept g3 (own_sep fun b hb e => by have := o2.lt b hb; simp at e; omega)
      have B3 := (B2.alloc (by omega) (.cells #[.int .i64 0, .int .i64 1, .int .i64 2, .int .i64 127, .int .i64 128, .int .i64 255] 2)).grown g3 (by simp; omega) (fun k hk => by simp at hk; omega)
      have hv' : 0 ≤ v ∧ v < 256 := by simp at hv; omega
      obtain ⟨hv0, hv1⟩ := hv'
      obtain ⟨gb, rfl⟩ : ∃ g, D = some ⟨g, 0, none⟩ := by
        rcases o3.2 with ⟨h', h''⟩ | ⟨g, cap, cur, h', _⟩
        · omega
        · simp only [Value.slice.injEq, true_and] at h'
          exact ⟨g, h'.1⟩
      have hf := o3.frozenAt q
      obtain ⟨x, hc⟩ : ∃ v, w3.cell? ⟨gb, q, none⟩ = some v := by
        rw [o3.cellAt q (by omega)]
        exact ⟨_, List.getElem?_eq_getElem (by rw [o3.1]; omega)⟩
      have hst := o3.stored q (.int .u8 v)
      have hgb2 := (o3.lt gb rfl).1
      have HS := hide hst.1
      have B4 : Below B w (w3.setCell ⟨gb, q, none⟩ (.int .u8 v)) := B3.setCell (by simp only; omega) _
      have HB := hide B4
      clear hst hv o1 o2 o3 B1 B2 B3 B4 S1 S2 S3 g3
      go_wp2
      go_ret
      have hrow' := HS.out
      rw [show (xs.map (Value.int IntKind.u8)).set q (.int .u8 v) = (xs.set q v).map (Value.int .u8) by rw [List.map_set]] at hrow'
      exact ⟨xs.set q v, some ⟨gb, 0, none⟩, d, (by rw [List.length_set]; rfl), by rw [List.length_set]; omega, by rw [List.length_set]; exact hcp.1, x8.set_ q hv0 hv1, Rd.of_own hrow', HB.out⟩
    · by_cases a1 : s = 1
      · subst a1
        clear a0
        go_wp2_with fail
        refine (l1Next_any g (k + 1) _ A c l _ S1 (by omega) (by omega) (by omega)).mono ?_
        rintro e w2 ⟨r, rfl, r0, r1, S2, g2⟩
        have hr : r < xs.length := by omega
        obtain ⟨q, rfl⟩ := Int.eq_ofNat_of_zero_le r0
        have hq : q < xs.length := by omega
        have hqd : q ≤ d := by omega
        have o2 := o1.kept g2 (own_sep fun b hb e => by have := o1.lt b hb; simp at e; omega)
        have B2 := B1.grown g2 (by omega) (fun k hk => by simp at hk; omega)
        have r2 := (Rd.of_own o2).take q
        have hlt : (xs.take q).length = q := by rw [List.length_take]; omega
        have HL := hide hlt
        clear r1 hr g2 hlt
        go_wp2
        go_ret
        exact ⟨xs.take q, D, d, (by rw [HL.out]; rfl), by rw [HL.out]; omega, by rw [HL.out]; omega, x8.take q, r2, B2⟩
      · by_cases a2 : s = 2
        · subst a2
          clear a0 a1
          go_wp2_with fail
          refine (l1Pick_any g (k + 1) _ [1, 2] A c l _ _ (S1.alloc _) (by omega) (by simp) (by simp) (Bk.new _ _ _) (by have := S1.lt; omega)).mono ?_
          rintro e w2 ⟨r, rfl, hm, S2, g2⟩
          have hm' : r = 1 ∨ r = 2 := by simpa using hm
          obtain ⟨n, rfl⟩ := Int.eq_ofNat_of_zero_le (show 0 ≤ r by omega)
          have hn : n ≤ 2 := by omega
          have o2 := (o1.alloc (.cells #[.int .i64 1, .int .i64 2] 2)).kept g2 (own_sep fun b hb e => by have := o1.lt b hb; simp at e; omega)
          have B2 := (B1.alloc (by omega) (.cells #[.int .i64 1, .int .i64 2] 2)).grown g2 (by simp; omega) (fun k hk => by simp at hk; omega)
          have z2 : w1.heap.size ≤ w2.heap.size := by have := g2.size; simp at this; omega
          clear hm hm' g2
          go_wp2_with fail
          refine (l1Some_any g (k + 2) n A c l w2 S2 (by omega)).mono ?_
          rintro e w3 ⟨zs, D3, d3, rfl, hzl, z8, o3, S3, g3⟩
          have o2' := o2.kept g3 (own_sep fun b hb e => by have := o2.lt b hb; simp at e; omega)
          have B3 := B2.grown g3 (by omega) (fun k hk => by simp at hk; omega)
          have z3 := g3.size
          have r3 := Rd.of_own o3
          have hzz : zs.length ≤ 2 := by omega
          clear g3 o2 hzl
          go_wp2_with (at_builtin; refine wpList_append_rd _ rfl (.tmp 33) (.tmp 38) 22 rfl base 5 i0 (.int .u8 0) 1 Tryd.underlying22 hi hz0 hz1 hz2 rfl .u8 _ _ _ rfl o2' D3 zs d3 _ rfl r3 (by unfold maxLen; omega) (by omega) (by omega) ?_; intro v4 w4 o4 g4 hat4)
          have B4 := B3.trans (grown_below o2' g4 (by omega) (by omega : B ≤ base))
          have e4 : xs.length + zs.length = (xs ++ zs).length := List.length_append.symm
          rw [← List.map_append, e4] at o4
          obtain ⟨D5, d5, hv⟩ := own_shape o4
          have HV := hide hv
          clear hv g4 hat4
          go_wp2
          go_ret
          have o5 := o4
          rw [HV.out] at o5
          have hcp5 := own_capE o5
          exact ⟨xs ++ zs, D5, d5, congrArg Ending.returned HV.out, by rw [← e4]; omega, hcp5.1, x8.append z8, Rd.of_own o5, B4⟩
        · have b0 : (s == 0) = false := beq_eq_false_iff_ne.2 a0
          have b1 : (s == 1) = false := beq_eq_false_iff_ne.2 a1
          have b2 : (s == 2) = false := beq_eq_false_iff_ne.2 a2
          clear a0 a1 a2
          go_wp2
          go_ret
          exact ⟨xs, D, d, rfl, by omega, hcp.1, x8, Rd.of_own o1, B1⟩
theorem l2Spoil_any (g k base B : Nat) (A : Option Addr) (c : Nat) (l : List Int) (w : World) (hS : Src w g A c l k) (hk : k ≤ 900) (xs : List Int) (D : Option Addr) (d : Nat) (hx : xs.length ≤ 150) (x8 : B8 xs)
    (hrow : w.ownsRow base 5 1 (.slice D xs.length d) xs.length (xs.map (Value.int .u8))) (hgb : g < base) (hb : base ≤ w.heap.size) (hB : B ≤ g) :
    Calls Tryd.prog 41 #[.pointer (some ⟨g, 0, none⟩), .slice D xs.length d] w (BytPost B 152 w) :=
  l2SpoilN_any g k base B A c l w hS hk xs D d 150 (by omega) hx x8 hrow hgb hb hB
end Go.Proofs.YtkeifkdaddmkfaaDoor
