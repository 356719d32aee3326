/- Contracts of the draws of steps and traces that are the same, or not. -/
import Derived.Test.YtjdbakebcdkfcaaDrawSt
namespace Go.Proofs.Ytjdbakebcdkfcaa
open Go.RowKit

def Two (w : World) (e : Ending) (w' : World) : Prop := ∃ (a b : List Ev) (D D' : Option Addr) (d d' : Nat), e = .returned (.tuple #[.slice D a.length d, .slice D' b.length d']) ∧ a.length ≤ 20 ∧ b.length ≤ 20 ∧ RdE w' w'.heap.size D a ∧ RdE w' w'.heap.size D' b ∧ Below w.heap.size w w'
def TwoT (w : World) (e : Ending) (w' : World) : Prop := ∃ (a b : List (List Ev)) (D D' : Option Addr) (d d' : Nat), e = .returned (.tuple #[.slice D a.length d, .slice D' b.length d']) ∧ a.length ≤ 5 ∧ b.length ≤ 5 ∧ (∀ x ∈ a, x.length ≤ 20) ∧ (∀ x ∈ b, x.length ≤ 20) ∧ RdT w' w'.heap.size D a ∧ RdT w' w'.heap.size D' b ∧ Below w.heap.size w w'
theorem evs_set_v (es : List Ev) (i : Nat) (h : i < es.length) (n : Int) : (evs es).set (i * 3 + 2) (.int .i64 n) = evs (es.set i ⟨es[i].k, es[i].a, n⟩) := by
  apply List.ext_getElem?
  intro j
  by_cases hj : j < es.length * 3
  · obtain ⟨q, hq0, hr⟩ : ∃ q, q < es.length ∧ (j = q * 3 ∨ j = q * 3 + 1 ∨ j = q * 3 + 2) := ⟨j / 3, by omega, by omega⟩
    have h1 := evs_get es q hq0
    have h2 := evs_get (es.set i ⟨es[i].k, es[i].a, n⟩) q (by rw [List.length_set]; exact hq0)
    by_cases hqi : q = i
    · subst hqi
      rw [List.getElem_set_self] at h2
      rcases hr with rfl | rfl | rfl
      · rw [List.getElem?_set_ne (by omega), h1.1, h2.1]
      · rw [List.getElem?_set_ne (by omega), h1.2.1, h2.2.1]
      · rw [List.getElem?_set_self (by rw [evs_length]; omega), h2.2.2]
    · rw [List.getElem_set_ne (by omega)] at h2
      rcases hr with rfl | rfl | rfl
      · rw [List.getElem?_set_ne (by omega), h1.1, h2.1]
      · rw [List.getElem?_set_ne (by omega), h1.2.1, h2.2.1]
      · rw [List.getElem?_set_ne (by omega), h1.2.2, h2.2.2]
  · rw [List.getElem?_eq_none (by rw [List.length_set, evs_length]; omega), List.getElem?_eq_none (by rw [evs_length, List.length_set]; omega)]

set_option maxRecDepth 100000 in
set_option maxHeartbeats 1000000 in
theorem DrawSameSteps_any (l : List Int) (A : Option Addr) (c : Nat) (w : World) (hl : l.length ≤ 1048576) (hR : Rd .u8 w w.heap.size A l) (b8 : B8 l) :
    Calls Try.prog 16 #[.slice A l.length c] w (Two w) := by
  obtain ⟨i0, hi, hz0, hz1, hz2⟩ := info_parts info_event
  go_enter Try.func16, Try.ntmps16
  go_wp2_with fail
  refine (l1Source_any l A c w hR b8 hl).mono ?_
  rintro e w1 ⟨rfl, S1, B1⟩
  go_wp2_with fail
  refine (l2Steps_any _ _ 5 A c l w1 S1 (by omega) (by omega)).mono ?_
  rintro e w2 ⟨es, D, d, rfl, hes, hev, o2, k2, hk2, S2, g2⟩
  have B2 := grown_from B1 g2 B1.size (Nat.le_refl _)
  have z2 := S2.lt
  have z1 := S1.lt
  have r2 := RdE.of_own o2
  clear g2 S1
  by_cases hpos : 0 < es.length
  · go_wp2_with (at_builtin; refine wpList_append_re _ rfl (.tmp 11) (.tmp 12) 24 rfl w2.heap.size 39 i0 (.agg #[.int .i64 0, .int .i64 0, .int .i64 0]) 24 Try.underlying24 hi hz0 hz1 hz2 rfl (.slice (some ⟨w2.heap.size, 0, none⟩) 0 0) 0 [] rfl (World.ownsRow_lit w2 #[] 0 (Nat.le_refl _) (by simp) rfl) D es d w2.heap.size rfl (r2.alloc (Nat.le_refl _) _) (by unfold maxLen; omega) (by omega) (by simp) ?_; intro v3 w3 o3 g3 hat3; rw [Nat.zero_add, List.nil_append] at o3; have b3 : Below w2.heap.size w2 w3 := ((Below.refl _ _).alloc (Nat.le_refl _) _).grown g3 (by simp) (fun k hk => by simp [Value.ownBlock] at hk; omega); clear g3 hat3; obtain ⟨D3, d3, hv3⟩ := own_shape o3; rw [hv3] at o3; rw [hv3]; clear hv3)
    have za := o2.lt
    have o2 := own_below o2 b3 (Nat.le_refl _)
    have B3 := B2.trans (b3.mono B2.size)
    have S3 := S2.below b3 z2
    have z3 := b3.size
    clear b3 r2 B2 S2
    refine (l1Chance_any _ _ 2 A c l _ S3 (by omega) (by omega) (by omega)).mono ?_
    rintro e w4 ⟨b, rfl, S4, g4⟩
    have o2 := o2.kept g4 (own_sep fun b hb e => by have := za b hb; have := S4.lt; simp at e; have := B1.size; omega)
    have o3 := o3.kept g4 (own_sep fun b hb e => by have := o3.lt b hb; simp at e; omega)
    have B4 := B3.grown g4 B3.size (fun k hk => by simp at hk; omega)
    cases b
    · go_wp2
      go_ret2
      exact ⟨es, es, D, D3, d, d3, rfl, by omega, by omega, RdE.of_own o2, RdE.of_own o3, B4⟩
    · go_wp2_with fail
      refine (l1Next_any _ _ _ A c l _ S4 (by omega) (by omega) (by omega)).mono ?_
      rintro e w5 ⟨r, rfl, r0, r1, S5, g5⟩
      have hr : r < es.length := by omega
      obtain ⟨q, rfl⟩ := Int.eq_ofNat_of_zero_le r0
      have hq : q < es.length := by omega
      clear r1 hr
      have o2 := o2.kept g5 (own_sep fun b hb e => by have := o2.lt b hb; simp at e; have := B1.size; omega)
      have o3 := o3.kept g5 (own_sep fun b hb e => by have := o3.lt b hb; simp at e; omega)
      have B5 := B4.grown g5 B4.size (fun k hk => by simp at hk; omega)
      obtain ⟨gb, rfl⟩ : ∃ g, D3 = some ⟨g, 0, none⟩ := by
        rcases o3.2 with ⟨h', h''⟩ | ⟨g, cap, cur, h', _⟩
        · omega
        · simp only [Value.slice.injEq, true_and] at h'
          exact ⟨g, h'.1⟩
      have hev := evF_zero (hev _ (List.getElem_mem hq))
      have hgt := evs_get es q hq
      have hf := o3.frozenAt (q * 3 + 2)
      have hc : w5.cell? ⟨gb, q * 3 + 2, none⟩ = some (.int .i64 es[q].v) := by
        rw [o3.cellAt (q * 3 + 2) (by omega)]
        exact hgt.2.2
      have hst := o3.stored (q * 3 + 2) (.int .i64 (es[q].v + 1))
      rw [evs_set_v es q hq] at hst
      have o2 := o2.kept hst.2 (own_sep fun b hb e => by have := za b hb; have := (o3.lt gb rfl).1; simp at e; omega)
      have B6 := B5.grown hst.2 B5.size (fun k hk => by have := (o3.lt gb rfl).1; simp at hk; omega)
      have HS := hide hst.1
      have HO := hide o2
      have HB := hide B6
      obtain ⟨hk0, ha1, ha2, hv1, hv2⟩ := hev
      clear hst o2 o3 B5 B6 S5 g5 S4 g4 hgt
      go_wp2
      go_ret2
      exact ⟨es, es.set q ⟨es[q].k, es[q].a, es[q].v + 1⟩, D, some ⟨gb, 0, none⟩, d, d3, (by rw [List.length_set]; rfl), by omega, by rw [List.length_set]; omega, RdE.of_own HO.out, RdE.of_own HS.out, HB.out⟩
  · go_wp2_with (at_builtin; refine wpList_append_re _ rfl (.tmp 11) (.tmp 12) 24 rfl w2.heap.size 39 i0 (.agg #[.int .i64 0, .int .i64 0, .int .i64 0]) 24 Try.underlying24 hi hz0 hz1 hz2 rfl (.slice (some ⟨w2.heap.size, 0, none⟩) 0 0) 0 [] rfl (World.ownsRow_lit w2 #[] 0 (Nat.le_refl _) (by simp) rfl) D es d w2.heap.size rfl (r2.alloc (Nat.le_refl _) _) (by unfold maxLen; omega) (by omega) (by simp) ?_; intro v3 w3 o3 g3 hat3; rw [Nat.zero_add, List.nil_append] at o3; have b3 : Below w2.heap.size w2 w3 := ((Below.refl _ _).alloc (Nat.le_refl _) _).grown g3 (by simp) (fun k hk => by simp [Value.ownBlock] at hk; omega); clear g3 hat3; obtain ⟨D3, d3, hv3⟩ := own_shape o3; rw [hv3] at o3; rw [hv3]; clear hv3)
    have za := o2.lt
    have o2 := own_below o2 b3 (Nat.le_refl _)
    have B3 := B2.trans (b3.mono B2.size)
    have S3 := S2.below b3 z2
    have z3 := b3.size
    clear b3 r2 B2 S2
    go_ret2
    exact ⟨es, es, D, D3, d, d3, rfl, by omega, by omega, RdE.of_own o2, RdE.of_own o3, B3⟩
end Go.Proofs.Ytjdbakebcdkfcaa
