/- Contracts of the model's copy of a trace, and of the draw of two traces that are the same, or not. -/
import Derived.Test.YtjdbakebcdkfcaaDrawSame
namespace Go.Proofs.Ytjdbakebcdkfcaa
open Go.RowKit

/-- A copy, each row new. -/
def CopyPost (t : List (List Ev)) (w : World) (e : Ending) (w' : World) : Prop := ∃ (us : List Value) (D : Option Addr) (d : Nat), e = .returned (.slice D t.length d) ∧ OwnT w' w.heap.size (.slice D t.length d) t us ∧ Below w.heap.size w w'

set_option maxRecDepth 100000 in
set_option maxHeartbeats 1000000 in
theorem l2Copy_any (t : List (List Ev)) (A : Option Addr) (c : Nat) (w : World) (ht : t.length ≤ 20) (hall : ∀ x ∈ t, x.length ≤ 20) (h : RdT w w.heap.size A t) :
    Calls Try.prog 65 #[.slice A t.length c] w (CopyPost t w) := by
  obtain ⟨i0, hi, hz0, hz1, hz2⟩ := info_parts info_event
  obtain ⟨j0, hj, hy0, hy1, hy2⟩ := info_parts info_events
  have oT : OwnT (w.alloc (.cells #[] 24)) w.heap.size (.slice (some ⟨w.heap.size, 0, none⟩) 0 0) [] [] := ⟨World.ownsRow_lit w #[] 0 (Nat.le_refl _) (by simp) rfl, fun i hi => by simp at hi, fun i j u u' _ hu => by simp at hu⟩
  go_enter Try.func65, Try.ntmps65
  go_wp2
  go_loopw [3, 8] (fun v i wr => ∃ (k : Nat) (us : List Value), k ≤ t.length ∧ i = .int .i64 k ∧ OwnT wr w.heap.size v (t.take k) us ∧ Below w.heap.size w wr) (fun _ i _ => t.length - (intOf i).toNat)
  case atStart => exact ⟨0, [], Nat.zero_le _, rfl, by simpa using oT, (Below.refl _ _).alloc (Nat.le_refl _) _⟩
  case round =>
    obtain ⟨k, us, hk, rfl, ho, hb⟩ := hrel
    have hkl : (t.take k).length ≤ 20 := by rw [List.length_take]; omega
    have hb0 := hb.size
    by_cases hlt : k < t.length
    · obtain ⟨b, off, a, d, rfl, hbb, hc0, hle, hcm, hr⟩ := (h.below hb).get hlt
      have hl := hall _ (List.getElem_mem hlt)
      have HT := hide (take_snoc t k hlt)
      have hrr := hr.lt
      have hbw : b < wr.heap.size := by omega
      go_wp2_with (first
        | (at_builtin; refine wpList_append_re _ rfl (.tmp 12) (.tmp 16) 24 rfl wr.heap.size 39 i0 (.agg #[.int .i64 0, .int .i64 0, .int .i64 0]) 24 Try.underlying24 hi hz0 hz1 hz2 rfl (.slice (some ⟨wr.heap.size, 0, none⟩) 0 0) 0 [] rfl (World.ownsRow_lit wr #[] 0 (Nat.le_refl _) (by simp) rfl) a t[k] d wr.heap.size rfl (hrr.alloc (Nat.le_refl _) _) (by unfold maxLen; omega) (by omega) (by simp) ?_; intro v3 w3 o3 g3 hat3; rw [Nat.zero_add, List.nil_append] at o3; have b3 : Below wr.heap.size wr w3 := ((Below.refl _ _).alloc (Nat.le_refl _) _).grown g3 (by simp) (fun k hk => by simp [Value.ownBlock] at hk; omega); clear g3 hat3; obtain ⟨D3, d3, hv3⟩ := own_shape o3; rw [hv3] at o3; rw [hv3]; clear hv3; have ho3 := ho.below b3; have hfr := ho.fresh o3; have o3' := own_mono o3 hb0; have z3 := b3.size)
        | (at_builtin; refine wpList_append_own_at _ rfl (.tmp 11) (.tmp 18) 35 rfl w.heap.size 24 j0 (.slice none 0 0) 1 24 Try.underlying35 hj hy0 hy1 hy2 rfl (by decide) _ _ _ rfl (ho3.row.alloc _) ⟨w3.heap.size, 0, none⟩ 1 1 [.slice D3 t[k].length d3] rfl rfl (cell_one_new _ _ _) (one_cellS _ _ _) (by unfold maxLen; omega) (by omega) (by simp; omega) ?_; intro v' w4 hown' hgrow _ hat))
      have hP := (ho3.alloc (.cells #[.slice D3 t[k].length d3] 24)).push (es := t[k]) (o3'.alloc _) hfr hown' hgrow hat
      have hbl : Below w.heap.size w w4 := ((hb.trans (b3.mono hb0)).alloc (by omega) _).trans (grown_below (ho3.row.alloc (.cells #[.slice D3 t[k].length d3] 24)) hgrow (by simp; omega) (Nat.le_refl _))
      clear hgrow hat hown'
      go_roundw
      case rel => exact ⟨k + 1, us ++ [.slice D3 t[k].length d3], by omega, by go_num, by rw [HT.out]; exact hP, hbl⟩
      case measure => simp [intOf]; omega
    · obtain rfl : k = t.length := by omega
      rw [List.take_length] at ho
      obtain ⟨D, d, rfl⟩ := own_shape ho.row
      go_wp2
      go_ret
      exact ⟨us, D, d, rfl, ho, hb⟩

set_option maxRecDepth 100000 in
set_option maxHeartbeats 1600000 in
theorem DrawSameTraces_any (l : List Int) (A : Option Addr) (c : Nat) (w : World) (hl : l.length ≤ 1048576) (hR : Rd .u8 w w.heap.size A l) (b8 : B8 l) :
    Calls Try.prog 17 #[.slice A l.length c] w (TwoT w) := by
  obtain ⟨i0, hi, hz0, hz1, hz2⟩ := info_parts info_event
  obtain ⟨j0, hj, hy0, hy1, hy2⟩ := info_parts info_events
  go_enter Try.func17, Try.ntmps17
  go_wp2_with fail
  refine (l1Source_any l A c w hR b8 hl).mono ?_
  rintro e w1 ⟨rfl, S1, B1⟩
  go_wp2_with fail
  refine (l2Trace_any _ _ 4 A c l w1 S1 (by omega) (by omega)).mono ?_
  rintro e w2 ⟨t, us, D, d, rfl, ht1, ht4, hall, oa, k2, hk2, S2, g2⟩
  have B2 := grown_from B1 g2 B1.size (Nat.le_refl _)
  have z1 := S1.lt
  have z2 := S2.lt
  have hall20 : ∀ x ∈ t, x.length ≤ 20 := fun x hx => by have := hall x hx; omega
  clear g2 S1 B1
  go_wp2_with fail
  refine (l2Copy_any t D d w2 (by omega) hall20 oa.rd).mono ?_
  rintro e w3 ⟨vs, D3, d3, rfl, ob, b3⟩
  have S3 := S2.below b3 z2
  have G3 : w2.grownBy w3 (some w.heap.size) := grown_of_below _ b3
  have z3 := b3.size
  clear b3 S2
  go_wp2_with fail
  refine (l1Next_any _ _ 4 A c l _ S3 (by omega) (by omega) (by omega)).mono ?_
  rintro e w4 ⟨s, rfl, s0, s1, S4, g4⟩
  have ob := ob.kept g4 (fun b e => by simp at e; omega)
  have G4 := G3.trans g4
  have z4 := G4.size
  clear g4 s1 S3 S4 G3
  have fin : ∀ w9 : World, w2.grownBy w9 (some w.heap.size) → RdT w9 w9.heap.size D t ∧ Below w.heap.size w w9 := fun w9 G => ⟨(oa.kept G (fun b e => by simp at e; omega)).rd, B2.grown G B2.size (fun k hk => by simp at hk; omega)⟩
  have FIN := hide fin
  have OA := hide oa
  clear fin oa B2
  by_cases e0 : s = 0
  · subst e0
    go_wp2_with (at_builtin; refine wpList_append_own_at _ rfl (.tmp 17) (.tmp 18) 35 rfl w2.heap.size 24 j0 (.slice none 0 0) 1 24 Try.underlying35 hj hy0 hy1 hy2 rfl (by decide) _ _ _ rfl (ob.row.alloc _) ⟨w4.heap.size, 0, none⟩ 1 1 [.slice none 0 0] rfl rfl (cell_one_new _ _ _) (one_cellS _ _ _) (by unfold maxLen; omega) (by omega) (by simp; omega) ?_; intro v' w5 hown' hgrow _ hat)
    have hP := (ob.alloc (.cells #[.slice none 0 0] 24)).push (es := []) (World.ownsRow_nil _ _ _ _) (fun b hb => by simp [Value.ownBlock] at hb) hown' hgrow hat
    have G5 := G4.andThen (grown_alloc hgrow) (fun j hj => .inl (ob.row.lt j hj).1)
    obtain ⟨D5, d5, hv⟩ := own_shape hP.row
    have HV := hide hv
    clear hgrow hat hown' hv
    go_wp2
    go_ret2
    rw [HV.out] at hP
    refine ⟨t, t ++ [[]], D, D5, d, d5, ?_, by omega, by rw [List.length_append]; simp; omega, hall20, fun x hx => ?_, (FIN.out _ G5).1, hP.rd, (FIN.out _ G5).2⟩
    · rw [HV.out]; rfl
    · rcases List.mem_append.1 hx with a | a
      · exact hall20 x a
      · simp at a; rw [a]; simp
  · by_cases e1 : s = 1
    · subst e1
      clear e0
      obtain ⟨gv, rfl⟩ : ∃ gv, D3 = some ⟨gv, 0, none⟩ := by
        rcases ob.row.2 with ⟨h', h''⟩ | ⟨g, cap, cur, h', _⟩
        · omega
        · simp only [Value.slice.injEq, true_and] at h'
          exact ⟨g, h'.1⟩
      have hgv := ob.row.lt gv rfl
      have h0t : 0 < t.length := by omega
      obtain ⟨u, hu, hown, hu3⟩ := ob.rows 0 h0t
      obtain ⟨Au, cu, rfl⟩ := own_shape hown
      have hl0 := hall20 _ (List.getElem_mem h0t)
      have hc : w4.cell? ⟨gv, 0, none⟩ = some (.slice Au t[0].length cu) := by
        rw [ob.row.cellAt 0 (by omega)]
        exact hu
      go_wp2_with (at_builtin; refine wpList_append_own_at _ rfl (.tmp 25) (.tmp 27) 24 rfl w2.heap.size 39 i0 (.agg #[.int .i64 0, .int .i64 0, .int .i64 0]) 3 24 Try.underlying24 hi hz0 hz1 hz2 rfl (by decide) _ _ _ rfl (hown.alloc _) ⟨w4.heap.size, 0, none⟩ 1 1 [.int .i64 0, .int .i64 0, .int .i64 0] rfl rfl (cell_three_new _ _ _ _ _) (one_cells3 _ _ _ _) (by unfold maxLen; omega) (by omega) (by simp; omega) ?_; intro v' w5 hown' hgrow _ hat; have ob4 := ob.alloc (.cells #[.int .i64 0, .int .i64 0, .int .i64 0] 39); have rk := ob4.row.kept hgrow (own_sep fun b hb e => by (simp only [Value.ownBlock, Option.some.injEq] at hb; subst hb; exact hu3 _ e rfl)); have hf5 := rk.frozenAt 0; have hc5 : w5.cell? ⟨gv, 0, none⟩ = some (.slice Au t[0].length cu) := (by rw [rk.cellAt 0 (by omega)]; exact hu); obtain ⟨D6, d6, hv6⟩ := own_shape hown'; rw [hv6] at hown' hat; rw [hv6]; have HG := hide hgrow; have HAT := hide hat; have HO := hide hown'; have OB4 := hide ob4; clear hgrow hat hv6 hown' rk ob4)
      have G5 := G4.andThen (grown_alloc HG.out) (fun j hj => .inl (hown.lt j hj).1)
      have G6 := grown_new (p := ⟨gv, 0, none⟩) hgv.1 (.slice D6 (t[0].length + 1) d6) G5
      have oS := OB4.out.swap (es' := t[0] ++ [zeroE]) hu HG.out (fun b e => .inl e) (by rw [List.length_append, evs_append]; exact HO.out) (fun b hb => by
        rcases HAT.out with e | e
        · exact .inl (e.symm.trans hb)
        · rw [e] at hb; simp only [Option.some.injEq] at hb; exact .inr (by omega))
      go_wp2
      go_ret2
      refine ⟨t, t.set 0 (t[0] ++ [zeroE]), D, some ⟨gv, 0, none⟩, d, d3, ?_, by omega, by rw [List.length_set]; omega, hall20, ?_, (FIN.out _ G6).1, oS.rd_ (by rw [List.length_set]), (FIN.out _ G6).2⟩
      · rw [List.length_set]; rfl
      · refine set_len hall20 ?_
        have := hall _ (List.getElem_mem h0t)
        rw [List.length_append]
        simp
        omega
    · have b0 : (s == 0) = false := beq_eq_false_iff_ne.2 e0
      have b1 : (s == 1) = false := beq_eq_false_iff_ne.2 e1
      clear e0 e1
      go_wp2
      go_ret2
      exact ⟨t, t, D, D3, d, d3, rfl, by omega, by omega, hall20, hall20, (FIN.out _ G4).1, ob.rd, (FIN.out _ G4).2⟩
end Go.Proofs.Ytjdbakebcdkfcaa
