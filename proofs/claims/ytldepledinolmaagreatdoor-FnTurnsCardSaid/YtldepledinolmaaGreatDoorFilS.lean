/- Contracts of the model of chapter 4: how many events, the frames of a trace. -/
import Derived.Test.YtldepledinolmaaGreatDoorGFil
import Derived.Test.YtldepledinolmaaGreatDoorPackF
import Derived.Test.YtldepledinolmaaGreatDoorGTrS
import Derived.Test.YtldepledinolmaaGreatDoorCnt4
namespace Go.Proofs.YtldepledinolmaaGreatDoor
open Go.RowKit

theorem l1Min_any (a b : Nat) (w : World) :
    Calls Tryz.prog 84 #[.int .i64 a, .int .i64 b] w fun e w' => e = .returned (.int .i64 ((min a b : Nat) : Int)) ∧ w = w' := by
  by_cases h : a < b
  · rw [Nat.min_eq_left (by omega)]
    have h' : (a : Int) < (b : Int) := by omega
    go_enter Tryz.func84, Tryz.ntmps84
    go_wp2
    go_ret
    exact ⟨rfl, rfl⟩
  · rw [Nat.min_eq_right (by omega)]
    have h' : ¬ (a : Int) < (b : Int) := by omega
    go_enter Tryz.func84, Tryz.ntmps84
    go_wp2
    go_ret
    exact ⟨rfl, rfl⟩

theorem evs_drop : ∀ (es : List Ev) (n : Nat), evs (es.drop n) = (evs es).drop (n * 3)
  | [], n => by simp [evs]
  | e :: r, 0 => by simp
  | e :: r, n + 1 => by
    rw [List.drop_succ_cons, evs_drop r n, show (n + 1) * 3 = n * 3 + 1 + 1 + 1 by omega]
    rfl
/-- The address of an event slice from place k on. -/
def cutE (A : Option Addr) (k c : Nat) : Option Addr := if c = k then A else A.map (·.add (k * 3))
theorem RdE.cut {w : World} {B : Nat} {A : Option Addr} {es : List Ev} (h : RdE w B A es) {n c : Nat} (hn : n ≤ es.length) (hc : es.length ≤ c) : RdE w B (cutE A n c) (es.drop n) := by
  intro h0
  have h1 : n < es.length := by rw [evs_length, List.length_drop] at h0; omega
  obtain ⟨b, off, rfl, hb, hx⟩ := h (by rw [evs_length]; omega)
  unfold cutE
  rw [if_neg (by omega)]
  refine ⟨b, off + n * 3, by simp [Go.WideShapes.add_plain], hb, fun i hi => ?_⟩
  have hi' : n * 3 + i < (evs es).length := by rw [evs_length] at hi ⊢; rw [List.length_drop] at hi; omega
  have := hx (n * 3 + i) hi'
  rw [← Nat.add_assoc] at this
  rw [this]
  have e : (evs (es.drop n))[i]? = (evs es)[n * 3 + i]? := by rw [evs_drop, List.getElem?_drop]
  rw [List.getElem?_eq_getElem hi, List.getElem?_eq_getElem hi'] at e
  exact e.symm
theorem RdE.take_ {w : World} {B : Nat} {A : Option Addr} {es : List Ev} (h : RdE w B A es) (n : Nat) : RdE w B A (es.take n) := by
  intro h0
  rw [evs_length, List.length_take] at h0
  obtain ⟨b, off, rfl, hb, hx⟩ := h (by rw [evs_length]; omega)
  refine ⟨b, off, rfl, hb, fun i hi => ?_⟩
  have hi' : i < (evs es).length := by rw [evs_length] at hi ⊢; rw [List.length_take] at hi; omega
  rw [hx i hi']
  have e : (evs (es.take n))[i]? = (evs es)[i]? := by rw [evs_take, List.getElem?_take_of_lt (by rw [evs_length, List.length_take] at hi; omega)]
  rw [List.getElem?_eq_getElem hi, List.getElem?_eq_getElem hi'] at e
  exact e.symm
theorem run_midE (A : Option Addr) (n k m c : Nat) (l r : Int) (w : World) (hl : l = k) (hr : r = ((k + m : Nat) : Int)) (hm : k + m ≤ c) : (Instr.slice 78 (.slice A n c) (some (.int .i64 l)) (some (.int .i64 r)) none).run Tryz.prog w = .ok (.slice (cutE A k c) m (c - k)) w := by
  subst hl
  subst hr
  have h2 : (0 : Int) ≤ (k : Int) + (m : Int) ∧ (k : Int) + (m : Int) ≤ (c : Int) := by omega
  have h3 : ((k : Int) + (m : Int)).toNat = k + m := by omega
  simp [go_sem, h2, h3, cutE]

set_option maxRecDepth 100000 in
set_option maxHeartbeats 3200000 in
theorem l4Frames_any (t : List (List Ev)) (b : Nat) (A : Option Addr) (c : Nat) (w : World) (h0 : trF t = 0) (hb1 : 1 ≤ b) (hb8 : b ≤ 8) (h : RdT w w.heap.size A t) :
    Calls Tryz.prog 62 #[.slice A t.length c, .int .i64 b] w fun e w' => ∃ A c, e = .returned (.tuple #[.slice A (filF b 0 t).length c, .int .i64 (filN b t : Nat)]) ∧ OwnB w (filF b 0 t) (.slice A (filF b 0 t).length c) w' := by
  obtain ⟨i0, hi, hz0, hz1, hz2⟩ := info_parts info_u8
  obtain ⟨ht1, ht4, hall⟩ := trF_zero h0
  have hsum := sumT_few hall
  have hlen := filF_len hb1 0 t hall
  obtain ⟨F, hF⟩ : ∃ F, F = filF b 0 t := ⟨_, rfl⟩
  obtain ⟨N, hN⟩ : ∃ N, N = filN b t := ⟨_, rfl⟩
  have HF := hide hF
  have HN := hide hN
  rw [← hF, ← hN] at hlen ⊢
  have hFl : F.length ≤ 1000 := by omega
  have hNl : N ≤ 100 := by omega
  clear hF hN hlen hsum h0
  go_enter Tryz.func62, Tryz.ntmps62
  go_wp2
  have ob : OwnB w [] (.slice (some ⟨w.heap.size, 0, none⟩) 0 0) (w.alloc (Obj.cells #[] 5)) := ⟨World.ownsRow_lit w #[] 0 (Nat.le_refl _) (by simp) rfl, (Below.refl _ _).alloc (Nat.le_refl _) _⟩
  go_loopw [6, 7, 14] (fun v q i wr => ∃ (j M : Nat) (xs : List Int), j ≤ t.length ∧ i = .int .i64 j ∧ q = .int .i64 M ∧ OwnB w xs v wr ∧ Hid (xs ++ filF b j (t.drop j) = F ∧ M + filN b (t.drop j) = N)) (fun _ _ i _ => t.length - (intOf i).toNat)
  case atStart => exact ⟨0, 0, [], Nat.zero_le _, rfl, rfl, ob, hide ⟨by rw [HF.out]; simp, by rw [HN.out]; simp⟩⟩
  case round =>
    obtain ⟨j, M, xs, hj, rfl, rfl, ho, HR⟩ := hrel
    by_cases hlt : j < t.length
    · obtain ⟨bk, off, a, d, hA, hbb, hc0, hle, hcm, hr⟩ := h.get hlt
      have hst := hall _ (List.getElem_mem hlt)
      have h8 := (stF_zero hst).1
      have HFa := hide (filF_at b j t hlt)
      have HNa := hide (filN_at b j t hlt)
      have hxF : xs.length + (pcsB j (chopA b t[j])).length ≤ 1000 := by
        have e := congrArg List.length HR.out.1
        rw [HFa.out] at e
        simp only [List.length_append] at e
        omega
      have hMN : M + (chopA b t[j]).length ≤ 100 := by
        have e := HR.out.2
        rw [HNa.out] at e
        omega
      obtain ⟨es, hes⟩ : ∃ es, es = t[j] := ⟨_, rfl⟩
      rw [← hes] at hc0 hle hr hst h8 HFa HNa hxF hMN
      subst hA
      clear hes hall
      go_wp2
      go_loopw [6, 7, 9] (fun v q p wr2 => ∃ (P M2 : Nat) (xs2 : List Int), P ≤ 16 ∧ p = .int .i64 P ∧ q = .int .i64 M2 ∧ OwnB w xs2 v wr2 ∧ Hid (xs2 ++ pcsB j (chopA b (es.drop P)) = xs ++ pcsB j (chopA b es) ∧ M2 + (chopA b (es.drop P)).length = M + (chopA b es).length)) (fun _ _ p _ => es.length - (intOf p).toNat)
      case atStart => exact ⟨0, M, xs, by omega, rfl, rfl, ho, hide ⟨by simp, by simp⟩⟩
      case round =>
        obtain ⟨P, M2, xs2, hP, rfl, rfl, ho2, HR2⟩ := hrel
        have q0 := cell_kept ho2.2 hc0
        by_cases hlp : P < es.length
        · obtain ⟨m, hm⟩ : ∃ m, min (P + b) es.length = P + m := ⟨min (P + b) es.length - P, by omega⟩
          have hm1 : P + m ≤ es.length := by omega
          have hpl : ((es.drop P).take b).length = m := by rw [List.length_take, List.length_drop]; omega
          have LM := l1Min_any (P + b) es.length
          rw [hm, Int.natCast_add, Int.natCast_add] at LM
          have LM := hide LM
          have RM := fun W => run_midE a es.length P m d P ((P : Int) + (m : Int)) W rfl (by omega) (by omega)
          have hsp : stF ((es.drop P).take b) = 0 := stF_part hst (by rw [hpl]; omega) (fun x hx => List.mem_of_mem_drop (List.mem_of_mem_take hx))
          have LP := hide (fun W hW => l3Pack_any j ((es.drop P).take b) (cutE a P d) (d - P) W (by omega) (by omega) hsp hW)
          have rp := ((hr.below ho2.2).cut (n := P) (by omega) hle).take_ b
          have HC := chopA_at hb1 hlp
          obtain ⟨X, hX⟩ : ∃ X, X = frL j (packL 0 ((es.drop P).take b)) := ⟨_, rfl⟩
          have HB : Hid (pcsB j (chopA b (es.drop P)) = X ++ pcsB j (chopA b (es.drop (P + b)))) := hide (by rw [HC, hX]; rfl)
          have HL : Hid ((chopA b (es.drop P)).length = (chopA b (es.drop (P + b))).length + 1) := hide (by rw [HC]; rfl)
          rw [hpl, ← hX] at LP
          have hx2 : xs2.length + X.length ≤ 1000 := by
            have e := congrArg List.length HR2.out.1
            rw [HB.out] at e
            simp only [List.length_append] at e
            omega
          have hM2 : M2 + 1 ≤ 100 := by have e := HR2.out.2; rw [HL.out] at e; omega
          clear hm hX HC hsp hpl hxF hMN HFa HNa
          go_wp2_with fail
          refine (LM.out _).mono ?_
          rintro e w2 ⟨rfl, rfl⟩
          go_wp2_with fail
          refine (LP.out _ rp.lt).mono ?_
          rintro e w3 ⟨A3, c3, rfl, O3⟩
          have ho3 := ho2.below O3.2
          have r3 := Rd.of_own O3.1
          clear O3 ho2 LP LM RM rp
          go_wp2_with (at_builtin; refine wpList_append_rd _ rfl (.tmp 36) (.tmp 45) 22 rfl w.heap.size 5 i0 (.int .u8 0) 1 Tryz.underlying22 hi hz0 hz1 hz2 rfl .u8 _ _ _ rfl ho3.1 A3 X c3 _ rfl r3 (by unfold maxLen; omega) (by omega) ho3.2.size ?_; intro v4 w4 o4 g4 hat4; have ho4 := ho3.more o4 g4; clear g4 hat4 o4 ho3 r3)
          go_roundw
          case rel => exact ⟨P + b, M2 + 1, xs2 ++ X, by omega, by go_num, by go_num, ho4, hide ⟨by rw [List.append_assoc, ← HB.out]; exact HR2.out.1, by have e := HR2.out.2; rw [HL.out] at e; omega⟩⟩
          case measure => simp [intOf]; omega
        · have HE := hide (chopA_end (b := b) (es := es) hlp)
          go_wp2
          go_roundw
          case rel =>
            have e := HR2.out
            rw [HE.out] at e
            simp only [pcsB, List.append_nil, List.length_nil, Nat.add_zero] at e
            exact ⟨j + 1, M2, xs2, by omega, by go_num, rfl, ho2, hide ⟨by rw [e.1, List.append_assoc, ← HFa.out]; exact HR.out.1, by have e2 := HR.out.2; rw [HNa.out] at e2; omega⟩⟩
          case measure => simp [intOf]; omega
    · obtain ⟨e1, e2⟩ := HR.out
      rw [filF_end b j t hlt, List.append_nil] at e1
      rw [filN_end b j t hlt, Nat.add_zero] at e2
      subst e1
      subst e2
      obtain ⟨D, d, hv⟩ := own_shape ho.1
      subst hv
      go_wp2
      go_ret2
      exact ⟨D, d, rfl, ho⟩
end Go.Proofs.YtldepledinolmaaGreatDoor
