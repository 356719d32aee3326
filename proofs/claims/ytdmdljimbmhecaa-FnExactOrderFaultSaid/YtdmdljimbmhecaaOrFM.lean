/- The contract of OrderFault in the model. -/
import Derived.Test.YtdmdljimbmhecaaOrFS
import Derived.Test.YtdmdljimbmhecaaOrFI
namespace Go.Proofs.Ytdmdljimbmhecaa
open Go.RowKit

theorem allW_append : ∀ l m : List (List Ev), allW (l ++ m) = allW l + allW m
  | [], m => by simp [allW]
  | e :: r, m => by rw [List.cons_append, allW, allW, allW_append r m]; omega
theorem cntA_le : ∀ l : List Ev, cntA l ≤ l.length
  | [] => Nat.le_refl _
  | e :: r => by have := cntA_le r; rw [cntA, List.length_cons]; split <;> omega
theorem allW_le : ∀ t : List (List Ev), (∀ l ∈ t, l.length ≤ 8) → allW t ≤ 8 * t.length
  | [], _ => Nat.le_refl _
  | l :: r, h => by
    have h1 := allW_le r fun x hx => h x (by simp [hx])
    have h2 := cntA_le l
    have h3 := h l (by simp)
    rw [allW, List.length_cons]; omega
theorem cntA_step {l : List Ev} {j : Nat} (h : j < l.length) : cntA (l.take (j + 1)) = cntA (l.take j) + if l[j].k = 1 then 1 else 0 := by
  rw [List.take_succ_eq_append_getElem h, cntA_append]
  simp [cntA]
theorem allW_step {t : List (List Ev)} {k : Nat} (h : k < t.length) : allW (t.take (k + 1)) = allW (t.take k) + cntA t[k] := by
  rw [List.take_succ_eq_append_getElem h, allW_append]
  simp [allW]
theorem allW_take_le (t : List (List Ev)) (k : Nat) : allW (t.take k) ≤ allW t := by
  have := allW_append (t.take k) (t.drop k)
  rw [List.take_append_drop] at this
  omega
theorem cntA_take_le (l : List Ev) (k : Nat) : cntA (l.take k) ≤ cntA l := by
  have := cntA_append (l.take k) (l.drop k)
  rw [List.take_append_drop] at this
  omega
theorem sumO_step {os : List Wls} {k : Nat} (h : k < os.length) : sumO (os.take (k + 1)) = sumO (os.take k) + os[k].ids.length := by
  rw [List.take_succ_eq_append_getElem h, sumO_append]
  simp [sumO]
theorem risO_take {os : List Wls} {k : Nat} (hk : k < os.length) (h : risO (os.take k)) (hn : ∀ (h0 : 0 < k), os[k - 1].a < os[k].a) : risO (os.take (k + 1)) := by
  refine risO_adj fun i hi => ?_
  rw [List.length_take] at hi
  rw [List.getElem_take, List.getElem_take]
  by_cases hik : i + 1 < k
  · have := risO_next h i (by rw [List.length_take]; omega)
    rw [List.getElem_take, List.getElem_take] at this
    exact this
  · obtain rfl : k = i + 1 := by omega
    exact hn (by omega)
theorem part_le {t : List (List Ev)} {os : List Wls} (h : ∀ w ∈ os, listW t w) (hr : risO os) : sumO os ≤ allW t := by
  rw [sumO_F h]
  exact sumF_stores t (risO_nodup hr)
theorem trF_short {t : List (List Ev)} (h : trF t = 0) : t.length ≤ 4 ∧ ∀ l ∈ t, l.length ≤ 8 := by
  have h1 : 1 ≤ t.length ∧ t.length ≤ 4 := by
    by_cases h2 : 1 ≤ t.length ∧ t.length ≤ 4
    · exact h2
    · rw [trF_many h2] at h; omega
  refine ⟨h1.2, fun l hl => ?_⟩
  rw [trF_few h1] at h
  have key : ∀ {t : List (List Ev)}, stsF t = 0 → ∀ l ∈ t, l.length ≤ 8 := by
    intro t
    induction t with
    | nil => intro _ l hl; simp at hl
    | cons x r ih =>
      intro h l hl
      rw [stsF] at h
      by_cases hx : stF x = 0
      · rw [if_pos hx] at h
        rcases List.mem_cons.1 hl with rfl | hl
        · unfold stF at hx
          by_cases h8 : l.length ≤ 8
          · exact h8
          · rw [if_neg h8] at hx; omega
        · exact ih h l hl
      · rw [if_neg hx] at h; exact absurd h hx
  exact key h l hl

set_option maxRecDepth 100000 in
set_option maxHeartbeats 3000000 in
theorem specOrF_any (t : List (List Ev)) (os : List Wls) (A A' : Option Addr) (c c' : Nat) (w : World) (hm : t.length ≤ maxLen) (hm' : os.length ≤ maxLen) (h : RdT w w.heap.size A t) (h' : RdW w w.heap.size A' os) :
    Calls Try.prog 18 #[.slice A t.length c, .slice A' os.length c'] w fun e w' => e = .returned (.int .i64 (odF t os)) ∧ Below w.heap.size w w' := by
  have TF := hide (specTrF_any t A c w hm h)
  by_cases h0 : trF t = 0
  · rw [h0] at TF
    obtain ⟨h4, h8⟩ := trF_short h0
    have HOK := hide (fun (hr : rightO t os) => odF_ok h0 hr)
    have HNO := hide (fun (hr : ¬ rightO t os) => odF_no h0 hr)
    have hall := allW_le t h8
    have ha32 : allW t ≤ 32 := by omega
    have HA := hide ha32
    obtain ⟨F, hF⟩ : ∃ F, F = odF t os := ⟨_, rfl⟩
    rw [← hF] at HOK HNO ⊢
    have HM' := hide hm'
    unfold maxLen at hm'
    clear h0 hF hall
    go_enter Try.func18, Try.ntmps18
    go_wp2_with fail
    refine TF.out.mono ?_
    rintro e w1 ⟨rfl, b1⟩
    have z1 := b1.size
    go_wp2
    go_loopw [6, 17] (fun v i wr => ∃ k n : Nat, k ≤ os.length ∧ i = .int .i64 k ∧ v = .int .i64 n ∧ Below w.heap.size w wr ∧ Hid (∀ x ∈ os.take k, listW t x) ∧ Hid (risO (os.take k)) ∧ Hid (n = sumO (os.take k))) (fun _ i _ => os.length - (intOf i).toNat)
    case atStart => exact ⟨0, 0, Nat.zero_le _, rfl, rfl, b1, hide fun x hx => by simp at hx, hide (by simp [risO]), hide rfl⟩
    case round =>
      clear b1 z1
      obtain ⟨k, n, hk, rfl, rfl, hb, HL, HR, HN⟩ := hrel
      have hz := hb.size
      have hn32 : n ≤ 32 := by have := part_le HL.out HR.out; have := HA.out; rw [HN.out]; omega
      by_cases hlt : k < os.length
      · obtain ⟨b2, off2, ai, d, hA', hbb, c0, c1, hle, hcm, hri⟩ := (h'.below hb).get hlt
        subst hA'
        have hT := (h.below hb).lt
        have LI := hide (fun n => l8List_any t os[k] b2 (off2 + k * 2) ai d A c (wr.drewN n) h4 h8 (RdT.drewN hT n) c0 c1 (RdC.drewN hri.lt n) (by omega))
        by_cases hlist : listW t os[k]
        · rw [listB_yes hlist] at LI
          have hstep := sumO_step hlt
          have hidl : os[k].ids.length ≤ 32 := by rw [hlist.2.1]; have := storesW_le os[k].a t h8; omega
          obtain ⟨x, hx⟩ : ∃ x, x = os[k] := ⟨_, rfl⟩
          by_cases hk0 : k = 0
          · subst hk0
            have HL2 := hide (show ∀ y ∈ os.take (0 + 1), listW t y from fun y hy => by
              rw [List.take_succ_eq_append_getElem hlt] at hy
              simp only [List.take_zero, List.nil_append, List.mem_singleton] at hy
              rw [hy]; exact hlist)
            have HR2 := hide (risO_take hlt HR.out fun h0 => by omega)
            rw [← hx] at hstep hidl c0 c1 hle
            have HSS := hide hstep
            have n1 : ¬ os.length ≤ 0 := by omega
            clear hstep hlist hx
            go_wp2
            go_quiet ((go_at_call 64; exact Calls.quiet_of (Calls.mono (LI.out _) (fun _ _ h => h))))
            go_wp2
            go_roundw
            case rel => exact ⟨1, n + x.ids.length, by omega, by go_num, by go_num, below_drewN hb _, HL2, HR2, hide (by rw [HSS.out, HN.out])⟩
            case measure => simp [intOf]; omega
          · obtain ⟨_, _, aj, dj, hA3, _, d0, d1, hlej, hcmj, _⟩ := (h'.below hb).get (i := k - 1) (by omega)
            cases hA3
            obtain ⟨y, hy⟩ : ∃ y, y = os[k - 1] := ⟨_, rfl⟩
            have g0 : decide ((k : Int) > 0) = true := decide_eq_true (by omega)
            have g00 : decide ((0 : Int) < (k : Int)) = true := decide_eq_true (by omega)
            have g000 : decide (0 < k) = true := decide_eq_true (by omega)
            have hwk : IntKind.i64.wrap ((k : Int) - 1) = (k : Int) - 1 := IntWalk.i64_in _ (by omega)
            have hkt : ((k : Int) - 1).toNat = k - 1 := by omega
            have hka : (0 : Int) ≤ (k : Int) - 1 := by omega
            have hkb : (k : Int) - 1 < (os.length : Int) := by omega
            have hkc : ¬ os.length ≤ k - 1 := by omega
            have n1 : ¬ os.length ≤ k := by omega
            by_cases hle2 : os[k].a ≤ os[k - 1].a
            · have HE := hide (HNO.out fun hh => risO_not (i := k - 1) (by omega) (by
                have e : k - 1 + 1 = k := by omega
                simp only [e]; exact hle2) hh.2.1)
              rw [← hx] at c0 c1 hle2 hle
              rw [← hy] at d0 d1 hle2 hlej
              have f0 : decide (x.a ≤ y.a) = true := decide_eq_true hle2
              clear hstep hlist hx hy hle2 hk0
              go_wp2
              go_quiet ((go_at_call 64; exact Calls.quiet_of (Calls.mono (LI.out _) (fun _ _ h => h))))
              go_wp2
              go_ret
              exact ⟨ret_int HE.out.symm, below_drewN hb _⟩
            · have HL2 := hide (show ∀ y ∈ os.take (k + 1), listW t y from fun y hy => by
                rw [List.take_succ_eq_append_getElem hlt] at hy
                rcases List.mem_append.1 hy with hy | hy
                · exact HL.out y hy
                · rw [List.mem_singleton] at hy; rw [hy]; exact hlist)
              have HR2 := hide (risO_take hlt HR.out fun _ => by omega)
              rw [← hx] at c0 c1 hle2 hstep hidl hle
              rw [← hy] at d0 d1 hle2 hlej
              have f0 : decide (x.a ≤ y.a) = false := decide_eq_false hle2
              have HSS := hide hstep
              clear hstep hlist hx hy hle2 hk0
              go_wp2
              go_quiet ((go_at_call 64; exact Calls.quiet_of (Calls.mono (LI.out _) (fun _ _ h => h))))
              go_wp2
              go_roundw
              case rel => exact ⟨k + 1, n + x.ids.length, by omega, by go_num, by go_num, below_drewN hb _, HL2, HR2, hide (by rw [HSS.out, HN.out])⟩
              case measure => simp [intOf]; omega
        · have HE := hide (HNO.out fun hh => hlist (hh.1 _ (List.getElem_mem hlt)))
          rw [listB_no hlist] at LI
          have n1 : ¬ os.length ≤ k := by omega
          clear hlist
          go_wp2
          go_quiet ((go_at_call 64; exact Calls.quiet_of (Calls.mono (LI.out _) (fun _ _ h => h))))
          go_wp2
          go_ret
          exact ⟨ret_int HE.out.symm, below_drewN hb _⟩
      · obtain rfl : k = os.length := by omega
        rw [List.take_length] at HL HR HN
        have HV := hide (show ((n : Int) - (allW t : Int) = 0 → F = 0) ∧ (¬ (n : Int) - (allW t : Int) = 0 → F = 7) from
          ⟨fun e => HOK.out ⟨HL.out, HR.out, by rw [← HN.out]; omega⟩, fun e => HNO.out fun hh => e (by have := hh.2.2; rw [← HN.out] at this; omega)⟩)
        clear HL HR HN HOK HNO
        go_wp2
        go_loopw [6, 55] (fun v i w2 => ∃ (k : Nat) (z : Int), k ≤ t.length ∧ i = .int .i64 k ∧ v = .int .i64 z ∧ -32 ≤ z ∧ z ≤ 32 ∧ Below w.heap.size w w2 ∧ Hid (z = (n : Int) - (allW (t.take k) : Int))) (fun _ i _ => t.length - (intOf i).toNat)
        case atStart => exact ⟨0, n, Nat.zero_le _, rfl, rfl, by omega, by omega, hb, hide (by simp [allW])⟩
        case round =>
          clear hb hz
          obtain ⟨k, z, hk, rfl, rfl, hz1, hz2, hb, HZ⟩ := hrel
          by_cases hlt : k < t.length
          · obtain ⟨b1, off1, a1, d, rfl, hbb, hc0, hle1, hcm, hr⟩ := (h.below hb).get hlt
            have hs := allW_step hlt
            have hs2 := allW_take_le t (k + 1)
            have h8k := h8 _ (List.getElem_mem hlt)
            have hAA := HA.out
            obtain ⟨es, hes⟩ : ∃ es, es = t[k] := ⟨_, rfl⟩
            rw [← hes] at hc0 hr hs hle1 h8k
            have HS := hide hs
            have HB := hide (show allW (t.take k) + cntA es ≤ 32 by omega)
            have HEB := hide hes
            clear hs hs2 hle1 hr hAA hes
            go_wp2
            go_loopw [6, 63] (fun v i w3 => ∃ (j : Nat) (y : Int), j ≤ es.length ∧ i = .int .i64 j ∧ v = .int .i64 y ∧ -32 ≤ y ∧ y ≤ 32 ∧ Below w.heap.size w w3 ∧ Hid (y = z - (cntA (es.take j) : Int))) (fun _ i _ => es.length - (intOf i).toNat)
            case atStart => exact ⟨0, z, Nat.zero_le _, rfl, rfl, hz1, hz2, hb, hide (by simp [cntA])⟩
            case round =>
              clear hb hc0
              obtain ⟨j, y, hj, rfl, rfl, hy1, hy2, hb, HY⟩ := hrel
              obtain ⟨_, _, a2, d2, hA2, _, hc0, hle2, hcm2, hr⟩ := (h.below hb).get hlt
              cases hA2
              rw [← HEB.out] at hc0 hr hle2
              by_cases hjl : j < es.length
              · obtain ⟨b3, off3, rfl, _, e0, e1, e2⟩ := hr.get hjl
                have hstep := cntA_step hjl
                have hlo : -31 ≤ y ∨ ¬ es[j].k = 1 := by
                  by_cases hkk : es[j].k = 1
                  · rw [if_pos hkk] at hstep
                    have h1 := cntA_take_le es (j + 1)
                    have h2 := HB.out
                    left
                    rw [HY.out, HZ.out]
                    omega
                  · exact .inr hkk
                obtain ⟨x, hx⟩ : ∃ x, x = es[j] := ⟨_, rfl⟩
                rw [← hx] at e0 e1 e2 hstep hlo
                by_cases hkk : x.k = 1
                · have f0 : (x.k == 1) = true := beq_iff_eq.2 hkk
                  rw [if_pos hkk] at hstep
                  have hlo2 : -31 ≤ y := hlo.resolve_right fun e => e hkk
                  have HX := hide hstep
                  clear hstep hx hkk hlo
                  go_wp2
                  go_roundw
                  case rel => exact ⟨j + 1, y - 1, by omega, by go_num, by go_num, by omega, by omega, hb, hide (by rw [HX.out, HY.out]; omega)⟩
                  case measure => simp [intOf]; omega
                · have f0 : (x.k == 1) = false := beq_eq_false_iff_ne.2 hkk
                  rw [if_neg hkk] at hstep
                  have HX := hide hstep
                  clear hstep hx hkk hlo
                  go_wp2
                  go_roundw
                  case rel => exact ⟨j + 1, y, by omega, by go_num, rfl, hy1, hy2, hb, hide (by rw [HX.out, HY.out]; omega)⟩
                  case measure => simp [intOf]; omega
              · obtain rfl : j = es.length := by omega
                rw [List.take_length] at HY
                go_wp2
                go_roundw
                case rel => exact ⟨k + 1, y, by omega, by go_num, rfl, hy1, hy2, hb, hide (by rw [HS.out, HY.out, HZ.out]; omega)⟩
                case measure => simp [intOf]; omega
          · obtain rfl : k = t.length := by omega
            rw [List.take_length] at HZ
            by_cases hz0 : z = 0
            · have HE := hide (HV.out.1 (by rw [← HZ.out]; exact hz0))
              subst hz0
              go_wp2
              go_ret
              exact ⟨ret_int HE.out.symm, hb⟩
            · have HE := hide (HV.out.2 (by rw [← HZ.out]; exact hz0))
              have f0 : (z == 0) = false := beq_eq_false_iff_ne.2 hz0
              have f1 : (z != 0) = true := bne_iff_ne.2 hz0
              clear hz0
              go_wp2
              go_ret
              exact ⟨ret_int HE.out.symm, hb⟩
  · have HV := hide (odF_t (os := os) h0)
    obtain ⟨F, hF⟩ : ∃ F, F = trF t := ⟨_, rfl⟩
    rw [← hF] at TF h0 HV
    have g0 : (F != 0) = true := bne_iff_ne.2 h0
    have g1 : (F == 0) = false := beq_eq_false_iff_ne.2 h0
    clear hF h0
    go_enter Try.func18, Try.ntmps18
    go_wp2_with fail
    refine TF.out.mono ?_
    rintro e w1 ⟨rfl, b1⟩
    go_wp2
    go_ret
    exact ⟨ret_int (by rw [HV.out]), b1⟩
end Go.Proofs.Ytdmdljimbmhecaa
