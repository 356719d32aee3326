/- Contracts of StepsFault, in the program and in its model. -/
import Derived.Test.YtmdaianbhpppfaaDoorEv
namespace Go.Proofs.YtmdaianbhpppfaaDoor
open Go.RowKit

set_option maxRecDepth 100000 in
set_option maxHeartbeats 400000 in
theorem implStF_any (es : List Ev) (A : Option Addr) (c : Nat) (w : World) (hm : es.length ≤ maxLen) (h : RdE w w.heap.size A es) :
    Calls Tryd.prog 46 #[.slice A es.length c] w fun e w' => e = .returned (.int .i64 (stF es)) ∧ Below w.heap.size w w' := by
  unfold maxLen at hm
  by_cases h8 : es.length ≤ 8
  · have HF := hide (stF_few h8)
    go_enter Tryd.func46, Tryd.ntmps46
    go_wp2
    go_loopw [11] (fun i wr => ∃ k : Nat, k ≤ es.length ∧ i = .int .i64 k ∧ Below w.heap.size w wr ∧ Hid (evsF es = evsF (es.drop k))) (fun i _ => es.length - (intOf i).toNat)
    case atStart => exact ⟨0, Nat.zero_le _, rfl, Below.refl _ _, hide rfl⟩
    case round =>
      obtain ⟨k, hk, rfl, hb, HR⟩ := hrel
      by_cases hlt : k < es.length
      · obtain ⟨b, off, rfl, hbb, hc0, hc1, hc2⟩ := (h.below hb).get hlt
        by_cases h0 : evF es[k] = 0
        · have IM := hide (fun W => (show Calls Tryd.prog 29 #[evV es[k].k es[k].a es[k].v] W _ from implEvF_any es[k].k es[k].a es[k].v W))
          have HN := hide (evsF_next hlt h0)
          rw [show evF ⟨es[k].k, es[k].a, es[k].v⟩ = 0 from h0] at IM
          clear h0
          go_wp2_with fail
          refine (IM.out _).mono ?_
          rintro e w2 ⟨rfl, hb2⟩
          have hb3 := hb.trans ((below_alloc hb2).mono hb.size)
          go_wp2
          go_roundw
          case rel => exact ⟨k + 1, by omega, by go_num, hb3, hide (HR.out.trans HN.out)⟩
          case measure => simp [intOf]; omega
        · have IM := hide (fun W => (show Calls Tryd.prog 29 #[evV es[k].k es[k].a es[k].v] W _ from implEvF_any es[k].k es[k].a es[k].v W))
          have HN := hide (evsF_stop hlt h0)
          obtain ⟨F, hF⟩ : ∃ F, F = evF es[k] := ⟨_, rfl⟩
          rw [← hF] at h0 HN
          rw [show evF ⟨es[k].k, es[k].a, es[k].v⟩ = F from hF.symm] at IM
          have f0 : (F != 0) = true := bne_iff_ne.2 h0
          have f1 : (F == 0) = false := beq_eq_false_iff_ne.2 h0
          clear h0 hF
          go_wp2_with fail
          refine (IM.out _).mono ?_
          rintro e w2 ⟨rfl, hb2⟩
          have hb3 := hb.trans ((below_alloc hb2).mono hb.size)
          go_wp2
          go_ret
          exact ⟨ret_int (by rw [HF.out, HR.out, HN.out]), hb3⟩
      · have HN := hide (evsF_end hlt)
        go_wp2
        go_ret
        exact ⟨ret_int (by rw [HF.out, HR.out, HN.out]), hb⟩
  · rw [stF_many h8]
    go_enter Tryd.func46, Tryd.ntmps46
    go_wp2
    go_ret
    exact ⟨rfl, Below.refl _ _⟩

set_option maxRecDepth 100000 in
set_option maxHeartbeats 400000 in
theorem specStF_any (es : List Ev) (A : Option Addr) (c : Nat) (w : World) (hm : es.length ≤ maxLen) (h : RdE w w.heap.size A es) :
    Calls Tryd.prog 45 #[.slice A es.length c] w fun e w' => e = .returned (.int .i64 (stF es)) ∧ Below w.heap.size w w' := by
  unfold maxLen at hm
  by_cases h8 : es.length ≤ 8
  · have HF := hide (stF_few h8)
    go_enter Tryd.func45, Tryd.ntmps45
    go_wp2
    go_loopw [10] (fun i wr => ∃ k : Nat, k ≤ es.length ∧ i = .int .i64 k ∧ Below w.heap.size w wr ∧ Hid (evsF es = evsF (es.drop k))) (fun i _ => es.length - (intOf i).toNat)
    case atStart => exact ⟨0, Nat.zero_le _, rfl, Below.refl _ _, hide rfl⟩
    case round =>
      obtain ⟨k, hk, rfl, hb, HR⟩ := hrel
      by_cases hlt : k < es.length
      · obtain ⟨b, off, rfl, hbb, hc0, hc1, hc2⟩ := (h.below hb).get hlt
        by_cases h0 : evF es[k] = 0
        · have IM := hide (fun W => (show Calls Tryd.prog 27 #[evV es[k].k es[k].a es[k].v] W _ from specEvF_any es[k].k es[k].a es[k].v W))
          have HN := hide (evsF_next hlt h0)
          rw [show evF ⟨es[k].k, es[k].a, es[k].v⟩ = 0 from h0] at IM
          clear h0
          go_wp2_with fail
          refine (IM.out _).mono ?_
          rintro e w2 ⟨rfl, hb2⟩
          have hb3 := hb.trans (hb2.mono hb.size)
          go_wp2
          go_roundw
          case rel => exact ⟨k + 1, by omega, by go_num, hb3, hide (HR.out.trans HN.out)⟩
          case measure => simp [intOf]; omega
        · have IM := hide (fun W => (show Calls Tryd.prog 27 #[evV es[k].k es[k].a es[k].v] W _ from specEvF_any es[k].k es[k].a es[k].v W))
          have HN := hide (evsF_stop hlt h0)
          obtain ⟨F, hF⟩ : ∃ F, F = evF es[k] := ⟨_, rfl⟩
          rw [← hF] at h0 HN
          rw [show evF ⟨es[k].k, es[k].a, es[k].v⟩ = F from hF.symm] at IM
          have f0 : (F != 0) = true := bne_iff_ne.2 h0
          have f1 : (F == 0) = false := beq_eq_false_iff_ne.2 h0
          clear h0 hF
          go_wp2_with fail
          refine (IM.out _).mono ?_
          rintro e w2 ⟨rfl, hb2⟩
          have hb3 := hb.trans (hb2.mono hb.size)
          go_wp2
          go_ret
          exact ⟨ret_int (by rw [HF.out, HR.out, HN.out]), hb3⟩
      · have HN := hide (evsF_end hlt)
        go_wp2
        go_ret
        exact ⟨ret_int (by rw [HF.out, HR.out, HN.out]), hb⟩
  · rw [stF_many h8]
    go_enter Tryd.func45, Tryd.ntmps45
    go_wp2
    go_ret
    exact ⟨rfl, Below.refl _ _⟩
end Go.Proofs.YtmdaianbhpppfaaDoor
