/- The contract of the program's LogFault. -/
import Derived.Test.YtldepledinolmaaLogF
namespace Go.Proofs.Ytldepledinolmaa
open Go.RowKit

set_option maxRecDepth 100000 in
set_option maxHeartbeats 1600000 in
theorem implLogF_any (ss : List Stp) (n : Int) (A : Option Addr) (c : Nat) (w : World) (hm : ss.length ≤ maxLen) (h : RdP w w.heap.size A ss) :
    Calls Try.prog 53 #[.slice A ss.length c, .int .i64 n] w fun e w' => e = .returned (.int .i64 (logF ss n)) ∧ Below w.heap.size w w' := by
  unfold maxLen at hm
  by_cases h1 : 1 ≤ n ∧ n ≤ 4
  · by_cases h2 : ss.length ≤ 32
    · have HF := hide (fun h3 => logF_bad (ss := ss) h1 h2 h3)
      have HG := hide (fun h3 h4 => logF_few (ss := ss) h1 h2 h3 h4)
      have HH := hide (fun h3 h4 => logF_many (ss := ss) h1 h2 h3 h4)
      have TE : ss.take ss.length = ss := List.take_length
      go_enter Try.func53, Try.ntmps53
      go_wp2_with fail
      refine (allWithin_one _ _ _ _ _ _ (by simp [go_sem]) h1).mono ?_
      rintro e w' ⟨rfl, rfl⟩
      have hV := Bk.new (w.alloc (.cells #[.int .i64 n] 2)) #[.int .i64 0, .int .i64 0, .int .i64 0, .int .i64 0] 111
      rw [World.size_alloc] at hV
      go_wp2_with fail
      go_loopw [18] (fun i wr => ∃ k : Nat, k ≤ ss.length ∧ i = .int .i64 k ∧ Bk wr (w.heap.size + 1) (cntA (ss.take k)) 111 ∧ Below w.heap.size w wr ∧ Hid (logG n ss = logG n (ss.drop k))) (fun i _ => ss.length - (intOf i).toNat)
      case atStart => exact ⟨0, Nat.zero_le _, rfl, hV, ((Below.refl _ _).alloc (Nat.le_refl _) _).alloc (by simp) _, hide rfl⟩
      case round =>
        obtain ⟨k, hk, rfl, hB, hb, HR⟩ := hrel
        by_cases hlt : k < ss.length
        · obtain ⟨b, off, rfl, hbb, hc0, hc1, hc2, hc3⟩ := (h.below hb).get hlt
          have IE := hide (fun W => implEvF_any ss[k].e.k ss[k].e.a ss[k].e.v W)
          by_cases hcr : 0 ≤ ss[k].c ∧ ss[k].c ≤ n - 1
          · obtain ⟨i, hi⟩ := Int.eq_ofNat_of_zero_le hcr.1
            have hi4 : i < 4 := by omega
            have HS := hide (cntA_set (ss.take k) ss[k] i hi hi4)
            rw [← List.take_succ_eq_append_getElem hlt] at HS
            have HI := hide (cntA_get (ss.take k) i hi4)
            have hle8 : cntL (ss.take k) i ≤ 32 := Nat.le_trans (cntL_le _ _) (by rw [List.length_take]; omega)
            have hcr' : 0 ≤ (i : Int) ∧ (i : Int) ≤ n - 1 := by rw [← hi]; exact hcr
            by_cases h0 : evF ss[k].e = 0
            · have HN := hide (logG_next hlt hcr h0)
              rw [show evF ⟨ss[k].e.k, ss[k].e.a, ss[k].e.v⟩ = 0 from h0] at IE
              rw [hi] at hc0
              clear h0 hcr hi
              obtain ⟨q, hq⟩ : ∃ q, q = cntL (ss.take k) i := ⟨_, rfl⟩
              rw [← hq] at HS HI hle8
              clear hq
              have hz := hB.lt
              go_wp2_with fail
              refine (allWithin_one _ _ _ _ _ _ (by simp [go_sem]) hcr').mono ?_
              rintro e w2 ⟨rfl, rfl⟩
              go_wp2_with fail
              refine (IE.out _).mono ?_
              rintro e w2 ⟨rfl, hb2⟩
              have hB2 := ((hB.alloc _).alloc _).kept hb2
              have hb3 := ((hb.alloc hb.size _).alloc (by simp; have := hb.size; omega) _).trans (hb2.mono (by simp; have := hb.size; omega))
              have hQ := ((Bk.new wr #[.int .i64 i, .int .i64 ss[k].e.k, .int .i64 ss[k].e.a, .int .i64 ss[k].e.v] 102).alloc (.cells #[.int .i64 i] 2)).kept hb2
              have q0 : w2.cell? ⟨wr.heap.size, 0, none⟩ = some (.int .i64 i) := by rw [hQ.cell 0]; rfl
              have q1 : w2.cell? ⟨w.heap.size + 1, i, none⟩ = some (.int .i64 q) := by rw [hB2.cell i]; exact HI.out
              have f1 := hB2.frozen i
              have hB3 := hB2.set_ i (.int .i64 ((q : Int) + 1))
              rw [HS.out] at hB3
              have HB := hide hB3
              clear hQ hB2 hB3 hb2 hB
              go_wp2
              go_roundw
              case rel => exact ⟨k + 1, by omega, by go_num, HB.out, hb3.setCell (by simp) _, hide (HR.out.trans HN.out)⟩
              case measure => simp [intOf]; omega
            · have HN := hide (logG_ev hlt hcr h0)
              obtain ⟨F, hF⟩ : ∃ F, F = evF ss[k].e := ⟨_, rfl⟩
              rw [show evF ⟨ss[k].e.k, ss[k].e.a, ss[k].e.v⟩ = F from hF.symm] at IE
              rw [← hF] at HN h0
              rw [hi] at hc0
              have f0 : (F != 0) = true := bne_iff_ne.2 h0
              have f1 : (F == 0) = false := beq_eq_false_iff_ne.2 h0
              have HE := hide (show logF ss n = F by rw [HF.out (by rw [HR.out, HN.out]; exact h0), HR.out, HN.out])
              clear h0 hcr hi hF HS HI
              go_wp2_with fail
              refine (allWithin_one _ _ _ _ _ _ (by simp [go_sem]) hcr').mono ?_
              rintro e w2 ⟨rfl, rfl⟩
              go_wp2_with fail
              refine (IE.out _).mono ?_
              rintro e w2 ⟨rfl, hb2⟩
              have hb3 := ((hb.alloc hb.size _).alloc (by simp; have := hb.size; omega) _).trans (hb2.mono (by simp; have := hb.size; omega))
              clear hb2 hB
              go_wp2
              go_ret
              exact ⟨ret_int HE.out.symm, hb3⟩
          · have HN := hide (logG_core hlt hcr)
            have hcr' : ss[k].c < 0 ∨ n - 1 < ss[k].c := by omega
            have HE := hide (show logF ss n = 3 by rw [HF.out (by rw [HR.out, HN.out]; decide), HR.out, HN.out])
            clear hcr IE
            go_wp2_with fail
            refine (allWithin_not _ _ _ _ _ _ (by simp [go_sem]) hcr').mono ?_
            rintro e w2 ⟨rfl, rfl⟩
            have hb3 := (hb.alloc hb.size (.cells #[.int .i64 ss[k].c, .int .i64 ss[k].e.k, .int .i64 ss[k].e.a, .int .i64 ss[k].e.v] 102)).alloc (by simp; have := hb.size; omega) (.cells #[.int .i64 ss[k].c] 2)
            clear hB
            go_wp2
            go_ret
            exact ⟨ret_int HE.out.symm, hb3⟩
        · have HN := hide (show logG n ss = 0 by rw [HR.out, logG_end hlt])
          obtain rfl : k = ss.length := by omega
          rw [TE] at hB
          have hR := cntI_rd hB
          by_cases h8 : fewL ss
          · have HE := hide (HG.out HN.out h8)
            have A8 := hide (fun W hR => allWithin_all (cntI ss) (some ⟨w.heap.size + 1, 0, none⟩) 4 0 8 W (by simp [cntI]) hR ((cntI_few ss).2 h8))
            clear h8 hB
            go_wp2_with fail
            refine (A8.out _ hR).mono ?_
            rintro e w2 ⟨rfl, rfl⟩
            go_wp2
            go_ret
            exact ⟨ret_int HE.out.symm, hb⟩
          · have HE := hide (HH.out HN.out h8)
            have A8 := hide (fun W hR => allWithin_some (cntI ss) (some ⟨w.heap.size + 1, 0, none⟩) 4 0 8 W (by simp [cntI]) hR (fun hh => h8 ((cntI_few ss).1 hh)))
            clear h8 hB
            go_wp2_with fail
            refine (A8.out _ hR).mono ?_
            rintro e w2 ⟨rfl, rfl⟩
            go_wp2
            go_ret
            exact ⟨ret_int HE.out.symm, hb⟩
    · rw [logF_long h1 h2]
      have h2' : 32 < ss.length := by omega
      clear h2
      go_enter Try.func53, Try.ntmps53
      go_wp2_with fail
      refine (allWithin_one _ _ _ _ _ _ (by simp [go_sem]) h1).mono ?_
      rintro e w' ⟨rfl, rfl⟩
      go_wp2
      go_ret
      exact ⟨rfl, by go_grown⟩
  · rw [logF_cores h1]
    have h1' : n < 1 ∨ 4 < n := by omega
    clear h1
    go_enter Try.func53, Try.ntmps53
    go_wp2_with fail
    refine (allWithin_not _ _ _ _ _ _ (by simp [go_sem]) h1').mono ?_
    rintro e w' ⟨rfl, rfl⟩
    go_wp2
    go_ret
    exact ⟨rfl, by go_grown⟩
end Go.Proofs.Ytldepledinolmaa
