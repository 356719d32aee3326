/- The contract of the model's LogFault. -/
import Derived.Test.YtldepledinolmaaLogF
namespace Go.Proofs.Ytldepledinolmaa
open Go.RowKit

/-- The counts of the cores, as the model keeps them. -/
def cntR (N : Nat) (ss : List Stp) : List Value := (List.range N).map fun j : Nat => Value.int .i64 (cntL ss (j : Int) : Nat)
theorem cntR_length (N : Nat) (ss : List Stp) : (cntR N ss).length = N := by simp [cntR]
theorem cntR_get (N : Nat) (ss : List Stp) (i : Nat) (h : i < N) : (cntR N ss)[i]? = some (.int .i64 (cntL ss (i : Int) : Nat)) := by simp [cntR, h]
theorem cntR_nil (N : Nat) : cntR N [] = List.replicate N (Value.int .i64 0) := by
  apply List.ext_getElem
  · simp [cntR]
  · intro i h1 h2
    simp [cntR, cntL]
theorem cntR_set (N : Nat) (ss : List Stp) (s : Stp) (i : Nat) (hi : s.c = (i : Int)) : (cntR N ss).set i (.int .i64 ((cntL ss (i : Int) : Nat) + 1 : Int)) = cntR N (ss ++ [s]) := by
  apply List.ext_getElem
  · simp [cntR]
  · intro j h1 h2
    by_cases hij : i = j
    · subst hij
      rw [List.getElem_set_self]
      simp [cntR, cntL_hit ss s i hi]
    · rw [List.getElem_set_ne hij]
      simp [cntR, cntL_miss ss s j (by omega)]

set_option maxRecDepth 100000 in
set_option maxHeartbeats 1600000 in
theorem specLogF_any (ss : List Stp) (n : Int) (A : Option Addr) (c : Nat) (w : World) (hm : ss.length ≤ maxLen) (h : RdP w w.heap.size A ss) :
    Calls Try.prog 58 #[.slice A ss.length c, .int .i64 n] w fun e w' => e = .returned (.int .i64 (logF ss n)) ∧ Below w.heap.size w w' := by
  unfold maxLen at hm
  by_cases h1 : 1 ≤ n ∧ n ≤ 4
  · by_cases h2 : ss.length ≤ 32
    · obtain ⟨N, rfl⟩ := Int.eq_ofNat_of_zero_le (show 0 ≤ n by omega)
      have HF := hide (fun h3 => logF_bad (ss := ss) h1 h2 h3)
      have HG := hide (fun h3 h4 => logF_few (ss := ss) h1 h2 h3 h4)
      have HH := hide (fun h3 h4 => logF_many (ss := ss) h1 h2 h3 h4)
      have TE : ss.take ss.length = ss := List.take_length
      have hN4 : N ≤ 4 := by omega
      obtain ⟨i0, hi, hz0, hz1, hz2⟩ := info_parts info_i64
      have MD : (madeCells (Value.int .i64 0).cells (N * 1)).toList = cntR N [] := by rw [cntR_nil, made_i64]
      go_enter Try.func58, Try.ntmps58
      go_wp2_with fail
      refine (l1In_yes _ _ _ _ h1).mono ?_
      rintro e w' ⟨rfl, rfl⟩
      go_wp2_with (at_make; refine wpList_make_full _ rfl _ _ 41 rfl w.heap.size 2 i0 (.int .i64 0) 1 Try.underlying41 hi hz0 hz1 .i64 .i64 _ _ N rfl rfl rfl rfl (by rw [hz2]; omega) (by unfold maxLen; omega) (Nat.le_refl _) ?_; intro w1 hown hg)
      rw [MD] at hown
      have hb1 : Below w.heap.size w w1 := (Below.refl _ _).grown hg (Nat.le_refl _) (by simp)
      clear hg MD
      go_loopw [19] (fun i wr => ∃ k : Nat, k ≤ ss.length ∧ i = .int .i64 k ∧ wr.ownsRow w.heap.size 2 1 (.slice (some ⟨w.heap.size, 0, none⟩) N N) N (cntR N (ss.take k)) ∧ Below w.heap.size w wr ∧ Hid (logG N ss = logG N (ss.drop k))) (fun i _ => ss.length - (intOf i).toNat)
      case atStart => exact ⟨0, Nat.zero_le _, rfl, hown, hb1, hide rfl⟩
      case round =>
        obtain ⟨k, hk, rfl, ho, hb, HR⟩ := hrel
        by_cases hlt : k < ss.length
        · obtain ⟨b, off, rfl, hbb, hc0, hc1, hc2, hc3⟩ := (h.below hb).get hlt
          have IE := hide (fun W => specEvF_any ss[k].e.k ss[k].e.a ss[k].e.v W)
          by_cases hcr : 0 ≤ ss[k].c ∧ ss[k].c ≤ (N : Int) - 1
          · obtain ⟨i, hi⟩ := Int.eq_ofNat_of_zero_le hcr.1
            have hiN : i < N := by omega
            have HS := hide (cntR_set N (ss.take k) ss[k] i hi)
            rw [← List.take_succ_eq_append_getElem hlt] at HS
            have HI := hide (cntR_get N (ss.take k) i hiN)
            have hle8 : cntL (ss.take k) i ≤ 32 := Nat.le_trans (cntL_le _ _) (by rw [List.length_take]; omega)
            have hcr' : 0 ≤ (i : Int) ∧ (i : Int) ≤ (N : Int) - 1 := by rw [← hi]; exact hcr
            by_cases h0 : evF ss[k].e = 0
            · have HN := hide (logG_next hlt hcr h0)
              rw [show evF ⟨ss[k].e.k, ss[k].e.a, ss[k].e.v⟩ = 0 from h0] at IE
              rw [hi] at hc0
              clear h0 hcr hi
              obtain ⟨q, hq⟩ : ∃ q, q = cntL (ss.take k) i := ⟨_, rfl⟩
              rw [← hq] at HS HI hle8
              clear hq
              go_wp2_with fail
              refine (l1In_yes _ _ _ _ hcr').mono ?_
              rintro e w2 ⟨rfl, rfl⟩
              go_wp2_with fail
              refine (IE.out _).mono ?_
              rintro e w2 ⟨rfl, hb2⟩
              have ho2 := own_below ho hb2 (Nat.le_refl _)
              have hb3 := hb.trans (hb2.mono hb.size)
              have hd0 := (hb2.cell (block_lt_of_cell hc0)).trans hc0
              have q1 : w2.cell? ⟨w.heap.size, i, none⟩ = some (.int .i64 q) := by rw [ho2.cellAt i (by omega)]; exact HI.out
              have f1 := ho2.frozenAt i
              have hB3 := (ho2.stored i (.int .i64 ((q : Int) + 1))).1
              rw [HS.out] at hB3
              have HB := hide hB3
              clear hB3 hb2 ho2 ho
              go_wp2
              go_roundw
              case rel => exact ⟨k + 1, by omega, by go_num, HB.out, hb3.setCell (by simp) _, hide (HR.out.trans HN.out)⟩
              case measure => simp [intOf]; omega
            · have HN := hide (logG_ev hlt hcr h0)
              obtain ⟨F, hF⟩ : ∃ F, F = evF ss[k].e := ⟨_, rfl⟩
              rw [show evF ⟨ss[k].e.k, ss[k].e.a, ss[k].e.v⟩ = F from hF.symm] at IE
              rw [← hF] at HN h0
              rw [hi] at hc0
              have f0 : (F != 0) = true := bne_iff_ne.2 h0
              have f1 : (F == 0) = false := beq_eq_false_iff_ne.2 h0
              have HE := hide (show logF ss N = F by rw [HF.out (by rw [HR.out, HN.out]; exact h0), HR.out, HN.out])
              clear h0 hcr hi hF HS HI
              go_wp2_with fail
              refine (l1In_yes _ _ _ _ hcr').mono ?_
              rintro e w2 ⟨rfl, rfl⟩
              go_wp2_with fail
              refine (IE.out _).mono ?_
              rintro e w2 ⟨rfl, hb2⟩
              have hb3 := hb.trans (hb2.mono hb.size)
              clear hb2 ho
              go_wp2
              go_ret
              exact ⟨ret_int HE.out.symm, hb3⟩
          · have HN := hide (logG_core hlt hcr)
            have hcr' : ss[k].c < 0 ∨ (N : Int) - 1 < ss[k].c := by omega
            have HE := hide (show logF ss N = 3 by rw [HF.out (by rw [HR.out, HN.out]; decide), HR.out, HN.out])
            clear hcr IE
            go_wp2_with fail
            refine (l1In_no _ _ _ _ hcr').mono ?_
            rintro e w2 ⟨rfl, rfl⟩
            clear ho
            go_wp2
            go_ret
            exact ⟨ret_int HE.out.symm, hb⟩
        · have HN := hide (show logG N ss = 0 by rw [HR.out, logG_end hlt])
          obtain rfl : k = ss.length := by omega
          rw [TE] at ho
          have hall := logG_all HN.out
          have HC := hide (fun (j : Int) (hj : (N : Int) - 1 < j) => cntL_none (ss := ss) (j := j) fun s hs => by have := (hall s hs).1; omega)
          have HLe := hide (fun j : Int => Nat.le_trans (cntL_le ss j) h2)
          have hg : ∀ i, i < N → wr.cell? ⟨w.heap.size, i, none⟩ = some (.int .i64 (cntL ss (i : Int) : Nat)) := fun i hi => by
            rw [ho.cellAt i (by omega)]
            exact cntR_get N ss i hi
          have HGet := hide hg
          clear hall hg ho
          go_wp2
          go_loopw [53] (fun i w2 => ∃ k : Nat, k ≤ N ∧ i = .int .i64 k ∧ wr = w2 ∧ Hid (∀ j : Nat, j < k → cntL ss (j : Int) ≤ 8)) (fun i _ => N - (intOf i).toNat)
          case atStart => exact ⟨0, Nat.zero_le _, rfl, rfl, hide fun j hj => by omega⟩
          case round =>
            obtain ⟨k, hk, rfl, rfl, HK⟩ := hrel
            by_cases hlt : k < N
            · have hc := HGet.out k hlt
              have hL := HLe.out (k : Int)
              by_cases h8 : cntL ss (k : Int) ≤ 8
              · have HK2 := hide (show ∀ j : Nat, j < k + 1 → cntL ss (j : Int) ≤ 8 from fun j hj => by
                  by_cases hh : j = k
                  · subst hh; exact h8
                  · exact HK.out j (by omega))
                obtain ⟨q, hq⟩ : ∃ q, q = cntL ss (k : Int) := ⟨_, rfl⟩
                rw [← hq] at hc hL h8
                clear hq
                go_wp2
                go_roundw
                case rel => exact ⟨k + 1, by omega, by go_num, by first | rfl | trivial, HK2⟩
                case measure => simp [intOf]; omega
              · have HE := hide (HH.out HN.out (fun hh => h8 (few_at hh (by omega) (by omega))))
                obtain ⟨q, hq⟩ : ∃ q, q = cntL ss (k : Int) := ⟨_, rfl⟩
                rw [← hq] at hc hL h8
                clear hq
                go_wp2
                go_ret
                exact ⟨ret_int HE.out.symm, hb⟩
            · have HE := hide (HG.out HN.out (by
                have key : ∀ j : Nat, j < 4 → cntL ss (j : Int) ≤ 8 := fun j hj => by
                  by_cases hjN : j < N
                  · exact HK.out j (by omega)
                  · rw [HC.out (j : Int) (by omega)]; omega
                exact ⟨key 0 (by omega), key 1 (by omega), key 2 (by omega), key 3 (by omega)⟩))
              go_wp2
              go_ret
              exact ⟨ret_int HE.out.symm, hb⟩
    · rw [logF_long h1 h2]
      have h2' : 32 < ss.length := by omega
      clear h2
      go_enter Try.func58, Try.ntmps58
      go_wp2_with fail
      refine (l1In_yes _ _ _ _ h1).mono ?_
      rintro e w' ⟨rfl, rfl⟩
      go_wp2
      go_ret
      exact ⟨rfl, Below.refl _ _⟩
  · rw [logF_cores h1]
    have h1' : n < 1 ∨ 4 < n := by omega
    clear h1
    go_enter Try.func58, Try.ntmps58
    go_wp2_with fail
    refine (l1In_no _ _ _ _ h1').mono ?_
    rintro e w' ⟨rfl, rfl⟩
    go_wp2
    go_ret
    exact ⟨rfl, Below.refl _ _⟩
end Go.Proofs.Ytldepledinolmaa
