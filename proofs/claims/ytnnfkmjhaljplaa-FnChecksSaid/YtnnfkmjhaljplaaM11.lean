/- What the laws' walks rest upon, part 11. -/
import Derived.Test.YtnnfkmjhaljplaaM02
import Derived.Test.YtnnfkmjhaljplaaM03
import Derived.StillTailTactics
import Derived.Test.YtnnfkmjhaljplaaM07
import Derived.OneCell
import Derived.Test.YtnnfkmjhaljplaaM01
import Derived.Maps.AppendAt
import Derived.Maps.Range
import Derived.OwnWalk
import Derived.RegionTactic
namespace Go.Proofs.Ytnnfkmjhaljplaa
open Go.RowKit
theorem info_step : (Try.prog.info? 85).map (fun i => (i.zero, i.size, i.bytes)) = some (some (.agg #[.int .i64 0, .int .i64 0, .int .i64 0, .int .i64 0]), 4, 32) := by kernel_rfl
def zeroP : Stp := ⟨0, zeroE⟩
theorem stps_zero : ∀ n : Nat, stps (List.replicate n zeroP) = List.replicate (n * 4) (.int .i64 0)
 | 0 => rfl
 | n + 1 => by
  rw [List.replicate_succ, stps, stps_zero n, show (n + 1) * 4 = n * 4 + 1 + 1 + 1 + 1 by omega, List.replicate_succ, List.replicate_succ, List.replicate_succ, List.replicate_succ]
  rfl
theorem made_step (n : Nat) : (madeCells (Value.agg #[.int .i64 0, .int .i64 0, .int .i64 0, .int .i64 0]).cells (n * 4)).toList = List.replicate (n * 4) (Value.int .i64 0) := by
 apply List.ext_getElem
 ·simp [madeCells]
 ·intro i h1 h2
  simp only [madeCells, Value.cells, Array.getElem_toList, List.getElem_replicate]
  rcases (show i % 4 = 0 ∨ i % 4 = 1 ∨ i % 4 = 2 ∨ i % 4 = 3 by omega) with h | h | h | h <;> simp [h]
end Go.Proofs.Ytnnfkmjhaljplaa
namespace Go.Proofs.Ytnnfkmjhaljplaa
open Go.RowKit
theorem info_i64 : (Try.prog.info? 2).map (fun i => (i.zero, i.size, i.bytes)) = some (some (.int .i64 0), 1, 8) := by kernel_rfl
theorem made_i64 (n : Nat) : (madeCells (Value.int .i64 0).cells (n * 1)).toList = List.replicate n (Value.int .i64 0) := by
 apply List.ext_getElem
 ·simp [madeCells]
 ·intro i h1 h2
  simp [madeCells, Value.cells, Nat.mod_one]
set_option maxHeartbeats 400000 in
theorem lwNums_same (l : List Int) (A A' : Option Addr) (c c' : Nat) (w : World) (hm : l.length ≤ maxLen) (h : Rd .i64 w w.heap.size A l) (h' : Rd .i64 w w.heap.size A' l) :
  Calls Try.prog 22 #[.slice A l.length c, .slice A' l.length c'] w fun e w' => e = .returned (.bool true) ∧ Below w.heap.size w w' := by
 unfold maxLen at hm
 go_enter Try.func22, Try.ntmps22
 go_wp2
 go_loopw [5] (fun i wr => ∃ k : Nat, k ≤ l.length ∧ i = .int .i64 k ∧ Below w.heap.size w wr) (fun i _ => l.length - (intOf i).toNat)
 case atStart => exact ⟨0, Nat.zero_le _, rfl, Below.refl _ _⟩
 case round =>
  obtain ⟨k, hk, rfl, hb⟩ := hrel
  by_cases hlt : k < l.length
  ·obtain ⟨b, off, rfl, hbb, hc⟩ := (h.below hb).get hlt
   obtain ⟨b', off', rfl, hbb', hc'⟩ := (h'.below hb).get hlt
   go_wp2
   go_quiet (fail)
   go_wp2
   go_roundw
   case rel => exact ⟨k + 1, by omega, by go_num, below_drewN hb _⟩
   case measure => simp [intOf]; omega
  ·go_wp2
   go_ret
   exact ⟨rfl, hb⟩
end Go.Proofs.Ytnnfkmjhaljplaa
namespace Go.Proofs.Ytnnfkmjhaljplaa
open Go.RowKit
/-- Numbers within their bounds, as the program asks it. -/
theorem allWithin_all (l : List Int) (A : Option Addr) (c : Nat) (lo hi : Int) (w : World) (hm : l.length ≤ 1000) (h : Rd .i64 w w.heap.size A l) (hin : ∀ n ∈ l, lo ≤ n ∧ n ≤ hi) :
  Calls Try.prog 51 #[.int .i64 lo, .int .i64 hi, .slice A l.length c] w fun e w' => e = .returned (.bool true) ∧ w = w' := by
 go_enter Try.func51, Try.ntmps51
 go_wp2
 go_loop [11] (fun i => ∃ j : Nat, j ≤ l.length ∧ i = .int .i64 j) (fun i => l.length - (intOf i).toNat)
 case atStart => exact ⟨0, by omega, rfl⟩
 case round =>
  obtain ⟨j, hj, rfl⟩ := hrel
  by_cases h0 : j < l.length
  ·obtain ⟨b, off, rfl, hb, hc⟩ := h.get h0
   obtain ⟨h1, h2⟩ := hin _ (List.getElem_mem h0)
   go_wp2
   go_round
   case rel => exact ⟨j + 1, by omega, by go_num⟩
   case measure => simp [intOf]; omega
  ·go_wp2
   go_ret
   exact ⟨rfl, rfl⟩
theorem allWithin_some (l : List Int) (A : Option Addr) (c : Nat) (lo hi : Int) (w : World) (hm : l.length ≤ 1000) (h : Rd .i64 w w.heap.size A l) (hin : ¬ ∀ n ∈ l, lo ≤ n ∧ n ≤ hi) :
  Calls Try.prog 51 #[.int .i64 lo, .int .i64 hi, .slice A l.length c] w fun e w' => e = .returned (.bool false) ∧ w = w' := by
 have HN := hide hin
 clear hin
 go_enter Try.func51, Try.ntmps51
 go_wp2
 go_loop [11] (fun i => ∃ j : Nat, j ≤ l.length ∧ i = .int .i64 j ∧ Hid (∀ k, (hk : k < l.length) → k < j → lo ≤ l[k] ∧ l[k] ≤ hi)) (fun i => l.length - (intOf i).toNat)
 case atStart => exact ⟨0, by omega, rfl, hide fun k _ h => by omega⟩
 case round =>
  obtain ⟨j, hj, rfl, HJ⟩ := hrel
  by_cases h0 : j < l.length
  ·obtain ⟨b, off, rfl, hb, hc⟩ := h.get h0
   by_cases h1 : lo ≤ l[j]
   ·by_cases h2 : l[j] ≤ hi
    ·have HJ2 := hide (show ∀ k, (hk : k < l.length) → k < j + 1 → lo ≤ l[k] ∧ l[k] ≤ hi from fun k hk hkj => by
      by_cases hh : k = j
      ·subst hh; exact ⟨h1, h2⟩
      ·exact HJ.out k hk (by omega))
     go_wp2
     go_round
     case rel => exact ⟨j + 1, by omega, by go_num, HJ2⟩
     case measure => simp [intOf]; omega
    ·go_wp2
     go_ret
     exact ⟨rfl, rfl⟩
   ·go_wp2
    go_ret
    exact ⟨rfl, rfl⟩
  ·exfalso
   refine HN.out fun n hn => ?_
   obtain ⟨k, hk, rfl⟩ := List.getElem_of_mem hn
   exact HJ.out k hk (by omega)
/-- The counts of the cores, as the program keeps them. -/
def cntA (ss : List Stp) : Array Value := #[.int .i64 (cntL ss 0), .int .i64 (cntL ss 1), .int .i64 (cntL ss 2), .int .i64 (cntL ss 3)]
theorem cntA_get (ss : List Stp) (i : Nat) (h : i < 4) : (cntA ss)[i]? = some (.int .i64 (cntL ss i)) := by
 rcases (show i = 0 ∨ i = 1 ∨ i = 2 ∨ i = 3 by omega) with rfl | rfl | rfl | rfl <;> rfl
theorem cntA_set (ss : List Stp) (s : Stp) (i : Nat) (hi : s.c = (i : Int)) (h : i < 4) : (cntA ss).setIfInBounds i (.int .i64 ((cntL ss i : Nat) + 1 : Int)) = cntA (ss ++ [s]) := by
 have hit : ∀ j : Int, s.c = j → (((cntL (ss ++ [s]) j : Nat) : Int)) = (cntL ss j : Nat) + 1 := fun j hj => by rw [cntL_hit ss s j hj]; rfl
 rcases (show i = 0 ∨ i = 1 ∨ i = 2 ∨ i = 3 by omega) with rfl | rfl | rfl | rfl
 ·unfold cntA; rw [hit 0 hi, cntL_miss ss s 1 (by omega), cntL_miss ss s 2 (by omega), cntL_miss ss s 3 (by omega)]; simp
 ·unfold cntA; rw [hit 1 hi, cntL_miss ss s 0 (by omega), cntL_miss ss s 2 (by omega), cntL_miss ss s 3 (by omega)]; simp
 ·unfold cntA; rw [hit 2 hi, cntL_miss ss s 0 (by omega), cntL_miss ss s 1 (by omega), cntL_miss ss s 3 (by omega)]; simp
 ·unfold cntA; rw [hit 3 hi, cntL_miss ss s 0 (by omega), cntL_miss ss s 1 (by omega), cntL_miss ss s 2 (by omega)]; simp
def cntI (ss : List Stp) : List Int := [(cntL ss 0 : Nat), (cntL ss 1 : Nat), (cntL ss 2 : Nat), (cntL ss 3 : Nat)]
theorem cntI_few (ss : List Stp) : (∀ n ∈ cntI ss, (0 : Int) ≤ n ∧ n ≤ 8) ↔ fewL ss := by
 simp only [cntI, List.mem_cons, List.not_mem_nil, or_false, forall_eq_or_imp, forall_eq, fewL]
 omega
theorem cntI_rd {w : World} {g : Nat} {ss : List Stp} {t : TypeId} (h : Bk w g (cntA ss) t) : Rd .i64 w w.heap.size (some ⟨g, 0, none⟩) (cntI ss) := by
 intro _
 refine ⟨g, 0, rfl, h.lt, fun i hi => ?_⟩
 have hi4 : i < 4 := by simpa [cntI] using hi
 rw [Nat.zero_add, h.cell i, cntA_get ss i hi4]
 rcases (show i = 0 ∨ i = 1 ∨ i = 2 ∨ i = 3 by omega) with rfl | rfl | rfl | rfl <;> rfl
end Go.Proofs.Ytnnfkmjhaljplaa
namespace Go.Proofs.Ytnnfkmjhaljplaa
open Go.RowKit
set_option maxRecDepth 100000 in
set_option maxHeartbeats 1600000 in
theorem implLogF_any (ss : List Stp) (n : Int) (A : Option Addr) (c : Nat) (w : World) (hm : ss.length ≤ maxLen) (h : RdP w w.heap.size A ss) :
  Calls Try.prog 32 #[.slice A ss.length c, .int .i64 n] w fun e w' => e = .returned (.int .i64 (logF ss n)) ∧ Below w.heap.size w w' := by
 unfold maxLen at hm
 by_cases h1 : 1 ≤ n ∧ n ≤ 4
 ·by_cases h2 : ss.length ≤ 32
  ·have HF := hide (fun h3 => logF_bad (ss := ss) h1 h2 h3)
   have HG := hide (fun h3 h4 => logF_few (ss := ss) h1 h2 h3 h4)
   have HH := hide (fun h3 h4 => logF_many (ss := ss) h1 h2 h3 h4)
   have TE : ss.take ss.length = ss := List.take_length
   go_enter Try.func32, Try.ntmps32
   go_wp2_with fail
   refine (allWithin_one _ _ _ _ _ _ (by simp [go_sem]) h1).mono ?_
   rintro e w' ⟨rfl, rfl⟩
   have hV := Bk.new (w.alloc (.cells #[.int .i64 n] 2)) #[.int .i64 0, .int .i64 0, .int .i64 0, .int .i64 0] 94
   rw [World.size_alloc] at hV
   go_wp2_with fail
   go_loopw [18] (fun i wr => ∃ k : Nat, k ≤ ss.length ∧ i = .int .i64 k ∧ Bk wr (w.heap.size + 1) (cntA (ss.take k)) 94 ∧ Below w.heap.size w wr ∧ Hid (logG n ss = logG n (ss.drop k))) (fun i _ => ss.length - (intOf i).toNat)
   case atStart => exact ⟨0, Nat.zero_le _, rfl, hV, ((Below.refl _ _).alloc (Nat.le_refl _) _).alloc (by simp) _, hide rfl⟩
   case round =>
    obtain ⟨k, hk, rfl, hB, hb, HR⟩ := hrel
    by_cases hlt : k < ss.length
    ·obtain ⟨b, off, rfl, hbb, hc0, hc1, hc2, hc3⟩ := (h.below hb).get hlt
     have IE := hide (fun W => implEvF_any ss[k].e.k ss[k].e.a ss[k].e.v W)
     by_cases hcr : 0 ≤ ss[k].c ∧ ss[k].c ≤ n - 1
     ·obtain ⟨i, hi⟩ := Int.eq_ofNat_of_zero_le hcr.1
      have hi4 : i < 4 := by omega
      have HS := hide (cntA_set (ss.take k) ss[k] i hi hi4)
      rw [← List.take_succ_eq_append_getElem hlt] at HS
      have HI := hide (cntA_get (ss.take k) i hi4)
      have hle8 : cntL (ss.take k) i ≤ 32 := Nat.le_trans (cntL_le _ _) (by rw [List.length_take]; omega)
      have hcr' : 0 ≤ (i : Int) ∧ (i : Int) ≤ n - 1 := by rw [← hi]; exact hcr
      by_cases h0 : evF ss[k].e = 0
      ·have HN := hide (logG_next hlt hcr h0)
       rw [show evF ⟨ss[k].e.k, ss[k].e.a, ss[k].e.v⟩ = 0 from h0] at IE
       rw [hi] at hc0
       clear h0 hcr hi
       obtain ⟨q, hq⟩ : ∃ q, q = cntL (ss.take k) i := ⟨_, rfl⟩
       rw [← hq] at HS HI hle8
       clear hq
       have hz := hB.lt
       go_wp2_with fail
       refine (allWithin_one _ _ _ _ _ _ (by simp [go_sem]) hcr').mono ?_
       rintro e w2 ⟨rfl, rfl⟩
       go_wp2_with fail
       refine (IE.out _).mono ?_
       rintro e w2 ⟨rfl, hb2⟩
       have hB2 := ((hB.alloc _).alloc _).kept hb2
       have hb3 := ((hb.alloc hb.size _).alloc (by simp; have := hb.size; omega) _).trans (hb2.mono (by simp; have := hb.size; omega))
       have hQ := ((Bk.new wr #[.int .i64 i, .int .i64 ss[k].e.k, .int .i64 ss[k].e.a, .int .i64 ss[k].e.v] 85).alloc (.cells #[.int .i64 i] 2)).kept hb2
       have q0 : w2.cell? ⟨wr.heap.size, 0, none⟩ = some (.int .i64 i) := by rw [hQ.cell 0]; rfl
       have q1 : w2.cell? ⟨w.heap.size + 1, i, none⟩ = some (.int .i64 q) := by rw [hB2.cell i]; exact HI.out
       have f1 := hB2.frozen i
       have hB3 := hB2.set_ i (.int .i64 ((q : Int) + 1))
       rw [HS.out] at hB3
       have HB := hide hB3
       clear hQ hB2 hB3 hb2 hB
       go_wp2
       go_roundw
       case rel => exact ⟨k + 1, by omega, by go_num, HB.out, hb3.setCell (by simp) _, hide (HR.out.trans HN.out)⟩
       case measure => simp [intOf]; omega
      ·have HN := hide (logG_ev hlt hcr h0)
       obtain ⟨F, hF⟩ : ∃ F, F = evF ss[k].e := ⟨_, rfl⟩
       rw [show evF ⟨ss[k].e.k, ss[k].e.a, ss[k].e.v⟩ = F from hF.symm] at IE
       rw [← hF] at HN h0
       rw [hi] at hc0
       have f0 : (F != 0) = true := bne_iff_ne.2 h0
       have f1 : (F == 0) = false := beq_eq_false_iff_ne.2 h0
       have HE := hide (show logF ss n = F by rw [HF.out (by rw [HR.out, HN.out]; exact h0), HR.out, HN.out])
       clear h0 hcr hi hF HS HI
       go_wp2_with fail
       refine (allWithin_one _ _ _ _ _ _ (by simp [go_sem]) hcr').mono ?_
       rintro e w2 ⟨rfl, rfl⟩
       go_wp2_with fail
       refine (IE.out _).mono ?_
       rintro e w2 ⟨rfl, hb2⟩
       have hb3 := ((hb.alloc hb.size _).alloc (by simp; have := hb.size; omega) _).trans (hb2.mono (by simp; have := hb.size; omega))
       clear hb2 hB
       go_wp2
       go_ret
       exact ⟨ret_int HE.out.symm, hb3⟩
     ·have HN := hide (logG_core hlt hcr)
      have hcr' : ss[k].c < 0 ∨ n - 1 < ss[k].c := by omega
      have HE := hide (show logF ss n = 3 by rw [HF.out (by rw [HR.out, HN.out]; decide), HR.out, HN.out])
      clear hcr IE
      go_wp2_with fail
      refine (allWithin_not _ _ _ _ _ _ (by simp [go_sem]) hcr').mono ?_
      rintro e w2 ⟨rfl, rfl⟩
      have hb3 := (hb.alloc hb.size (.cells #[.int .i64 ss[k].c, .int .i64 ss[k].e.k, .int .i64 ss[k].e.a, .int .i64 ss[k].e.v] 85)).alloc (by simp; have := hb.size; omega) (.cells #[.int .i64 ss[k].c] 2)
      clear hB
      go_wp2
      go_ret
      exact ⟨ret_int HE.out.symm, hb3⟩
    ·have HN := hide (show logG n ss = 0 by rw [HR.out, logG_end hlt])
     obtain rfl : k = ss.length := by omega
     rw [TE] at hB
     have hR := cntI_rd hB
     by_cases h8 : fewL ss
     ·have HE := hide (HG.out HN.out h8)
      have A8 := hide (fun W hR => allWithin_all (cntI ss) (some ⟨w.heap.size + 1, 0, none⟩) 4 0 8 W (by simp [cntI]) hR ((cntI_few ss).2 h8))
      clear h8 hB
      go_wp2_with fail
      refine (A8.out _ hR).mono ?_
      rintro e w2 ⟨rfl, rfl⟩
      go_wp2
      go_ret
      exact ⟨ret_int HE.out.symm, hb⟩
     ·have HE := hide (HH.out HN.out h8)
      have A8 := hide (fun W hR => allWithin_some (cntI ss) (some ⟨w.heap.size + 1, 0, none⟩) 4 0 8 W (by simp [cntI]) hR (fun hh => h8 ((cntI_few ss).1 hh)))
      clear h8 hB
      go_wp2_with fail
      refine (A8.out _ hR).mono ?_
      rintro e w2 ⟨rfl, rfl⟩
      go_wp2
      go_ret
      exact ⟨ret_int HE.out.symm, hb⟩
  ·rw [logF_long h1 h2]
   have h2' : 32 < ss.length := by omega
   clear h2
   go_enter Try.func32, Try.ntmps32
   go_wp2_with fail
   refine (allWithin_one _ _ _ _ _ _ (by simp [go_sem]) h1).mono ?_
   rintro e w' ⟨rfl, rfl⟩
   go_wp2
   go_ret
   exact ⟨rfl, by go_grown⟩
 ·rw [logF_cores h1]
  have h1' : n < 1 ∨ 4 < n := by omega
  clear h1
  go_enter Try.func32, Try.ntmps32
  go_wp2_with fail
  refine (allWithin_not _ _ _ _ _ _ (by simp [go_sem]) h1').mono ?_
  rintro e w' ⟨rfl, rfl⟩
  go_wp2
  go_ret
  exact ⟨rfl, by go_grown⟩
end Go.Proofs.Ytnnfkmjhaljplaa
namespace Go.Proofs.Ytnnfkmjhaljplaa
open Go.RowKit
/-- The counts of the cores, as the model keeps them. -/
def cntR (N : Nat) (ss : List Stp) : List Value := (List.range N).map fun j : Nat => Value.int .i64 (cntL ss (j : Int) : Nat)
theorem cntR_get (N : Nat) (ss : List Stp) (i : Nat) (h : i < N) : (cntR N ss)[i]? = some (.int .i64 (cntL ss (i : Int) : Nat)) := by simp [cntR, h]
theorem cntR_nil (N : Nat) : cntR N [] = List.replicate N (Value.int .i64 0) := by
 apply List.ext_getElem
 ·simp [cntR]
 ·intro i h1 h2
  simp [cntR, cntL]
theorem cntR_set (N : Nat) (ss : List Stp) (s : Stp) (i : Nat) (hi : s.c = (i : Int)) : (cntR N ss).set i (.int .i64 ((cntL ss (i : Int) : Nat) + 1 : Int)) = cntR N (ss ++ [s]) := by
 apply List.ext_getElem
 ·simp [cntR]
 ·intro j h1 h2
  by_cases hij : i = j
  ·subst hij
   rw [List.getElem_set_self]
   simp [cntR, cntL_hit ss s i hi]
  ·rw [List.getElem_set_ne hij]
   simp [cntR, cntL_miss ss s j (by omega)]
set_option maxRecDepth 100000 in
set_option maxHeartbeats 1600000 in
theorem specLogF_any (ss : List Stp) (n : Int) (A : Option Addr) (c : Nat) (w : World) (hm : ss.length ≤ maxLen) (h : RdP w w.heap.size A ss) :
  Calls Try.prog 37 #[.slice A ss.length c, .int .i64 n] w fun e w' => e = .returned (.int .i64 (logF ss n)) ∧ Below w.heap.size w w' := by
 unfold maxLen at hm
 by_cases h1 : 1 ≤ n ∧ n ≤ 4
 ·by_cases h2 : ss.length ≤ 32
  ·obtain ⟨N, rfl⟩ := Int.eq_ofNat_of_zero_le (show 0 ≤ n by omega)
   have HF := hide (fun h3 => logF_bad (ss := ss) h1 h2 h3)
   have HG := hide (fun h3 h4 => logF_few (ss := ss) h1 h2 h3 h4)
   have HH := hide (fun h3 h4 => logF_many (ss := ss) h1 h2 h3 h4)
   have TE : ss.take ss.length = ss := List.take_length
   have hN4 : N ≤ 4 := by omega
   obtain ⟨i0, hi, hz0, hz1, hz2⟩ := info_parts info_i64
   have MD : (madeCells (Value.int .i64 0).cells (N * 1)).toList = cntR N [] := by rw [cntR_nil, made_i64]
   go_enter Try.func37, Try.ntmps37
   go_wp2_with fail
   refine (l1In_yes _ _ _ _ h1).mono ?_
   rintro e w' ⟨rfl, rfl⟩
   go_wp2_with (at_make; refine wpList_make_full _ rfl _ _ 41 rfl w.heap.size 2 i0 (.int .i64 0) 1 Try.underlying41 hi hz0 hz1 .i64 .i64 _ _ N rfl rfl rfl rfl (by rw [hz2]; omega) (by unfold maxLen; omega) (Nat.le_refl _) ?_; intro w1 hown hg)
   rw [MD] at hown
   have hb1 : Below w.heap.size w w1 := (Below.refl _ _).grown hg (Nat.le_refl _) (by simp)
   clear hg MD
   go_loopw [19] (fun i wr => ∃ k : Nat, k ≤ ss.length ∧ i = .int .i64 k ∧ wr.ownsRow w.heap.size 2 1 (.slice (some ⟨w.heap.size, 0, none⟩) N N) N (cntR N (ss.take k)) ∧ Below w.heap.size w wr ∧ Hid (logG N ss = logG N (ss.drop k))) (fun i _ => ss.length - (intOf i).toNat)
   case atStart => exact ⟨0, Nat.zero_le _, rfl, hown, hb1, hide rfl⟩
   case round =>
    obtain ⟨k, hk, rfl, ho, hb, HR⟩ := hrel
    by_cases hlt : k < ss.length
    ·obtain ⟨b, off, rfl, hbb, hc0, hc1, hc2, hc3⟩ := (h.below hb).get hlt
     have IE := hide (fun W => specEvF_any ss[k].e.k ss[k].e.a ss[k].e.v W)
     by_cases hcr : 0 ≤ ss[k].c ∧ ss[k].c ≤ (N : Int) - 1
     ·obtain ⟨i, hi⟩ := Int.eq_ofNat_of_zero_le hcr.1
      have hiN : i < N := by omega
      have HS := hide (cntR_set N (ss.take k) ss[k] i hi)
      rw [← List.take_succ_eq_append_getElem hlt] at HS
      have HI := hide (cntR_get N (ss.take k) i hiN)
      have hle8 : cntL (ss.take k) i ≤ 32 := Nat.le_trans (cntL_le _ _) (by rw [List.length_take]; omega)
      have hcr' : 0 ≤ (i : Int) ∧ (i : Int) ≤ (N : Int) - 1 := by rw [← hi]; exact hcr
      by_cases h0 : evF ss[k].e = 0
      ·have HN := hide (logG_next hlt hcr h0)
       rw [show evF ⟨ss[k].e.k, ss[k].e.a, ss[k].e.v⟩ = 0 from h0] at IE
       rw [hi] at hc0
       clear h0 hcr hi
       obtain ⟨q, hq⟩ : ∃ q, q = cntL (ss.take k) i := ⟨_, rfl⟩
       rw [← hq] at HS HI hle8
       clear hq
       go_wp2_with fail
       refine (l1In_yes _ _ _ _ hcr').mono ?_
       rintro e w2 ⟨rfl, rfl⟩
       go_wp2_with fail
       refine (IE.out _).mono ?_
       rintro e w2 ⟨rfl, hb2⟩
       have ho2 := own_below ho hb2 (Nat.le_refl _)
       have hb3 := hb.trans (hb2.mono hb.size)
       have hd0 := (hb2.cell (block_lt_of_cell hc0)).trans hc0
       have q1 : w2.cell? ⟨w.heap.size, i, none⟩ = some (.int .i64 q) := by rw [ho2.cellAt i (by omega)]; exact HI.out
       have f1 := ho2.frozenAt i
       have hB3 := (ho2.stored i (.int .i64 ((q : Int) + 1))).1
       rw [HS.out] at hB3
       have HB := hide hB3
       clear hB3 hb2 ho2 ho
       go_wp2
       go_roundw
       case rel => exact ⟨k + 1, by omega, by go_num, HB.out, hb3.setCell (by simp) _, hide (HR.out.trans HN.out)⟩
       case measure => simp [intOf]; omega
      ·have HN := hide (logG_ev hlt hcr h0)
       obtain ⟨F, hF⟩ : ∃ F, F = evF ss[k].e := ⟨_, rfl⟩
       rw [show evF ⟨ss[k].e.k, ss[k].e.a, ss[k].e.v⟩ = F from hF.symm] at IE
       rw [← hF] at HN h0
       rw [hi] at hc0
       have f0 : (F != 0) = true := bne_iff_ne.2 h0
       have f1 : (F == 0) = false := beq_eq_false_iff_ne.2 h0
       have HE := hide (show logF ss N = F by rw [HF.out (by rw [HR.out, HN.out]; exact h0), HR.out, HN.out])
       clear h0 hcr hi hF HS HI
       go_wp2_with fail
       refine (l1In_yes _ _ _ _ hcr').mono ?_
       rintro e w2 ⟨rfl, rfl⟩
       go_wp2_with fail
       refine (IE.out _).mono ?_
       rintro e w2 ⟨rfl, hb2⟩
       have hb3 := hb.trans (hb2.mono hb.size)
       clear hb2 ho
       go_wp2
       go_ret
       exact ⟨ret_int HE.out.symm, hb3⟩
     ·have HN := hide (logG_core hlt hcr)
      have hcr' : ss[k].c < 0 ∨ (N : Int) - 1 < ss[k].c := by omega
      have HE := hide (show logF ss N = 3 by rw [HF.out (by rw [HR.out, HN.out]; decide), HR.out, HN.out])
      clear hcr IE
      go_wp2_with fail
      refine (l1In_no _ _ _ _ hcr').mono ?_
      rintro e w2 ⟨rfl, rfl⟩
      clear ho
      go_wp2
      go_ret
      exact ⟨ret_int HE.out.symm, hb⟩
    ·have HN := hide (show logG N ss = 0 by rw [HR.out, logG_end hlt])
     obtain rfl : k = ss.length := by omega
     rw [TE] at ho
     have hall := logG_all HN.out
     have HC := hide (fun (j : Int) (hj : (N : Int) - 1 < j) => cntL_none (ss := ss) (j := j) fun s hs => by have := (hall s hs).1; omega)
     have HLe := hide (fun j : Int => Nat.le_trans (cntL_le ss j) h2)
     have hg : ∀ i, i < N → wr.cell? ⟨w.heap.size, i, none⟩ = some (.int .i64 (cntL ss (i : Int) : Nat)) := fun i hi => by
      rw [ho.cellAt i (by omega)]
      exact cntR_get N ss i hi
     have HGet := hide hg
     clear hall hg ho
     go_wp2
     go_loopw [53] (fun i w2 => ∃ k : Nat, k ≤ N ∧ i = .int .i64 k ∧ wr = w2 ∧ Hid (∀ j : Nat, j < k → cntL ss (j : Int) ≤ 8)) (fun i _ => N - (intOf i).toNat)
     case atStart => exact ⟨0, Nat.zero_le _, rfl, rfl, hide fun j hj => by omega⟩
     case round =>
      obtain ⟨k, hk, rfl, rfl, HK⟩ := hrel
      by_cases hlt : k < N
      ·have hc := HGet.out k hlt
       have hL := HLe.out (k : Int)
       by_cases h8 : cntL ss (k : Int) ≤ 8
       ·have HK2 := hide (show ∀ j : Nat, j < k + 1 → cntL ss (j : Int) ≤ 8 from fun j hj => by
         by_cases hh : j = k
         ·subst hh; exact h8
         ·exact HK.out j (by omega))
        obtain ⟨q, hq⟩ : ∃ q, q = cntL ss (k : Int) := ⟨_, rfl⟩
        rw [← hq] at hc hL h8
        clear hq
        go_wp2
        go_roundw
        case rel => exact ⟨k + 1, by omega, by go_num, by first | rfl | trivial, HK2⟩
        case measure => simp [intOf]; omega
       ·have HE := hide (HH.out HN.out (fun hh => h8 (few_at hh (by omega) (by omega))))
        obtain ⟨q, hq⟩ : ∃ q, q = cntL ss (k : Int) := ⟨_, rfl⟩
        rw [← hq] at hc hL h8
        clear hq
        go_wp2
        go_ret
        exact ⟨ret_int HE.out.symm, hb⟩
      ·have HE := hide (HG.out HN.out (by
        have key : ∀ j : Nat, j < 4 → cntL ss (j : Int) ≤ 8 := fun j hj => by
         by_cases hjN : j < N
         ·exact HK.out j (by omega)
         ·rw [HC.out (j : Int) (by omega)]; omega
        exact ⟨key 0 (by omega), key 1 (by omega), key 2 (by omega), key 3 (by omega)⟩))
       go_wp2
       go_ret
       exact ⟨ret_int HE.out.symm, hb⟩
  ·rw [logF_long h1 h2]
   have h2' : 32 < ss.length := by omega
   clear h2
   go_enter Try.func37, Try.ntmps37
   go_wp2_with fail
   refine (l1In_yes _ _ _ _ h1).mono ?_
   rintro e w' ⟨rfl, rfl⟩
   go_wp2
   go_ret
   exact ⟨rfl, Below.refl _ _⟩
 ·rw [logF_cores h1]
  have h1' : n < 1 ∨ 4 < n := by omega
  clear h1
  go_enter Try.func37, Try.ntmps37
  go_wp2_with fail
  refine (l1In_no _ _ _ _ h1').mono ?_
  rintro e w' ⟨rfl, rfl⟩
  go_wp2
  go_ret
  exact ⟨rfl, Below.refl _ _⟩
end Go.Proofs.Ytnnfkmjhaljplaa
namespace Go.Proofs.Ytnnfkmjhaljplaa
open Go.RowKit
/-- Numbers in a row of the call's own, from block base on; all that was there in W is as it was. -/
structure OwnI (W : World) (base : Nat) (xs : List Int) (v : Value) (w : World) : Prop where
 row : w.ownsRow base 2 1 v xs.length (xs.map (Value.int .i64))
 old : Below W.heap.size W w
 lo : W.heap.size ≤ base
section
variable {W w w' : World} {base : Nat} {xs : List Int} {v v' : Value} {x : Int}
theorem OwnI.below (h : OwnI W base xs v w) (hb : Below w.heap.size w w') : OwnI W base xs v w' := ⟨own_below h.row hb (Nat.le_refl _), h.old.trans (hb.mono h.old.size), h.lo⟩
theorem OwnI.alloc (h : OwnI W base xs v w) (o : Obj) : OwnI W base xs v (w.alloc o) := h.below ((Below.refl _ _).alloc (Nat.le_refl _) _)
theorem OwnI.drew (h : OwnI W base xs v w) : OwnI W base xs v w.drew := h.below (Below.refl _ _).drew
theorem OwnI.more (h : OwnI W base xs v w) (ho : w'.ownsRow base 2 1 v' (xs.length + [x].length) (xs.map (Value.int .i64) ++ [x].map (Value.int .i64))) (hg : w.grownBy w' v.ownBlock) : OwnI W base (xs ++ [x]) v' w' :=
 ⟨by rw [List.length_append, List.map_append]; exact ho, h.old.trans (grown_below h.row hg h.old.size h.lo), h.lo⟩
theorem OwnI.shape (h : OwnI W base xs v w) : ∃ A c, v = .slice A xs.length c := own_shape h.row
end
theorem Rd.one_new (w : World) (x : Int) (T : TypeId) : Rd .i64 (w.alloc (.cells #[.int .i64 x] T)) (w.heap.size + 1) (some ⟨w.heap.size, 0, none⟩) [x] := fun _ =>
 ⟨w.heap.size, 0, rfl, Nat.lt_succ_self _, fun i hi => by
  rw [Nat.zero_add, (Bk.new w #[.int .i64 x] T).cell i]
  simp only [List.map_cons, List.map_nil, List.getElem?_toArray]
  exact List.getElem?_eq_getElem hi⟩
end Go.Proofs.Ytnnfkmjhaljplaa
namespace Go.Proofs.Ytnnfkmjhaljplaa
open Go.RowKit
theorem grown_row {w w1 w2 : World} {g : Nat} {row : Option Nat} (h : w.grownBy w1 (some g)) (hg : w1.grownBy w2 row) (hr : ∀ b, row = some b → w.heap.size ≤ b) : w.grownBy w2 (some g) :=
 ⟨hg.os.trans h.os, hg.tape.trans h.tape, hg.output.trans h.output, Nat.le_trans h.size hg.size, fun k hk hne => by
  have h1 := h.size
  refine (hg.block k (by omega) (fun e => ?_)).trans (h.block k hk hne)
  have := hr k e.symm
  omega⟩
def I64s (l : List Int) : Prop := ∀ p ∈ l, I64 p
theorem I64s.snoc {l : List Int} {x : Int} (h : I64s l) (hx : I64 x) : I64s (l ++ [x]) := fun p hp => by
 rcases List.mem_append.1 hp with a | a
 ·exact h p a
 ·simp at a; rw [a]; exact hx
/-- What is drawn: picks in a row of the call's own. -/
def PksPost (w : World) (g : Nat) (A : Option Addr) (c : Nat) (l : List Int) (k : Nat) (e : Ending) (w' : World) : Prop :=
 ∃ (ps : List Int) (D : Option Addr) (d : Nat), e = .returned (.slice D ps.length d) ∧ ps.length ≤ 101 ∧ I64s ps ∧ w'.ownsRow w.heap.size 2 1 (.slice D ps.length d) ps.length (ps.map (Value.int .i64)) ∧ Went w g A c l k 50 w'
set_option maxRecDepth 100000 in
set_option maxHeartbeats 1600000 in
theorem l6Picks_any (g k : Nat) (A : Option Addr) (c : Nat) (l : List Int) (w : World) (hS : Src w g A c l k) (hk : k ≤ 1000) :
  Calls Try.prog 76 #[.pointer (some ⟨g, 0, none⟩)] w (PksPost w g A c l k) := by
 unfold PksPost
 obtain ⟨i0, hi, hz0, hz1, hz2⟩ := info_parts info_i64
 have hgl := hS.lt
 have row0 : (w.alloc (Obj.cells #[] 2)).ownsRow w.heap.size 2 1 (.slice (some ⟨w.heap.size, 0, none⟩) 0 0) 0 [] := World.ownsRow_lit w #[] 0 (Nat.le_refl _) (by simp) rfl
 have S0 := hS.alloc (Obj.cells #[] 2)
 have G0 : w.grownBy (w.alloc (Obj.cells #[] 2)) (some g) := World.grownBy_alloc _ _ _
 go_enter Try.func76, Try.ntmps76
 obtain ⟨W, hW⟩ : ∃ W, W = w.alloc (Obj.cells #[] 2) := ⟨_, rfl⟩
 have zW : W.heap.size = w.heap.size + 1 := by rw [hW]; simp
 rw [← hW] at row0 S0 G0
 have HW := hide hW
 have HZ := hide zW
 clear hW zW
 go_wp2_with fail
 rw [← HW.out, ← HZ.out]
 have zW := HZ.out
 refine (l1Pick_any g k _ [0, 5, 20, 40] A c l _ _ (S0.alloc _) (by omega) (by simp) (by simp) (Bk.new _ _ _) (by simp; omega)).mono ?_
 rintro e w1 ⟨n, rfl, hn, S1, g1⟩
 have G1 := G0.trans (grown_alloc g1)
 have row1 := (row0.alloc (Obj.cells #[.int .i64 0, .int .i64 5, .int .i64 20, .int .i64 40] 2)).kept g1 (own_sep fun b hb e => by simp only [Value.ownBlock, Option.some.injEq] at hb; simp at e; omega)
 obtain ⟨N, rfl⟩ : ∃ N : Nat, n = (N : Int) := Int.eq_ofNat_of_zero_le (by simp at hn; omega)
 have hN : N ≤ 40 := by simp at hn; omega
 clear hn g1 row0 S0 G0
 go_wp2
 go_loopw [3, 4] (fun v i wr => ∃ (m k' : Nat) (xs : List Int), i = .int .i64 m ∧ xs.length + m ≤ 40 ∧ k' + m ≤ k + 41 ∧ wr.ownsRow w.heap.size 2 1 v xs.length (xs.map (Value.int .i64)) ∧ Hid (I64s xs) ∧ Src wr g A c l k' ∧ w.grownBy wr (some g)) (fun _ i _ => (intOf i).toNat)
 case atStart => exact ⟨N, k + 1, [], rfl, by simpa using hN, by omega, by simpa using row1, hide (fun p hp => by simp at hp), S1, G1⟩
 case round =>
  obtain ⟨m, k', xs, rfl, hxm, hkm, ho, HI, hS2, hG2⟩ := hrel
  clear row1 S1 G1
  obtain ⟨D, d, rfl⟩ := own_shape ho
  have zG := hG2.size
  by_cases h0 : 0 < m
  ·go_wp2_with fail
   refine (l1Pick_any g k' _ [0, 1, 2, 3, 0, 1, 4, -1] A c l _ _ (hS2.alloc _) (by omega) (by simp) (by simp) (Bk.new _ _ _) (by have := hS2.lt; simp; omega)).mono ?_
   rintro e w3 ⟨x, rfl, hx, S3, g3⟩
   have G3 := hG2.trans (grown_alloc g3)
   have row3 := (ho.alloc (Obj.cells #[.int .i64 0, .int .i64 1, .int .i64 2, .int .i64 3, .int .i64 0, .int .i64 1, .int .i64 4, .int .i64 (-1)] 2)).kept g3 (own_sep fun b hb e => by have := ho.lt b hb; simp at e; omega)
   have HI3 := hide (HI.out.snoc (x := x) (by unfold I64; simp at hx; omega))
   have ho4 := row3.alloc (Obj.cells #[.int .i64 x] 2)
   have hBl := Rd.one_new w3 x 2
   have S4 := S3.alloc (Obj.cells #[.int .i64 x] 2)
   have G4 : w.grownBy (w3.alloc (Obj.cells #[.int .i64 x] 2)) (some g) := G3.trans (World.grownBy_alloc _ _ _)
   have zG3 := G3.size
   clear hx g3 row3 ho S3 G3 hS2 hG2
   go_wp2_with (at_builtin; refine wpList_append_rd _ rfl (.tmp 13) (.tmp 17) 41 rfl w.heap.size 2 i0 (.int .i64 0) 8 Try.underlying41 hi hz0 hz1 hz2 rfl .i64 _ _ _ rfl ho4 (some ⟨w3.heap.size, 0, none⟩) [x] 1 _ rfl hBl (by unfold maxLen; simp only [List.length_cons, List.length_nil]; omega) (by simp only [List.length_cons, List.length_nil]; omega) (by simp; omega) ?_; intro v5 w5 o5 g5 hat5; have S5 : Src w5 g A c l (k' + 1) := S4.below (B := g + 1) (grown_below ho4 g5 (by simp; omega) (by omega)) (Nat.lt_succ_self _); have G5 := grown_row G4 g5 (fun b hb => (ho4.lt b hb).1); have o6 : w5.ownsRow w.heap.size 2 1 v5 (xs ++ [x]).length ((xs ++ [x]).map (Value.int .i64)) := (by rw [List.length_append, List.map_append]; exact o5); clear o5 g5 hat5 ho4 hBl S4 G4)
   go_roundw
   case rel => exact ⟨m - 1, k' + 1, xs ++ [x], by go_num, by rw [List.length_append, List.length_singleton]; omega, by omega, o6, HI3, S5, G5⟩
   case measure => simp [intOf]; omega
  ·obtain rfl : m = 0 := by omega
   clear h0
   go_wp2_with fail
   refine (l1Chance_any g k' 30 A c l _ hS2 (by omega) (by omega) (by omega)).mono ?_
   rintro e w3 ⟨b, rfl, S3, g3⟩
   have G3 := hG2.trans g3
   have row3 := ho.kept g3 (own_sep fun b hb e => by have := ho.lt b hb; simp at e; omega)
   have zG3 := G3.size
   clear g3 ho hS2 hG2
   by_cases hb : b = true
   ·subst hb
    go_wp2_with fail
    refine (l1Pick_any g (k' + 1) _ [100, 101] A c l _ _ (S3.alloc _) (by omega) (by simp) (by simp) (Bk.new _ _ _) (by have := S3.lt; simp; omega)).mono ?_
    rintro e w4 ⟨x, rfl, hx, S4, g4⟩
    have G4 := G3.trans (grown_alloc g4)
    have zG4 := G4.size
    obtain ⟨q, rfl⟩ : ∃ q : Nat, x = (q : Int) := Int.eq_ofNat_of_zero_le (by simp at hx; omega)
    have hq : q ≤ 101 := by simp at hx; omega
    clear hx g4 row3 S3 G3
    have MD : (madeCells (Value.int .i64 0).cells (q * 1)).toList = (List.replicate q (0 : Int)).map (Value.int .i64) := by rw [made_i64, List.map_replicate]
    go_wp2_with (at_make; refine wpList_make_full _ rfl _ _ 41 rfl w.heap.size 2 i0 (.int .i64 0) 1 Try.underlying41 hi hz0 hz1 .i64 .i64 _ _ q rfl rfl rfl rfl (by rw [hz2]; omega) (by unfold maxLen; omega) (by omega) ?_; intro w5 hown hg)
    go_ret
    rw [MD] at hown
    refine ⟨List.replicate q 0, some ⟨w4.heap.size, 0, none⟩, q, by rw [List.length_replicate]; rfl, by rw [List.length_replicate]; exact hq, fun p hp => by rw [List.eq_of_mem_replicate hp]; unfold I64; omega, by rw [List.length_replicate]; exact hown, k' + 1 + 1, by omega, S4.below (B := g + 1) ((Below.refl _ _).grown hg (by have := S4.lt; omega) (fun k e => by cases e)) (Nat.lt_succ_self _), grown_row G4 hg (fun b hb => by cases hb)⟩
   ·obtain rfl : b = false := by simpa using hb
    go_wp2
    go_ret
    exact ⟨xs, D, d, rfl, by omega, HI.out, row3, k' + 1, by omega, S3, G3⟩
end Go.Proofs.Ytnnfkmjhaljplaa
namespace Go.Proofs.Ytnnfkmjhaljplaa
open Go.RowKit
theorem evs_one : ∀ (l : List Ev), ∀ u ∈ evs l, u.oneCell' = true
 | [], u, h => by simp [evs] at h
 | x :: r, u, h => by
  simp only [evs, List.mem_cons] at h
  rcases h with rfl | rfl | rfl | h
  ·rfl
  ·rfl
  ·rfl
  ·exact evs_one r u h
theorem cells_of_re {w : World} {B : Nat} {ad : Addr} {l : List Ev} (h : RdE w B (some ad) l) : ∀ j u, (evs l)[j]? = some u → w.cell? (ad.add j) = some u := by
 intro j u hj
 have hjl : j < (evs l).length := by
  rcases Nat.lt_or_ge j (evs l).length with a | a
  ·exact a
  ·rw [List.getElem?_eq_none a] at hj; exact absurd hj (by simp)
 obtain ⟨b, off, e, _, hc⟩ := h (by omega)
 cases e
 rw [Go.WideShapes.add_plain, hc j hjl]
 rw [List.getElem?_eq_getElem hjl] at hj
 exact hj
section
variable {P : Program} (w : World)
theorem run_append_re (base : Nat) (t ty e : TypeId) (i : TypeInfo) (z : Value) (bytes : Nat) (ht : P.underlying t = some (.slice e)) (hi : P.info? e = some i) (hz : i.zero = some z)
  (hsize : i.size = 3) (hby : i.bytes = bytes) (hzs : z.cells.size = 3)
  (v : Value) (n : Nat) (xs : List Value) (hown : w.ownsRow base e 3 v n xs) (A : Option Addr) (l : List Ev) (c B : Nat) (hR : RdE w B A l)
  (h63 : n + l.length ≤ maxLen) (hbytes : (n + l.length) * bytes ≤ 140737488355328) (hbase : base ≤ w.heap.size) :
  ∃ v' w', (Builtin.append_ #[t, t] ty #[v, .slice A l.length c]).run P w = .ok v' w' ∧ w'.ownsRow base e 3 v' (n + l.length) (xs ++ evs l) ∧ w.grownBy w' v.ownBlock ∧ (v'.ownBlock = v.ownBlock ∨ v'.ownBlock = some w.heap.size) := by
 rcases A with _ | ad
 ·have hl : l = [] := by
   rcases l with _ | ⟨x, l⟩
   ·rfl
   ·obtain ⟨b, off, e, _⟩ := hR.get (i := 0) (by simp)
    cases e
  subst hl
  refine ⟨v, w, ?_, by simpa [evs] using hown, World.grownBy.refl w _, .inl rfl⟩
  rcases hown.2 with ⟨rfl, rfl⟩ | ⟨g, cap, cur, rfl, _, _, hnc, _⟩
  ·simp [Builtin.append_, run_underlying ht, sizeOf, typeInfo, hi, Builtin.lenOf, Builtin.firstCells]
  ·simp [Builtin.append_, run_underlying ht, sizeOf, typeInfo, hi, Builtin.lenOf, Builtin.firstCells, hnc, storeCells]
 ·obtain ⟨v', w', hr, h2, h3, _, h5⟩ := run_append_own_at (P := P) w base t ty e i z 3 bytes ht hi hz hsize hby hzs (by omega) v n xs hown ad l.length c (evs l) (evs_length l) (cells_of_re hR) (evs_one l) h63 hbytes hbase
  exact ⟨v', w', hr, h2, h3, h5⟩
theorem wp_append_re {o : Oper} {a : Act} {K : Act → World → Prop} {Q : Exit → Act → World → Prop} (s x : Operand) (t : TypeId)
  (ho : o.op = .call { callee := .builtin .append, args := #[s, x], argTypes := #[t, t] })
  (base : Nat) (e : TypeId) (i : TypeInfo) (z : Value) (bytes : Nat) (ht : P.underlying t = some (.slice e)) (hi : P.info? e = some i) (hz : i.zero = some z)
  (hsize : i.size = 3) (hby : i.bytes = bytes) (hzs : z.cells.size = 3)
  (v : Value) (n : Nat) (xs : List Value) (hs : a.eval s = v) (hown : w.ownsRow base e 3 v n xs) (A : Option Addr) (l : List Ev) (c B : Nat) (hx : a.eval x = .slice A l.length c) (hR : RdE w B A l)
  (h63 : n + l.length ≤ maxLen) (hbytes : (n + l.length) * bytes ≤ 140737488355328) (hbase : base ≤ w.heap.size)
  (h : ∀ v' w', w'.ownsRow base e 3 v' (n + l.length) (xs ++ evs l) → w.grownBy w' v.ownBlock → (v'.ownBlock = v.ownBlock ∨ v'.ownBlock = some w.heap.size) → K (a.put o.dst v') w') : o.wp P a w K Q := by
 obtain ⟨v', w', hr, h2, h3, h5⟩ := run_append_re (P := P) w base t o.type e i z bytes ht hi hz hsize hby hzs v n xs hown A l c B hR h63 hbytes hbase
 unfold Oper.wp execOp
 simp only [ho, resolve, invoke, builtin, Sem.run_bind, Sem.run_pure, Result.andThen_ok, List.map_toArray, List.map_cons, List.map_nil, hs, hx, hr]
 exact h v' w' h2 h3 h5
/-- The same at a guarded operation of a region that draws its order. -/
theorem step_append_re {ops : Array Oper} {o : Oper} {a : Act} {K : Act → World → Prop} {Q : Exit → Act → World → Prop} {E : Prop} (hw : Region.wanted o (yielded ops a.tmps) = true) (s x : Operand) (t : TypeId)
  (ho : o.op = .call { callee := .builtin .append, args := #[s, x], argTypes := #[t, t] })
  (base : Nat) (e : TypeId) (i : TypeInfo) (z : Value) (bytes : Nat) (ht : P.underlying t = some (.slice e)) (hi : P.info? e = some i) (hz : i.zero = some z)
  (hsize : i.size = 3) (hby : i.bytes = bytes) (hzs : z.cells.size = 3)
  (v : Value) (n : Nat) (xs : List Value) (hs : a.eval s = v) (hown : w.ownsRow base e 3 v n xs) (A : Option Addr) (l : List Ev) (c B : Nat) (hx : a.eval x = .slice A l.length c) (hR : RdE w B A l)
  (h63 : n + l.length ≤ maxLen) (hbytes : (n + l.length) * bytes ≤ 140737488355328) (hbase : base ≤ w.heap.size)
  (h : ∀ v' w', w'.ownsRow base e 3 v' (n + l.length) (xs ++ evs l) → w.grownBy w' v.ownBlock → (v'.ownBlock = v.ownBlock ∨ v'.ownBlock = some w.heap.size) → K (a.put o.dst v') w') :
  if Region.wanted o (yielded ops a.tmps) = true then Oper.wp P o a w K Q else E := by
 rw [if_pos hw]
 exact wp_append_re w s x t ho base e i z bytes ht hi hz hsize hby hzs v n xs hs hown A l c B hx hR h63 hbytes hbase h
end
end Go.Proofs.Ytnnfkmjhaljplaa
