/- Contracts of the exact laws' own helpers on slices of steps: measured, copied, compared. Contracts of the laws' helpers on slices of numbers: copied, compared, marked, held. Contracts of LogFault, in the program and in its model. The contract of the program's LogFault. The contract of the model's LogFault. Contracts of PicksOf, in the program and in its model. -/
import Derived.Test.YtldepledinolmaaGreatDoorGEv
import Derived.Test.YtldepledinolmaaGreatDoorGMsi
import Derived.StillTailTactics
import Derived.Test.YtldepledinolmaaGreatDoorGApp
import Derived.Test.YtldepledinolmaaGreatDoorGHeld
import Derived.OneCell
namespace Go.Proofs.YtldepledinolmaaGreatDoor
open Go.RowKit

/-- A step as a value: four flat cells. -/
abbrev stV (s : Stp) : Value := .agg #[.int .i64 s.c, .int .i64 s.e.k, .int .i64 s.e.a, .int .i64 s.e.v]
def zeroP : Stp := ⟨0, zeroE⟩
theorem stps_zero : ∀ n : Nat, stps (List.replicate n zeroP) = List.replicate (n * 4) (.int .i64 0)
  | 0 => rfl
  | n + 1 => by
    rw [List.replicate_succ, stps, stps_zero n, show (n + 1) * 4 = n * 4 + 1 + 1 + 1 + 1 by omega, List.replicate_succ, List.replicate_succ, List.replicate_succ, List.replicate_succ]
    rfl
theorem made_step (n : Nat) : (madeCells (Value.agg #[.int .i64 0, .int .i64 0, .int .i64 0, .int .i64 0]).cells (n * 4)).toList = List.replicate (n * 4) (Value.int .i64 0) := by
  apply List.ext_getElem
  · simp [madeCells]
  · intro i h1 h2
    simp only [madeCells, Value.cells, Array.getElem_toList, List.getElem_replicate]
    rcases (show i % 4 = 0 ∨ i % 4 = 1 ∨ i % 4 = 2 ∨ i % 4 = 3 by omega) with h | h | h | h <;> simp [h]
/-- After k rounds of a copy: the first k are there, the rest as it was made. -/
def halfP (ss : List Stp) (k : Nat) : List Value := stps (ss.take k ++ List.replicate (ss.length - k) zeroP)
theorem halfP_zero (ss : List Stp) : halfP ss 0 = List.replicate (ss.length * 4) (Value.int .i64 0) := by simp [halfP, stps_zero]
theorem halfP_all (ss : List Stp) : halfP ss ss.length = stps ss := by simp [halfP]
theorem halfP_length (ss : List Stp) (k : Nat) (hk : k ≤ ss.length) : (halfP ss k).length = ss.length * 4 := by
  unfold halfP
  rw [stps_length, List.length_append, List.length_take, List.length_replicate]
  congr 1
  omega
theorem set4 {α : Type} (p s : List α) (a b c d x y z u : α) (n : Nat) (h : p.length = n) : ((((p ++ a :: b :: c :: d :: s).set n x).set (n + 1) y).set (n + 2) z).set (n + 3) u = p ++ x :: y :: z :: u :: s := by
  subst h
  simp
theorem halfP_set (ss : List Stp) (k : Nat) (hk : k < ss.length) : ((((halfP ss k).set (k * 4) (.int .i64 ss[k].c)).set (k * 4 + 1) (.int .i64 ss[k].e.k)).set (k * 4 + 2) (.int .i64 ss[k].e.a)).set (k * 4 + 3) (.int .i64 ss[k].e.v) = halfP ss (k + 1) := by
  unfold halfP
  rw [show ss.length - k = (ss.length - (k + 1)) + 1 by omega, List.replicate_succ, List.take_succ_eq_append_getElem hk, stps_append, stps_append, stps_append]
  simp only [stps]
  rw [set4 _ _ _ _ _ _ _ _ _ _ _ (by rw [stps_length, List.length_take]; omega)]
  simp

end Go.Proofs.YtldepledinolmaaGreatDoor
namespace Go.Proofs.YtldepledinolmaaGreatDoor
open Go.RowKit

theorem info_i64 : (Tryz.prog.info? 2).map (fun i => (i.zero, i.size, i.bytes)) = some (some (.int .i64 0), 1, 8) := by kernel_rfl

/-- After k rounds of a copy: the first k are there, the rest as it was made. -/
def halfI (l : List Int) (k : Nat) : List Value := (l.take k).map (Value.int .i64) ++ List.replicate (l.length - k) (Value.int .i64 0)
theorem halfI_zero (l : List Int) : halfI l 0 = List.replicate l.length (Value.int .i64 0) := by simp [halfI]
theorem halfI_all (l : List Int) : halfI l l.length = l.map (Value.int .i64) := by simp [halfI]
theorem halfI_set (l : List Int) (k : Nat) (hk : k < l.length) : (halfI l k).set k (.int .i64 l[k]) = halfI l (k + 1) := by
  unfold halfI
  rw [show l.length - k = (l.length - (k + 1)) + 1 by omega, List.replicate_succ, List.take_succ_eq_append_getElem hk, List.map_append]
  have e : k = ((l.take k).map (Value.int IntKind.i64)).length := by simp; omega
  conv => lhs; arg 2; rw [e]
  rw [set_append]
  simp
theorem made_i64 (n : Nat) : (madeCells (Value.int .i64 0).cells (n * 1)).toList = List.replicate n (Value.int .i64 0) := by
  apply List.ext_getElem
  · simp [madeCells]
  · intro i h1 h2
    simp [madeCells, Value.cells, Nat.mod_one]

/-- The marks that are laid from k on. -/
def mkI (k n : Nat) : List Int := (List.range n).map fun i => ((k + i : Nat) : Int)
theorem mkI_length (k n : Nat) : (mkI k n).length = n := by simp [mkI]
theorem mkI_get (k n i : Nat) (h : i < (mkI k n).length) : (mkI k n)[i] = ((k + i : Nat) : Int) := by simp [mkI]
/-- After j rounds of marking. -/
def markedI (xs : List Value) (k j : Nat) : List Value := (mkI k j).map (Value.int .i64) ++ xs.drop j
theorem markedI_zero (xs : List Value) (k : Nat) : markedI xs k 0 = xs := by simp [markedI, mkI]
theorem markedI_all (xs : List Value) (k : Nat) : markedI xs k xs.length = (mkI k xs.length).map (Value.int .i64) := by simp [markedI]
theorem markedI_length (xs : List Value) (k j : Nat) (h : j ≤ xs.length) : (markedI xs k j).length = xs.length := by simp [markedI, mkI]; omega
theorem markedI_set (xs : List Value) (k j : Nat) (h : j < xs.length) : (markedI xs k j).set j (.int .i64 ((k + j : Nat) : Int)) = markedI xs k (j + 1) := by
  unfold markedI
  rw [List.drop_eq_getElem_cons h]
  have e : j = ((mkI k j).map (Value.int IntKind.i64)).length := by simp [mkI]
  conv => lhs; arg 2; rw [e]
  rw [set_append]
  simp [mkI, List.range_succ]

set_option maxHeartbeats 400000 in
theorem lwNums_same (l : List Int) (A A' : Option Addr) (c c' : Nat) (w : World) (hm : l.length ≤ maxLen) (h : Rd .i64 w w.heap.size A l) (h' : Rd .i64 w w.heap.size A' l) :
    Calls Tryz.prog 13 #[.slice A l.length c, .slice A' l.length c'] w fun e w' => e = .returned (.bool true) ∧ Below w.heap.size w w' := by
  unfold maxLen at hm
  go_enter Tryz.func13, Tryz.ntmps13
  go_wp2
  go_loopw [5] (fun i wr => ∃ k : Nat, k ≤ l.length ∧ i = .int .i64 k ∧ Below w.heap.size w wr) (fun i _ => l.length - (intOf i).toNat)
  case atStart => exact ⟨0, Nat.zero_le _, rfl, Below.refl _ _⟩
  case round =>
    obtain ⟨k, hk, rfl, hb⟩ := hrel
    by_cases hlt : k < l.length
    · obtain ⟨b, off, rfl, hbb, hc⟩ := (h.below hb).get hlt
      obtain ⟨b', off', rfl, hbb', hc'⟩ := (h'.below hb).get hlt
      go_wp2
      go_quiet (fail)
      go_wp2
      go_roundw
      case rel => exact ⟨k + 1, by omega, by go_num, below_drewN hb _⟩
      case measure => simp [intOf]; omega
    · go_wp2
      go_ret
      exact ⟨rfl, hb⟩

end Go.Proofs.YtldepledinolmaaGreatDoor
namespace Go.Proofs.YtldepledinolmaaGreatDoor
open Go.RowKit

/-- Numbers within their bounds, as the program asks it. -/
theorem allWithin_all (l : List Int) (A : Option Addr) (c : Nat) (lo hi : Int) (w : World) (hm : l.length ≤ 1000) (h : Rd .i64 w w.heap.size A l) (hin : ∀ n ∈ l, lo ≤ n ∧ n ≤ hi) :
    Calls Tryz.prog 34 #[.int .i64 lo, .int .i64 hi, .slice A l.length c] w fun e w' => e = .returned (.bool true) ∧ w = w' := by
  go_enter Tryz.func34, Tryz.ntmps34
  go_wp2
  go_loop [11] (fun i => ∃ j : Nat, j ≤ l.length ∧ i = .int .i64 j) (fun i => l.length - (intOf i).toNat)
  case atStart => exact ⟨0, by omega, rfl⟩
  case round =>
    obtain ⟨j, hj, rfl⟩ := hrel
    by_cases h0 : j < l.length
    · obtain ⟨b, off, rfl, hb, hc⟩ := h.get h0
      obtain ⟨h1, h2⟩ := hin _ (List.getElem_mem h0)
      go_wp2
      go_round
      case rel => exact ⟨j + 1, by omega, by go_num⟩
      case measure => simp [intOf]; omega
    · go_wp2
      go_ret
      exact ⟨rfl, rfl⟩
theorem allWithin_some (l : List Int) (A : Option Addr) (c : Nat) (lo hi : Int) (w : World) (hm : l.length ≤ 1000) (h : Rd .i64 w w.heap.size A l) (hin : ¬ ∀ n ∈ l, lo ≤ n ∧ n ≤ hi) :
    Calls Tryz.prog 34 #[.int .i64 lo, .int .i64 hi, .slice A l.length c] w fun e w' => e = .returned (.bool false) ∧ w = w' := by
  have HN := hide hin
  clear hin
  go_enter Tryz.func34, Tryz.ntmps34
  go_wp2
  go_loop [11] (fun i => ∃ j : Nat, j ≤ l.length ∧ i = .int .i64 j ∧ Hid (∀ k, (hk : k < l.length) → k < j → lo ≤ l[k] ∧ l[k] ≤ hi)) (fun i => l.length - (intOf i).toNat)
  case atStart => exact ⟨0, by omega, rfl, hide fun k _ h => by omega⟩
  case round =>
    obtain ⟨j, hj, rfl, HJ⟩ := hrel
    by_cases h0 : j < l.length
    · obtain ⟨b, off, rfl, hb, hc⟩ := h.get h0
      by_cases h1 : lo ≤ l[j]
      · by_cases h2 : l[j] ≤ hi
        · have HJ2 := hide (show ∀ k, (hk : k < l.length) → k < j + 1 → lo ≤ l[k] ∧ l[k] ≤ hi from fun k hk hkj => by
            by_cases hh : k = j
            · subst hh; exact ⟨h1, h2⟩
            · exact HJ.out k hk (by omega))
          go_wp2
          go_round
          case rel => exact ⟨j + 1, by omega, by go_num, HJ2⟩
          case measure => simp [intOf]; omega
        · go_wp2
          go_ret
          exact ⟨rfl, rfl⟩
      · go_wp2
        go_ret
        exact ⟨rfl, rfl⟩
    · exfalso
      refine HN.out fun n hn => ?_
      obtain ⟨k, hk, rfl⟩ := List.getElem_of_mem hn
      exact HJ.out k hk (by omega)

/-- The counts of the cores, as the program keeps them. -/
def cntA (ss : List Stp) : Array Value := #[.int .i64 (cntL ss 0), .int .i64 (cntL ss 1), .int .i64 (cntL ss 2), .int .i64 (cntL ss 3)]
theorem cntA_get (ss : List Stp) (i : Nat) (h : i < 4) : (cntA ss)[i]? = some (.int .i64 (cntL ss i)) := by
  rcases (show i = 0 ∨ i = 1 ∨ i = 2 ∨ i = 3 by omega) with rfl | rfl | rfl | rfl <;> rfl
theorem cntA_set (ss : List Stp) (s : Stp) (i : Nat) (hi : s.c = (i : Int)) (h : i < 4) : (cntA ss).setIfInBounds i (.int .i64 ((cntL ss i : Nat) + 1 : Int)) = cntA (ss ++ [s]) := by
  have hit : ∀ j : Int, s.c = j → (((cntL (ss ++ [s]) j : Nat) : Int)) = (cntL ss j : Nat) + 1 := fun j hj => by rw [cntL_hit ss s j hj]; rfl
  rcases (show i = 0 ∨ i = 1 ∨ i = 2 ∨ i = 3 by omega) with rfl | rfl | rfl | rfl
  · unfold cntA; rw [hit 0 hi, cntL_miss ss s 1 (by omega), cntL_miss ss s 2 (by omega), cntL_miss ss s 3 (by omega)]; simp
  · unfold cntA; rw [hit 1 hi, cntL_miss ss s 0 (by omega), cntL_miss ss s 2 (by omega), cntL_miss ss s 3 (by omega)]; simp
  · unfold cntA; rw [hit 2 hi, cntL_miss ss s 0 (by omega), cntL_miss ss s 1 (by omega), cntL_miss ss s 3 (by omega)]; simp
  · unfold cntA; rw [hit 3 hi, cntL_miss ss s 0 (by omega), cntL_miss ss s 1 (by omega), cntL_miss ss s 2 (by omega)]; simp
def cntI (ss : List Stp) : List Int := [(cntL ss 0 : Nat), (cntL ss 1 : Nat), (cntL ss 2 : Nat), (cntL ss 3 : Nat)]
theorem cntI_few (ss : List Stp) : (∀ n ∈ cntI ss, (0 : Int) ≤ n ∧ n ≤ 8) ↔ fewL ss := by
  simp only [cntI, List.mem_cons, List.not_mem_nil, or_false, forall_eq_or_imp, forall_eq, fewL]
  omega
theorem cntI_rd {w : World} {g : Nat} {ss : List Stp} {t : TypeId} (h : Bk w g (cntA ss) t) : Rd .i64 w w.heap.size (some ⟨g, 0, none⟩) (cntI ss) := by
  intro _
  refine ⟨g, 0, rfl, h.lt, fun i hi => ?_⟩
  have hi4 : i < 4 := by simpa [cntI] using hi
  rw [Nat.zero_add, h.cell i, cntA_get ss i hi4]
  rcases (show i = 0 ∨ i = 1 ∨ i = 2 ∨ i = 3 by omega) with rfl | rfl | rfl | rfl <;> rfl
end Go.Proofs.YtldepledinolmaaGreatDoor
namespace Go.Proofs.YtldepledinolmaaGreatDoor
open Go.RowKit

end Go.Proofs.YtldepledinolmaaGreatDoor
namespace Go.Proofs.YtldepledinolmaaGreatDoor
open Go.RowKit

/-- The counts of the cores, as the model keeps them. -/
def cntR (N : Nat) (ss : List Stp) : List Value := (List.range N).map fun j : Nat => Value.int .i64 (cntL ss (j : Int) : Nat)
theorem cntR_length (N : Nat) (ss : List Stp) : (cntR N ss).length = N := by simp [cntR]
theorem cntR_get (N : Nat) (ss : List Stp) (i : Nat) (h : i < N) : (cntR N ss)[i]? = some (.int .i64 (cntL ss (i : Int) : Nat)) := by simp [cntR, h]
theorem cntR_nil (N : Nat) : cntR N [] = List.replicate N (Value.int .i64 0) := by
  apply List.ext_getElem
  · simp [cntR]
  · intro i h1 h2
    simp [cntR, cntL]
theorem cntR_set (N : Nat) (ss : List Stp) (s : Stp) (i : Nat) (hi : s.c = (i : Int)) : (cntR N ss).set i (.int .i64 ((cntL ss (i : Int) : Nat) + 1 : Int)) = cntR N (ss ++ [s]) := by
  apply List.ext_getElem
  · simp [cntR]
  · intro j h1 h2
    by_cases hij : i = j
    · subst hij
      rw [List.getElem_set_self]
      simp [cntR, cntL_hit ss s i hi]
    · rw [List.getElem_set_ne hij]
      simp [cntR, cntL_miss ss s j (by omega)]

end Go.Proofs.YtldepledinolmaaGreatDoor
namespace Go.Proofs.YtldepledinolmaaGreatDoor
open Go.RowKit

/-- Numbers in a row of the call's own, from block base on; all that was there in W is as it was. -/
structure OwnI (W : World) (base : Nat) (xs : List Int) (v : Value) (w : World) : Prop where
  row : w.ownsRow base 2 1 v xs.length (xs.map (Value.int .i64))
  old : Below W.heap.size W w
  lo : W.heap.size ≤ base
section
variable {W w w' : World} {base : Nat} {xs : List Int} {v v' : Value} {x : Int}
theorem OwnI.below (h : OwnI W base xs v w) (hb : Below w.heap.size w w') : OwnI W base xs v w' := ⟨own_below h.row hb (Nat.le_refl _), h.old.trans (hb.mono h.old.size), h.lo⟩
theorem OwnI.alloc (h : OwnI W base xs v w) (o : Obj) : OwnI W base xs v (w.alloc o) := h.below ((Below.refl _ _).alloc (Nat.le_refl _) _)
theorem OwnI.drew (h : OwnI W base xs v w) : OwnI W base xs v w.drew := h.below (Below.refl _ _).drew
theorem OwnI.more (h : OwnI W base xs v w) (ho : w'.ownsRow base 2 1 v' (xs.length + [x].length) (xs.map (Value.int .i64) ++ [x].map (Value.int .i64))) (hg : w.grownBy w' v.ownBlock) : OwnI W base (xs ++ [x]) v' w' :=
  ⟨by rw [List.length_append, List.map_append]; exact ho, h.old.trans (grown_below h.row hg h.old.size h.lo), h.lo⟩
theorem OwnI.shape (h : OwnI W base xs v w) : ∃ A c, v = .slice A xs.length c := own_shape h.row
end
theorem Rd.one_new (w : World) (x : Int) (T : TypeId) : Rd .i64 (w.alloc (.cells #[.int .i64 x] T)) (w.heap.size + 1) (some ⟨w.heap.size, 0, none⟩) [x] := fun _ =>
  ⟨w.heap.size, 0, rfl, Nat.lt_succ_self _, fun i hi => by
    rw [Nat.zero_add, (Bk.new w #[.int .i64 x] T).cell i]
    simp only [List.map_cons, List.map_nil, List.getElem?_toArray]
    exact List.getElem?_eq_getElem hi⟩

/-- What PicksOf tells. -/
def PkPost (ss : List Stp) (n : Int) (w : World) (e : Ending) (w' : World) : Prop :=
  ∃ A c, e = .returned (.agg #[.int .i64 (logF ss n), .slice A (pkL ss n).length c]) ∧ w'.ownsRow w.heap.size 2 1 (.slice A (pkL ss n).length c) (pkL ss n).length ((pkL ss n).map (Value.int .i64)) ∧ Below w.heap.size w w'
end Go.Proofs.YtldepledinolmaaGreatDoor
