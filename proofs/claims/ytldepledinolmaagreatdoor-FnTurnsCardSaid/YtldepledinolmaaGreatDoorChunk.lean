/- The contract of the library's Chunk over a slice of events: the pieces come in their order. -/
import Derived.RangeFuncNested
import Derived.RangeFuncBound
import Derived.RangeFuncCalls
import Derived.RangeFuncLeaves
import Derived.Shelf.Abstract
import Derived.Shelf.RegionOpen
import Derived.WalkKit
import Derived.OwnWalkIn
import Derived.TacticsInMore
import Derived.LoopNIn
import Derived.LoopIn
import Derived.Test.YtldepledinolmaaGreatDoorFilS
namespace Go.Proofs.YtldepledinolmaaGreatDoor
open Go.RowKit Go.Shelf
attribute [local go_sem] Oper.semAt_some

/-- The places at which the pieces of b begin, from place i on. -/
def plc (b n : Nat) : Nat → Nat → List { i : Nat // i < n }
  | 0, _ => []
  | f + 1, i => if h : i < n then ⟨i, h⟩ :: plc b n f (i + b) else []
theorem plc_end (b n f i : Nat) (h : ¬ i < n) : plc b n f i = [] := by cases f <;> simp [plc, h]
theorem plc_fuel {b n : Nat} (hb : 1 ≤ b) : ∀ (f g i : Nat), n - i ≤ f → n - i ≤ g → plc b n f i = plc b n g i
  | 0, g, i, h, _ => by rw [plc_end b n 0 i (by omega), plc_end b n g i (by omega)]
  | f + 1, 0, i, _, h => by rw [plc_end b n _ i (by omega), plc_end b n 0 i (by omega)]
  | f + 1, g + 1, i, h, h' => by
    unfold plc
    by_cases hi : i < n
    · rw [dif_pos hi, dif_pos hi, plc_fuel hb f g (i + b) (by omega) (by omega)]
    · rw [dif_neg hi, dif_neg hi]
def plcs (b n i : Nat) : List { i : Nat // i < n } := plc b n (n - i) i
theorem plcs_at {b n i : Nat} (hb : 1 ≤ b) (h : i < n) : plcs b n i = ⟨i, h⟩ :: plcs b n (i + b) := by
  unfold plcs
  obtain ⟨f, hf⟩ : ∃ f, n - i = f + 1 := ⟨n - i - 1, by omega⟩
  rw [hf]
  show (if h : i < n then ⟨i, h⟩ :: plc b n f (i + b) else []) = _
  rw [dif_pos h]
  exact congrArg _ (plc_fuel hb f (n - (i + b)) (i + b) (by omega) (Nat.le_refl _))
theorem plcs_none {b n i : Nat} (h : ¬ i < n) : plcs b n i = [] := plc_end b n _ i h
theorem plcs_few {b n : Nat} (hb : 1 ≤ b) : ∀ (f i : Nat), n - i ≤ f → (plcs b n i).length ≤ n - i
  | 0, i, h => by rw [plcs_none (by omega)]; simp
  | f + 1, i, h => by
    by_cases hi : i < n
    · have := plcs_few (n := n) hb f (i + b) (by omega)
      rw [plcs_at hb hi, List.length_cons]
      omega
    · rw [plcs_none hi]; simp
/-- The piece at place i. -/
def pce (b : Nat) (es : List Ev) (i : { i : Nat // i < es.length }) : List Ev := (es.drop i.1).take b
theorem plcs_pces {b : Nat} (hb : 1 ≤ b) (es : List Ev) : ∀ (f i : Nat), es.length - i ≤ f → (plcs b es.length i).map (pce b es) = chopA b (es.drop i)
  | 0, i, h => by rw [plcs_none (by omega), chopA_end (by omega)]; rfl
  | f + 1, i, h => by
    by_cases hi : i < es.length
    · rw [plcs_at hb hi, chopA_at hb hi, List.map_cons, plcs_pces hb es f (i + b) (by omega)]
      rfl
    · rw [plcs_none hi, chopA_end hi]; rfl

/-- What yield is handed at place i. -/
def encP (A : Option Addr) (b n : Nat) (x : { i : Nat // i < n }) : Array Value := #[.slice (A.map (·.add (x.1 * 3))) (min b (n - x.1)) (min b (n - x.1))]
/-- What the loop's body must keep. -/
def KpB (Bs Bn : Nat) (W W' : World) : Prop := (∀ v, Bk W Bs #[v] 78 → Bk W' Bs #[v] 78) ∧ ∀ v, Bk W Bn #[v] 3 → Bk W' Bn #[v] 3

theorem run_fullE (A : Addr) (n k m c : Nat) (l r : Int) (w : World) (hl : l = k) (hr : r = ((k + m : Nat) : Int)) (h1 : 1 ≤ m) (hm : k + m ≤ c) : (Instr.slice 78 (.slice (some A) n c) (some (.int .i64 l)) (some (.int .i64 r)) (some (.int .i64 r))).run Tryz.prog w = .ok (.slice (some (A.add (k * 3))) m m) w := by
  subst hl
  subst hr
  have h2 : (0 : Int) ≤ (k : Int) + (m : Int) ∧ (k : Int) + (m : Int) ≤ (c : Int) := by omega
  have h3 : ((k : Int) + (m : Int)).toNat = k + m := by omega
  have h4 : ¬ m = 0 := by omega
  simp [go_sem, h2, h3, h4]
theorem run_tailE (A : Option Addr) (n k c : Nat) (l : Int) (w : World) (hl : l = k) (hk : k ≤ n) : (Instr.slice 78 (.slice A n c) (some (.int .i64 l)) none none).run Tryz.prog w = .ok (.slice (cutE A k c) (n - k) (c - k)) w := by
  subst hl
  have h2 : (0 : Int) ≤ (k : Int) ∧ (k : Int) ≤ (n : Int) := by omega
  simp [go_sem, h2, cutE]

set_option maxRecDepth 100000 in
set_option maxHeartbeats 2000000 in
theorem chunk1_in (F : Fence) (n : Nat) (h7 : F.fn 72) (hro : F.round = none) (hn : 1 ≤ n) (l Bs Bn : Nat) (A : Option Addr) (len cap b : Nat) (hb1 : 1 ≤ b) (hb8 : b ≤ 8) (h8 : len ≤ 1000) (hle : len ≤ cap)
    (hA : 0 < len → ∃ g off, A = some ⟨g, off, none⟩) (J Jx : List { i : Nat // i < len } → World → Prop) (hJd : ∀ pre w, J pre w → J pre w.drew)
    (hY : ∀ pre x W, J pre W → pre.length < (plcs b len 0).length → YieldAt F (n - 1) Tryz.prog l (encP A b len x) W fun e W' =>
      (e = .returned (.bool true) ∧ J (pre ++ [x]) W' ∧ KpB Bs Bn W W') ∨ (e = .returned (.bool false) ∧ Jx (pre ++ [x]) W'))
    (W : World) (hs : Bk W Bs #[.slice A len cap] 78) (hbn : Bk W Bn #[.int .i64 b] 3) (h0 : J [] W) :
    CallsIn F n Tryz.prog 72 #[.func (.yield l) #[] #[], .pointer (some ⟨Bs, 0, none⟩), .pointer (some ⟨Bn, 0, none⟩)] W fun e W' => (∃ v, e = .returned v) ∧
      ((∃ ys, ys = plcs b len 0 ∧ J ys W') ∨ (∃ pre, True ∧ Jx pre W')) := by
  refine callsIn_of_wp Tryz.func72 rfl h7 ?_ hro
  simp only [Tryz.ntmps72, List.size_toArray, List.length_cons, List.length_nil, Nat.reduceAdd, Nat.reduceSub, Array.replicate_succ, Array.replicate_zero, List.push_toArray, List.append_toArray, List.nil_append, List.cons_append]
  have c1 : W.cell? ⟨Bs, 0, none⟩ = some (.slice A len cap) := by rw [hs.cell 0]; rfl
  have c2 : W.cell? ⟨Bn, 0, none⟩ = some (.int .i64 b) := by rw [hbn.cell 0]; rfl
  have PE := hide (fun i h => plcs_at (b := b) (n := len) (i := i) hb1 h)
  have PN := hide (fun i h => plcs_none (b := b) (n := len) (i := i) h)
  obtain ⟨N, hN⟩ : ∃ N, N = (plcs b len 0).length := ⟨_, rfl⟩
  rw [← hN] at hY
  have HN := hide hN
  have HY := hide hY
  clear hN hY
  have hmx : Tryz.prog.follows .mixedOrders = true := by kernel_rfl
  gi_wp2
  gi_loopw [4] (fun i wr => ∃ (k : Nat) (pre : List { i : Nat // i < len }), k ≤ len + 8 ∧ i = .int .i64 k ∧ J pre wr ∧ Hid (pre ++ plcs b len k = plcs b len 0) ∧ Bk wr Bs #[.slice A len cap] 78 ∧ Bk wr Bn #[.int .i64 b] 3)
    (fun i _ => len + 8 - (intOf i).toNat)
  case atStart => exact ⟨0, [], by omega, rfl, h0, hide rfl, hs, hbn⟩
  case round =>
    obtain ⟨k, pre, hk, rfl, hJs, HP, hs1, hn1⟩ := hrel
    have d1 : wr.cell? ⟨Bs, 0, none⟩ = some (.slice A len cap) := by rw [hs1.cell 0]; rfl
    have d2 : wr.cell? ⟨Bn, 0, none⟩ = some (.int .i64 b) := by rw [hn1.cell 0]; rfl
    by_cases hlt : k < len
    · obtain ⟨g, off, rfl⟩ := hA (by omega)
      have HP2 := hide (show (pre ++ [⟨k, hlt⟩]) ++ plcs b len (k + b) = plcs b len 0 by rw [List.append_assoc, List.singleton_append, ← PE.out k hlt]; exact HP.out)
      have hpl : pre.length < N := by
        rw [HN.out, ← HP2.out]
        simp
      obtain ⟨m, hm⟩ : ∃ m, m = min b (len - k) := ⟨_, rfl⟩
      obtain ⟨fn, tmps, assign, body, hy, hR⟩ := HY.out pre ⟨k, hlt⟩ wr.drew (hJd _ _ hJs) hpl
      have hm1 : 1 ≤ m ∧ k + m ≤ len ∧ m ≤ 8 := by omega
      simp only [encP, Option.map_some, Go.WideShapes.add_plain] at hy
      rw [← hm] at hy
      have R1 := fun W => run_tailE (some ⟨g, off, none⟩) len k cap k W rfl (by omega)
      have R2 := fun W => run_fullE ⟨g, off, none⟩ len k m cap k ((k : Int) + (m : Int)) W rfl (by omega) hm1.1 (by omega)
      simp only [Go.WideShapes.add_plain] at R2
      gi_wp2
      have hmm : (if len - k < b then ((len - k : Nat) : Int) else (b : Int)) = (m : Int) := by split <;> omega
      clear hm
      have hs2 : Bk wr.drew Bs #[.slice (some ⟨g, off, none⟩) len cap] 78 := hs1
      have hn2 : Bk wr.drew Bn #[.int .i64 b] 3 := hn1
      have e1 : wr.drew.cell? ⟨Bs, 0, none⟩ = some (.slice (some ⟨g, off, none⟩) len cap) := by rw [hs2.cell 0]; rfl
      gi_region
      all_goals (try rw [hmm])
      all_goals gi_wp2
      all_goals (
        refine hR.mono ?_
        rintro e W3 (⟨rfl, hJ3, hk3⟩ | ⟨rfl, hJx3⟩)
        · have d3 : W3.cell? ⟨Bn, 0, none⟩ = some (.int .i64 b) := by rw [(hk3.2 _ hn2).cell 0]; rfl
          gi_wp2
          go_roundw
          case rel => exact ⟨k + b, _, by omega, by go_num, hJ3, HP2, hk3.1 _ hs2, hk3.2 _ hn2⟩
          case measure => simp [intOf]; omega
        · gi_wp2
          refine bodyPost_ret (results_none rfl _ _ _) rfl ?_
          exact ⟨⟨_, rfl⟩, .inr ⟨_, trivial, hJx3⟩⟩)
    · rw [PN.out k hlt, List.append_nil] at HP
      gi_wp2
      go_end0
      exact ⟨⟨_, rfl⟩, .inl ⟨_, HP.out, hJs⟩⟩

set_option maxHeartbeats 1000000 in
theorem chunk_any (A : Option Addr) (len cap b : Nat) (w : World) (hb1 : 1 ≤ b) :
    Calls Tryz.prog 47 #[.slice A len cap, .int .i64 b] w fun e w' => e = .returned (.func (.func 72) #[] #[.pointer (some ⟨w.heap.size, 0, none⟩), .pointer (some ⟨w.heap.size + 1, 0, none⟩)]) ∧ w' = (w.alloc (.cells #[.slice A len cap] 78)).alloc (.cells #[.int .i64 b] 3) := by
  have h2 : ¬ ((b : Int) < 1) := by omega
  go_enter Tryz.func47, Tryz.ntmps47
  go_wp2
  go_ret
  exact ⟨rfl, rfl⟩

theorem chunk_stops (F : Fence) (n : Nat) (h7 : F.fn 72) (hro : F.round = none) (hn : 1 ≤ n) (Bs Bn : Nat) (A : Option Addr) (len cap b : Nat) (hb1 : 1 ≤ b) (hb8 : b ≤ 8) (h8 : len ≤ 1000) (hle : len ≤ cap)
    (hA : 0 < len → ∃ g off, A = some ⟨g, off, none⟩) (w : World) (hs : Bk w Bs #[.slice A len cap] 78) (hbn : Bk w Bn #[.int .i64 b] 3) :
    SeqStopsK F n Tryz.prog 72 #[.pointer (some ⟨Bs, 0, none⟩), .pointer (some ⟨Bn, 0, none⟩)] (encP A b len) (KpB Bs Bn) (fun ys => ys = plcs b len 0) (fun _ => True) (plcs b len 0).length w := fun l J Jx W hW hJ _ hY h0 =>
  chunk1_in F n h7 hro hn l Bs Bn A len cap b hb1 hb8 h8 hle hA J Jx (fun pre w h => hJ pre w w.drew none h ⟨rfl, rfl, rfl, Nat.le_refl _, fun _ _ _ => rfl⟩ (fun r e => by cases e)) hY W (hs.kept hW) (hbn.kept hW) h0
end Go.Proofs.YtldepledinolmaaGreatDoor
