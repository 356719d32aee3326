/- The contract of NewMachine, in the program. -/
import Derived.Test.YtifijhfeeammkaaMacS
import Derived.Test.YtifijhfeeammkaaMsi4
import Derived.Test.YtifijhfeeammkaaGEv
import Derived.Test.YtifijhfeeammkaaOwnTM
namespace Go.Proofs.Ytifijhfeeammkaa
open Go.RowKit

/-- What NewMachine tells, as mathematics. -/
def newOk (a b : Int) : Prop := (1 ≤ a ∧ a ≤ 4) ∧ (1 ≤ b ∧ b ≤ 4)
instance (a b : Int) : Decidable (newOk a b) := by unfold newOk; infer_instance
def newR (a b : Int) : Int × Mac × Int := if newOk a b then (0, newM a.toNat b.toNat, 0) else (3, ⟨[], []⟩, 0)
theorem newR_ok {a b : Int} (h : newOk a b) : newR a b = (0, newM a.toNat b.toNat, 0) := if_pos h
theorem newR_no {a b : Int} (h : ¬ newOk a b) : newR a b = (3, ⟨[], []⟩, 0) := if_neg h
/-- An answer with a machine of the call's own. -/
def MrPost (r : Int × Mac × Int) (w : World) (e : Ending) (w' : World) : Prop :=
  ∃ A c A' c' us, e = .returned (mrV r.1 A r.2.1.cs.length c A' r.2.1.mem.length c' r.2.2) ∧ OwnMac w' w.heap.size (.slice A r.2.1.cs.length c) (.slice A' r.2.1.mem.length c') r.2.1 us ∧ Below w.heap.size w w'
theorem OwnTLine.nil_ (w : World) (base : Nat) : OwnTLine w base (.slice none 0 0) [] [] := ⟨World.ownsRow_nil _ _ _ _, fun i hi => by simp at hi, fun i j u u' _ hu => by simp at hu⟩
theorem OwnMac.nil_ (w : World) (base : Nat) : OwnMac w base (.slice none 0 0) (.slice none 0 0) ⟨[], []⟩ [] := ⟨OwnTLine.nil_ w base, World.ownsRow_nil _ _ _ _, fun b e => by cases e⟩
/-- The caches of a new machine, i of them made. -/
def nwT (n L i : Nat) : List (List Ev) := List.replicate i (List.replicate L lnZ) ++ List.replicate (n - i) []
theorem nwT_zero (n L : Nat) : nwT n L 0 = List.replicate n [] := by simp [nwT]
theorem nwT_all (n L : Nat) : nwT n L n = List.replicate n (List.replicate L lnZ) := by simp [nwT]
theorem nwT_length {n L i : Nat} (h : i ≤ n) : (nwT n L i).length = n := by simp [nwT]; omega
theorem nwT_set {n L i : Nat} (h : i < n) : (nwT n L i).set i (List.replicate L lnZ) = nwT n L (i + 1) := by
  unfold nwT
  rw [show n - i = (n - (i + 1)) + 1 by omega, List.replicate_succ (n := n - (i + 1)), List.set_append_right _ _ (by simp)]
  simp [List.replicate_succ', List.append_assoc]
theorem made_line (n : Nat) : (madeCells (Value.agg #[.int .i64 0, .int .i64 0, .int .i64 0]).cells (n * 3)).toList = evs (List.replicate n lnZ) := by rw [made_event, ← evs_zero]; rfl

set_option maxRecDepth 100000 in
set_option maxHeartbeats 800000 in
theorem implNew_any (a b : Int) (w : World) : Calls Try.prog 20 #[.int .i64 a, .int .i64 b] w (MrPost (newR a b) w) := by
  unfold MrPost
  obtain ⟨W, hW⟩ : ∃ W, W = w.alloc (Obj.cells #[Value.int .i64 0, .slice none 0 0, .slice none 0 0, .int .i64 0] 33) := ⟨_, rfl⟩
  have k1 : Bk W w.heap.size #[Value.int .i64 0, .slice none 0 0, .slice none 0 0, .int .i64 0] 33 := by rw [hW]; exact Bk.new _ _ _
  have B0 : Below w.heap.size w W := by rw [hW]; exact (Below.refl _ _).alloc (Nat.le_refl _) _
  have hz : W.heap.size = w.heap.size + 1 := by rw [hW]; simp
  have HW := hide hW
  clear hW
  obtain ⟨i0, hi, hz0, hz1, hz2⟩ := info_parts info_line
  obtain ⟨j0, hj, hy0, hy1, hy2⟩ := info_parts info_lines
  by_cases ha : 1 ≤ a ∧ a ≤ 4
  · by_cases hb : 1 ≤ b ∧ b ≤ 4
    · rw [newR_ok ⟨ha, hb⟩]
      obtain ⟨n, rfl⟩ := Int.eq_ofNat_of_zero_le (show 0 ≤ a by omega)
      obtain ⟨L, rfl⟩ := Int.eq_ofNat_of_zero_le (show 0 ≤ b by omega)
      rw [Int.toNat_natCast, Int.toNat_natCast]
      have hn : 1 ≤ n ∧ n ≤ 4 := by omega
      have hL : 1 ≤ L ∧ L ≤ 4 := by omega
      obtain ⟨hn1, hn4⟩ := hn
      obtain ⟨hL1, hL4⟩ := hL
      go_enter Try.func20, Try.ntmps20
      go_wp2_with fail
      refine (allWithin_one _ _ _ _ _ _ (by simp [go_sem]) ha).mono ?_
      rintro e w1 ⟨rfl, rfl⟩
      go_wp2_with fail
      refine (allWithin_one _ _ _ _ _ _ (by simp [go_sem]) hb).mono ?_
      rintro e w1 ⟨rfl, rfl⟩
      have k2 := (k1.alloc (.cells #[.int .i64 (n : Int)] 2)).alloc (.cells #[.int .i64 (L : Int)] 2)
      have B2 := (B0.alloc B0.size (.cells #[.int .i64 (n : Int)] 2)).alloc (by simp; omega) (.cells #[.int .i64 (L : Int)] 2)
      clear k1 B0 ha hb
      rw [← HW.out]
      generalize (W.alloc (.cells #[.int .i64 (n : Int)] 2)).alloc (.cells #[.int .i64 (L : Int)] 2) = V at *
      have hV := k2.lt
      go_wp2_with (at_make; refine wpList_make_full _ rfl _ _ 24 rfl (w.heap.size + 1) 112 j0 (.slice none 0 0) 1 Try.underlying24 hj hy0 hy1 .i64 .i64 _ _ n rfl rfl rfl rfl (by rw [hy2]; omega) (by unfold maxLen; omega) hV ?_; intro w2 hown hg)
      rw [made_slices] at hown
      have oT := ownTLine_made hown
      rw [← nwT_zero n L] at oT
      obtain ⟨gv, hgv⟩ : ∃ g, g = V.heap.size := ⟨_, rfl⟩
      have B3 := B2.grown hg (by omega) (by simp)
      have k3 := k2.grown hg (by simp)
      have HGV := hide hgv
      have hgz : gv < w2.heap.size := by have := hown.lt V.heap.size rfl; omega
      rw [← hgv] at oT
      clear hg hown k2 B2 hgv
      rw [← HGV.out]
      go_wp2_with fail
      go_loopw [22] (fun s wr => ∃ (i : Nat) (us : List Value), i ≤ n ∧ s = .int .i64 i ∧ OwnTLine wr (w.heap.size + 1) (.slice (some ⟨gv, 0, none⟩) n n) (nwT n L i) us ∧ Bk wr w.heap.size #[Value.int .i64 0, .slice none 0 0, .slice none 0 0, .int .i64 0] 33 ∧ Below w.heap.size w wr) (fun s _ => n - (intOf s).toNat)
      case atStart => exact ⟨0, _, Nat.zero_le _, rfl, oT, k3, B3⟩
      case round =>
        clear oT k3 B3 hgz
        obtain ⟨i, us, hin, rfl, ot, k3, hb⟩ := hrel
        have hk3 := k3.lt
        by_cases hlt : i < n
        · have hit : i < (nwT n L i).length := by rw [nwT_length hin]; exact hlt
          obtain ⟨u, hu, _, _⟩ := ot.rows i hit
          have orow := ot.row
          rw [nwT_length hin] at orow
          have hc0 : wr.cell? ⟨gv, i, none⟩ = some u := by rw [orow.cellAt i (by omega)]; exact hu
          have hf0 := orow.frozenAt i
          have hgl := orow.lt gv rfl
          have HOT := hide ot
          have HOR := hide orow
          clear ot orow
          go_wp2_with (at_make; go_loud (refine wpList_make_full _ rfl _ _ 112 rfl (w.heap.size + 1) 115 i0 (.agg #[.int .i64 0, .int .i64 0, .int .i64 0]) 3 Try.underlying112 hi hz0 hz1 .i64 .i64 _ _ L rfl rfl rfl rfl (by rw [hz2]; omega) (by unfold maxLen; omega) hk3 ?_; intro w4 hown hg; have b4 : Below wr.heap.size wr w4 := (Below.refl _ _).grown hg (Nat.le_refl _) (by simp); have c4 := cell_kept b4 hc0; have f4 : w4.frozen? ⟨gv, i, none⟩ = false := (HOR.out.kept hg (.inr (by simp [Value.ownBlock]))).frozenAt i; have HG := hide hg; have HO := hide hown; have HB4 := hide b4; clear hg hown b4 hc0 hf0))
          go_roundw
          case rel =>
            have hO := HO.out
            rw [made_line] at hO
            have hS := HOT.out
            have hwl : (nwT n L i).length = n := nwT_length hin
            have hS2 : OwnTLine wr (w.heap.size + 1) (.slice (some ⟨gv, 0, none⟩) (nwT n L i).length n) (nwT n L i) us := by rw [hwl]; exact hS
            have S := OwnTLine.swap (i := i) (u' := .slice (some ⟨wr.heap.size, 0, none⟩) L L) (es' := List.replicate L lnZ) hS2 hu HG.out (fun b e => by cases e) (by rw [List.length_replicate]; exact hO) (fun b e => by simp [Value.ownBlock] at e; omega)
            rw [nwT_set hlt, hwl] at S
            exact ⟨i + 1, _, by omega, by go_num, S, (k3.kept HB4.out).far (p := ⟨gv, i, none⟩) (by simp only; omega) _, ((hb.trans (HB4.out.mono hb.size))).setCell (by simp only; omega) _⟩
          case measure => simp [intOf]; omega
        · obtain rfl : i = n := by omega
          rw [nwT_all] at ot
          have z0 := (k3.cell 0).trans (rfl : _ = some (Value.int .i64 0))
          have z1 := (k3.cell 1).trans (rfl : _ = some (Value.slice none 0 0))
          have z2 := (k3.cell 2).trans (rfl : _ = some (Value.slice none 0 0))
          have z3 := (k3.cell 3).trans (rfl : _ = some (Value.int .i64 0))
          have f0 := k3.frozen 0
          have f1 := k3.frozen 1
          have f2 := k3.frozen 2
          have f3 := k3.frozen 3
          have HOT := hide ot
          have HB := hide hb
          clear ot hb k3
          go_wp2
          refine bodyPost_ret (v := mrV 0 (some ⟨gv, 0, none⟩) i i none 0 0 0) (by simp [results, Try.results20, go_sem, z0, z1, z2, z3]) rfl ?_
          refine ⟨some ⟨gv, 0, none⟩, i, none, 0, us, by simp [newM], ?_, (((HB.out.setCell (Nat.le_refl _) _).setCell (Nat.le_refl _) _).setCell (Nat.le_refl _) _).setCell (Nat.le_refl _) _⟩
          have O1 := HOT.out
          refine ⟨?_, World.ownsRow_nil _ _ _ _, fun b e => by cases e⟩
          show OwnTLine _ _ (.slice (some ⟨gv, 0, none⟩) (List.replicate i (List.replicate L lnZ)).length i) _ _
          rw [List.length_replicate]
          refine OwnTLine.mono (base := w.heap.size + 1) ?_ (Nat.le_succ _)
          exact (((O1.kept (grown_set _ w.heap.size 0 _) (fun b e => by cases e; omega)).kept (grown_set _ w.heap.size 1 _) (fun b e => by cases e; omega)).kept (grown_set _ w.heap.size 2 _) (fun b e => by cases e; omega)).kept (grown_set _ w.heap.size 3 _) (fun b e => by cases e; omega)
    · rw [newR_no (fun h => hb h.2)]
      have hb' : b < 1 ∨ 4 < b := by omega
      go_enter Try.func20, Try.ntmps20
      go_wp2_with fail
      refine (allWithin_one _ _ _ _ _ _ (by simp [go_sem]) ha).mono ?_
      rintro e w1 ⟨rfl, rfl⟩
      go_wp2_with fail
      refine (allWithin_not _ _ _ _ _ _ (by simp [go_sem]) hb').mono ?_
      rintro e w1 ⟨rfl, rfl⟩
      have k2 := (k1.alloc (.cells #[.int .i64 a] 2)).alloc (.cells #[.int .i64 b] 2)
      have B2 := (B0.alloc B0.size (.cells #[.int .i64 a] 2)).alloc (by simp; omega) (.cells #[.int .i64 b] 2)
      clear k1 B0
      rw [← HW.out]
      generalize (W.alloc (.cells #[.int .i64 a] 2)).alloc (.cells #[.int .i64 b] 2) = V at *
      have z0 := (k2.cell 0).trans (rfl : _ = some (Value.int .i64 0))
      have z1 := (k2.cell 1).trans (rfl : _ = some (Value.slice none 0 0))
      have z2 := (k2.cell 2).trans (rfl : _ = some (Value.slice none 0 0))
      have z3 := (k2.cell 3).trans (rfl : _ = some (Value.int .i64 0))
      have f0 := k2.frozen 0
      have f1 := k2.frozen 1
      have f2 := k2.frozen 2
      have f3 := k2.frozen 3
      go_wp2
      refine bodyPost_ret (v := mrV 3 none 0 0 none 0 0 0) (by simp [results, Try.results20, go_sem, z0, z1, z2, z3]) rfl ?_
      exact ⟨none, 0, none, 0, [], rfl, OwnMac.nil_ _ _, (((B2.setCell (Nat.le_refl _) _).setCell (Nat.le_refl _) _).setCell (Nat.le_refl _) _).setCell (Nat.le_refl _) _⟩
  · rw [newR_no (fun h => ha h.1)]
    have ha' : a < 1 ∨ 4 < a := by omega
    go_enter Try.func20, Try.ntmps20
    go_wp2_with fail
    refine (allWithin_not _ _ _ _ _ _ (by simp [go_sem]) ha').mono ?_
    rintro e w1 ⟨rfl, rfl⟩
    have k2 := k1.alloc (.cells #[.int .i64 a] 2)
    have B2 := B0.alloc B0.size (.cells #[.int .i64 a] 2)
    clear k1 B0
    rw [← HW.out]
    generalize W.alloc (.cells #[.int .i64 a] 2) = V at *
    have z0 := (k2.cell 0).trans (rfl : _ = some (Value.int .i64 0))
    have z1 := (k2.cell 1).trans (rfl : _ = some (Value.slice none 0 0))
    have z2 := (k2.cell 2).trans (rfl : _ = some (Value.slice none 0 0))
    have z3 := (k2.cell 3).trans (rfl : _ = some (Value.int .i64 0))
    have f0 := k2.frozen 0
    have f1 := k2.frozen 1
    have f2 := k2.frozen 2
    have f3 := k2.frozen 3
    go_wp2
    refine bodyPost_ret (v := mrV 3 none 0 0 none 0 0 0) (by simp [results, Try.results20, go_sem, z0, z1, z2, z3]) rfl ?_
    exact ⟨none, 0, none, 0, [], rfl, OwnMac.nil_ _ _, (((B2.setCell (Nat.le_refl _) _).setCell (Nat.le_refl _) _).setCell (Nat.le_refl _) _).setCell (Nat.le_refl _) _⟩
end Go.Proofs.Ytifijhfeeammkaa
