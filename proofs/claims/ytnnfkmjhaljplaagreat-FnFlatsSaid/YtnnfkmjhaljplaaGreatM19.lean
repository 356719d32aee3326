/- What the laws' walks rest upon, part 19. -/
import Derived.Test.YtnnfkmjhaljplaaGreatM15
import Derived.Test.YtnnfkmjhaljplaaGreatM07
import Derived.Test.YtnnfkmjhaljplaaGreatM02
import Derived.Test.YtnnfkmjhaljplaaGreatM05
import Derived.Test.YtnnfkmjhaljplaaGreatM18
namespace Go.Proofs.YtnnfkmjhaljplaaGreat
open Go.RowKit
/-- What NewMachine tells, as mathematics. -/
def newOk (a b : Int) : Prop := (1 ≤ a ∧ a ≤ 4) ∧ (1 ≤ b ∧ b ≤ 4)
instance (a b : Int) : Decidable (newOk a b) := by unfold newOk; infer_instance
def newR (a b : Int) : Int × Mac × Int := if newOk a b then (0, newM a.toNat b.toNat, 0) else (3, ⟨[], []⟩, 0)
theorem newR_ok {a b : Int} (h : newOk a b) : newR a b = (0, newM a.toNat b.toNat, 0) := if_pos h
theorem newR_no {a b : Int} (h : ¬ newOk a b) : newR a b = (3, ⟨[], []⟩, 0) := if_neg h
/-- An answer with a machine of the call's own. -/
def MrPost (r : Int × Mac × Int) (w : World) (e : Ending) (w' : World) : Prop :=
  ∃ A c A' c' us, e = .returned (mrV r.1 A r.2.1.cs.length c A' r.2.1.mem.length c' r.2.2) ∧ OwnMac w' w.heap.size (.slice A r.2.1.cs.length c) (.slice A' r.2.1.mem.length c') r.2.1 us ∧ Below w.heap.size w w'
theorem OwnTLine.nil_ (w : World) (base : Nat) : OwnTLine w base (.slice none 0 0) [] [] := ⟨World.ownsRow_nil _ _ _ _, fun i hi => by simp at hi, fun i j u u' _ hu => by simp at hu⟩
theorem OwnMac.nil_ (w : World) (base : Nat) : OwnMac w base (.slice none 0 0) (.slice none 0 0) ⟨[], []⟩ [] := ⟨OwnTLine.nil_ w base, World.ownsRow_nil _ _ _ _, fun b e => by cases e⟩
/-- The caches of a new machine, i of them made. -/
def nwT (n L i : Nat) : List (List Ev) := List.replicate i (List.replicate L lnZ) ++ List.replicate (n - i) []
theorem nwT_zero (n L : Nat) : nwT n L 0 = List.replicate n [] := by simp [nwT]
theorem nwT_all (n L : Nat) : nwT n L n = List.replicate n (List.replicate L lnZ) := by simp [nwT]
theorem nwT_length {n L i : Nat} (h : i ≤ n) : (nwT n L i).length = n := by simp [nwT]; omega
theorem nwT_set {n L i : Nat} (h : i < n) : (nwT n L i).set i (List.replicate L lnZ) = nwT n L (i + 1) := by
  unfold nwT
  rw [show n - i = (n - (i + 1)) + 1 by omega, List.replicate_succ (n := n - (i + 1)), List.set_append_right _ _ (by simp)]
  simp [List.replicate_succ', List.append_assoc]
theorem made_line (n : Nat) : (madeCells (Value.agg #[.int .i64 0, .int .i64 0, .int .i64 0]).cells (n * 3)).toList = evs (List.replicate n lnZ) := by rw [made_event, ← evs_zero]; rfl
set_option maxRecDepth 100000 in
set_option maxHeartbeats 800000 in
theorem implNew_any (a b : Int) (w : World) : Calls Tryz.prog 27 #[.int .i64 a, .int .i64 b] w (MrPost (newR a b) w) := by
  unfold MrPost
  obtain ⟨W, hW⟩ : ∃ W, W = w.alloc (Obj.cells #[Value.int .i64 0, .slice none 0 0, .slice none 0 0, .int .i64 0] 72) := ⟨_, rfl⟩
  have k1 : Bk W w.heap.size #[Value.int .i64 0, .slice none 0 0, .slice none 0 0, .int .i64 0] 72 := by rw [hW]; exact Bk.new _ _ _
  have B0 : Below w.heap.size w W := by rw [hW]; exact (Below.refl _ _).alloc (Nat.le_refl _) _
  have hz : W.heap.size = w.heap.size + 1 := by rw [hW]; simp
  have HW := hide hW
  clear hW
  obtain ⟨i0, hi, hz0, hz1, hz2⟩ := info_parts info_line
  obtain ⟨j0, hj, hy0, hy1, hy2⟩ := info_parts info_lines
  by_cases ha : 1 ≤ a ∧ a ≤ 4
  · by_cases hb : 1 ≤ b ∧ b ≤ 4
    · rw [newR_ok ⟨ha, hb⟩]
      obtain ⟨n, rfl⟩ := Int.eq_ofNat_of_zero_le (show 0 ≤ a by omega)
      obtain ⟨L, rfl⟩ := Int.eq_ofNat_of_zero_le (show 0 ≤ b by omega)
      rw [Int.toNat_natCast, Int.toNat_natCast]
      have hn : 1 ≤ n ∧ n ≤ 4 := by omega
      have hL : 1 ≤ L ∧ L ≤ 4 := by omega
      obtain ⟨hn1, hn4⟩ := hn
      obtain ⟨hL1, hL4⟩ := hL
      go_enter Tryz.func27, Tryz.ntmps27
      go_wp2_with fail
      refine (allWithin_one _ _ _ _ _ _ (by simp [go_sem]) ha).mono ?_
      rintro e w1 ⟨rfl, rfl⟩
      go_wp2_with fail
      refine (allWithin_one _ _ _ _ _ _ (by simp [go_sem]) hb).mono ?_
      rintro e w1 ⟨rfl, rfl⟩
      have k2 := (k1.alloc (.cells #[.int .i64 (n : Int)] 2)).alloc (.cells #[.int .i64 (L : Int)] 2)
      have B2 := (B0.alloc B0.size (.cells #[.int .i64 (n : Int)] 2)).alloc (by simp; omega) (.cells #[.int .i64 (L : Int)] 2)
      clear k1 B0 ha hb
      rw [← HW.out]
      generalize (W.alloc (.cells #[.int .i64 (n : Int)] 2)).alloc (.cells #[.int .i64 (L : Int)] 2) = V at *
      have hV := k2.lt
      go_wp2_with (at_make; refine wpList_make_full _ rfl _ _ 32 rfl (w.heap.size + 1) 114 j0 (.slice none 0 0) 1 Tryz.underlying32 hj hy0 hy1 .i64 .i64 _ _ n rfl rfl rfl rfl (by rw [hy2]; omega) (by unfold maxLen; omega) hV ?_; intro w2 hown hg)
      rw [made_slices] at hown
      have oT := ownTLine_made hown
      rw [← nwT_zero n L] at oT
      obtain ⟨gv, hgv⟩ : ∃ g, g = V.heap.size := ⟨_, rfl⟩
      have B3 := B2.grown hg (by omega) (by simp)
      have k3 := k2.grown hg (by simp)
      have HGV := hide hgv
      have hgz : gv < w2.heap.size := by have := hown.lt V.heap.size rfl; omega
      rw [← hgv] at oT
      clear hg hown k2 B2 hgv
      rw [← HGV.out]
      go_wp2_with fail
      go_loopw [22] (fun s wr => ∃ (i : Nat) (us : List Value), i ≤ n ∧ s = .int .i64 i ∧ OwnTLine wr (w.heap.size + 1) (.slice (some ⟨gv, 0, none⟩) n n) (nwT n L i) us ∧ Bk wr w.heap.size #[Value.int .i64 0, .slice none 0 0, .slice none 0 0, .int .i64 0] 72 ∧ Below w.heap.size w wr) (fun s _ => n - (intOf s).toNat)
      case atStart => exact ⟨0, _, Nat.zero_le _, rfl, oT, k3, B3⟩
      case round =>
        clear oT k3 B3 hgz
        obtain ⟨i, us, hin, rfl, ot, k3, hb⟩ := hrel
        have hk3 := k3.lt
        by_cases hlt : i < n
        · have hit : i < (nwT n L i).length := by rw [nwT_length hin]; exact hlt
          obtain ⟨u, hu, _, _⟩ := ot.rows i hit
          have orow := ot.row
          rw [nwT_length hin] at orow
          have hc0 : wr.cell? ⟨gv, i, none⟩ = some u := by rw [orow.cellAt i (by omega)]; exact hu
          have hf0 := orow.frozenAt i
          have hgl := orow.lt gv rfl
          have HOT := hide ot
          have HOR := hide orow
          clear ot orow
          go_wp2_with (at_make; go_loud (refine wpList_make_full _ rfl _ _ 114 rfl (w.heap.size + 1) 129 i0 (.agg #[.int .i64 0, .int .i64 0, .int .i64 0]) 3 Tryz.underlying114 hi hz0 hz1 .i64 .i64 _ _ L rfl rfl rfl rfl (by rw [hz2]; omega) (by unfold maxLen; omega) hk3 ?_; intro w4 hown hg; have b4 : Below wr.heap.size wr w4 := (Below.refl _ _).grown hg (Nat.le_refl _) (by simp); have c4 := cell_kept b4 hc0; have f4 : w4.frozen? ⟨gv, i, none⟩ = false := (HOR.out.kept hg (.inr (by simp [Value.ownBlock]))).frozenAt i; have HG := hide hg; have HO := hide hown; have HB4 := hide b4; clear hg hown b4 hc0 hf0))
          go_roundw
          case rel =>
            have hO := HO.out
            rw [made_line] at hO
            have hS := HOT.out
            have hwl : (nwT n L i).length = n := nwT_length hin
            have hS2 : OwnTLine wr (w.heap.size + 1) (.slice (some ⟨gv, 0, none⟩) (nwT n L i).length n) (nwT n L i) us := by rw [hwl]; exact hS
            have S := OwnTLine.swap (i := i) (u' := .slice (some ⟨wr.heap.size, 0, none⟩) L L) (es' := List.replicate L lnZ) hS2 hu HG.out (fun b e => by cases e) (by rw [List.length_replicate]; exact hO) (fun b e => by simp [Value.ownBlock] at e; omega)
            rw [nwT_set hlt, hwl] at S
            exact ⟨i + 1, _, by omega, by go_num, S, (k3.kept HB4.out).far (p := ⟨gv, i, none⟩) (by simp only; omega) _, ((hb.trans (HB4.out.mono hb.size))).setCell (by simp only; omega) _⟩
          case measure => simp [intOf]; omega
        · obtain rfl : i = n := by omega
          rw [nwT_all] at ot
          have z0 := (k3.cell 0).trans (rfl : _ = some (Value.int .i64 0))
          have z1 := (k3.cell 1).trans (rfl : _ = some (Value.slice none 0 0))
          have z2 := (k3.cell 2).trans (rfl : _ = some (Value.slice none 0 0))
          have z3 := (k3.cell 3).trans (rfl : _ = some (Value.int .i64 0))
          have f0 := k3.frozen 0
          have f1 := k3.frozen 1
          have f2 := k3.frozen 2
          have f3 := k3.frozen 3
          have HOT := hide ot
          have HB := hide hb
          clear ot hb k3
          go_wp2
          refine bodyPost_ret (v := mrV 0 (some ⟨gv, 0, none⟩) i i none 0 0 0) (by simp [results, Tryz.results27, go_sem, z0, z1, z2, z3]) rfl ?_
          refine ⟨some ⟨gv, 0, none⟩, i, none, 0, us, by simp [newM], ?_, (((HB.out.setCell (Nat.le_refl _) _).setCell (Nat.le_refl _) _).setCell (Nat.le_refl _) _).setCell (Nat.le_refl _) _⟩
          have O1 := HOT.out
          refine ⟨?_, World.ownsRow_nil _ _ _ _, fun b e => by cases e⟩
          show OwnTLine _ _ (.slice (some ⟨gv, 0, none⟩) (List.replicate i (List.replicate L lnZ)).length i) _ _
          rw [List.length_replicate]
          refine OwnTLine.mono (base := w.heap.size + 1) ?_ (Nat.le_succ _)
          exact (((O1.kept (grown_set _ w.heap.size 0 _) (fun b e => by cases e; omega)).kept (grown_set _ w.heap.size 1 _) (fun b e => by cases e; omega)).kept (grown_set _ w.heap.size 2 _) (fun b e => by cases e; omega)).kept (grown_set _ w.heap.size 3 _) (fun b e => by cases e; omega)
    · rw [newR_no (fun h => hb h.2)]
      have hb' : b < 1 ∨ 4 < b := by omega
      go_enter Tryz.func27, Tryz.ntmps27
      go_wp2_with fail
      refine (allWithin_one _ _ _ _ _ _ (by simp [go_sem]) ha).mono ?_
      rintro e w1 ⟨rfl, rfl⟩
      go_wp2_with fail
      refine (allWithin_not _ _ _ _ _ _ (by simp [go_sem]) hb').mono ?_
      rintro e w1 ⟨rfl, rfl⟩
      have k2 := (k1.alloc (.cells #[.int .i64 a] 2)).alloc (.cells #[.int .i64 b] 2)
      have B2 := (B0.alloc B0.size (.cells #[.int .i64 a] 2)).alloc (by simp; omega) (.cells #[.int .i64 b] 2)
      clear k1 B0
      rw [← HW.out]
      generalize (W.alloc (.cells #[.int .i64 a] 2)).alloc (.cells #[.int .i64 b] 2) = V at *
      have z0 := (k2.cell 0).trans (rfl : _ = some (Value.int .i64 0))
      have z1 := (k2.cell 1).trans (rfl : _ = some (Value.slice none 0 0))
      have z2 := (k2.cell 2).trans (rfl : _ = some (Value.slice none 0 0))
      have z3 := (k2.cell 3).trans (rfl : _ = some (Value.int .i64 0))
      have f0 := k2.frozen 0
      have f1 := k2.frozen 1
      have f2 := k2.frozen 2
      have f3 := k2.frozen 3
      go_wp2
      refine bodyPost_ret (v := mrV 3 none 0 0 none 0 0 0) (by simp [results, Tryz.results27, go_sem, z0, z1, z2, z3]) rfl ?_
      exact ⟨none, 0, none, 0, [], rfl, OwnMac.nil_ _ _, (((B2.setCell (Nat.le_refl _) _).setCell (Nat.le_refl _) _).setCell (Nat.le_refl _) _).setCell (Nat.le_refl _) _⟩
  · rw [newR_no (fun h => ha h.1)]
    have ha' : a < 1 ∨ 4 < a := by omega
    go_enter Tryz.func27, Tryz.ntmps27
    go_wp2_with fail
    refine (allWithin_not _ _ _ _ _ _ (by simp [go_sem]) ha').mono ?_
    rintro e w1 ⟨rfl, rfl⟩
    have k2 := k1.alloc (.cells #[.int .i64 a] 2)
    have B2 := B0.alloc B0.size (.cells #[.int .i64 a] 2)
    clear k1 B0
    rw [← HW.out]
    generalize W.alloc (.cells #[.int .i64 a] 2) = V at *
    have z0 := (k2.cell 0).trans (rfl : _ = some (Value.int .i64 0))
    have z1 := (k2.cell 1).trans (rfl : _ = some (Value.slice none 0 0))
    have z2 := (k2.cell 2).trans (rfl : _ = some (Value.slice none 0 0))
    have z3 := (k2.cell 3).trans (rfl : _ = some (Value.int .i64 0))
    have f0 := k2.frozen 0
    have f1 := k2.frozen 1
    have f2 := k2.frozen 2
    have f3 := k2.frozen 3
    go_wp2
    refine bodyPost_ret (v := mrV 3 none 0 0 none 0 0 0) (by simp [results, Tryz.results27, go_sem, z0, z1, z2, z3]) rfl ?_
    exact ⟨none, 0, none, 0, [], rfl, OwnMac.nil_ _ _, (((B2.setCell (Nat.le_refl _) _).setCell (Nat.le_refl _) _).setCell (Nat.le_refl _) _).setCell (Nat.le_refl _) _⟩
end Go.Proofs.YtnnfkmjhaljplaaGreat
namespace Go.Proofs.YtnnfkmjhaljplaaGreat
open Go.RowKit
/-- A new row lies where the world ended: so it is own from there on. -/
theorem own_new {w w' : World} {base : Nat} {e : TypeId} {size n cap : Nat} {xs : List Value} (h : w'.ownsRow base e size (.slice (some ⟨w.heap.size, 0, none⟩) n cap) n xs) : w'.ownsRow w.heap.size e size (.slice (some ⟨w.heap.size, 0, none⟩) n cap) n xs := by
  obtain ⟨h1, h2⟩ := h
  refine ⟨h1, ?_⟩
  rcases h2 with h2 | ⟨g, cp, cur, hv, hb, hr⟩
  · exact .inl h2
  · refine .inr ⟨g, cp, cur, hv, ?_, hr⟩
    simp only [Value.slice.injEq, Option.some.injEq, Addr.mk.injEq] at hv
    omega
/-- make of a row at an operation of a region that draws its order. -/
theorem step_make_full {P : Program} (w : World) {ops : Array Oper} {o : Oper} {a : Act} {K : Act → World → Prop} {Q : Exit → Act → World → Prop} {E : Prop} (hw : Region.wanted o (yielded ops a.tmps) = true)
    (l c : Operand) (t : TypeId) (hop : o.op = Op.makeSlice t l c)
    (base : Nat) (e : TypeId) (i : TypeInfo) (z : Value) (size : Nat) (h1 : P.underlying t = some (.slice e)) (h2 : P.info? e = some i) (h3 : i.zero = some z) (h4 : i.size = size)
    (kl kc : IntKind) (L C : Int) (n : Nat) (hl : a.eval l = .int kl L) (hc : a.eval c = .int kc C) (hL : L = (n : Int)) (hC : C = (n : Int)) (b2 : i.bytes * n ≤ 281474976710656) (b3 : n ≤ maxLen) (b4 : base ≤ w.heap.size)
    (hK : ∀ w', w'.ownsRow base e size (.slice (some ⟨w.heap.size, 0, none⟩) n n) n (madeCells z.cells (n * size)).toList → w.grownBy w' none → K (a.put o.dst (.slice (some ⟨w.heap.size, 0, none⟩) n n)) w') :
    if Region.wanted o (yielded ops a.tmps) = true then Oper.wp P o a w K Q else E := by
  rw [if_pos hw]
  obtain ⟨w', hrun, r1, r2⟩ := run_make_full (P := P) w base t e i z size h1 h2 h3 h4 kl kc n b2 b3 b4
  subst hL
  subst hC
  unfold Oper.wp
  simp [execOp, hop, hl, hc, hrun, Result.andThen]
  exact hK w' r1 r2
set_option maxRecDepth 100000 in
set_option maxHeartbeats 1600000 in
theorem l7New_any (n L : Nat) (w : World) (hn : n ≤ 4) (hL : L ≤ 4) :
    Calls Tryz.prog 46 #[.int .i64 n, .int .i64 L] w fun e w' => ∃ A c us, e = .returned (macV A n c none 0 0) ∧ OwnMac w' w.heap.size (.slice A n c) (.slice none 0 0) (newM n L) us ∧ Below w.heap.size w w' := by
  obtain ⟨i0, hi, hz0, hz1, hz2⟩ := info_parts info_line
  obtain ⟨j0, hj, hy0, hy1, hy2⟩ := info_parts info_lines
  obtain ⟨W, hW⟩ : ∃ W, W = (w.alloc (Obj.cells #[.slice none 0 0, .slice none 0 0] 35)).alloc (Obj.cells #[.slice none 0 0, .slice none 0 0] 35) := ⟨_, rfl⟩
  obtain ⟨k1, k2, hz, B0⟩ := two_new _ _ _ _ _ W hW
  have oT : OwnTLine W (w.heap.size + 1 + 1) (.slice none 0 0) (List.replicate 0 (List.replicate L lnZ)) [] := OwnTLine.nil_ _ _
  have HW := hide hW
  clear hW
  obtain ⟨q, hq⟩ : ∃ q, q = w.heap.size := ⟨_, rfl⟩
  have HQ := hide hq
  rw [← hq] at k1 k2 B0 oT
  have hzq : W.heap.size = q + 1 + 1 := by omega
  clear hq hz
  go_enter Tryz.func46, Tryz.ntmps46
  go_wp2_with fail
  rw [← HW.out, ← HQ.out]
  go_loopw [6] (fun s wr => ∃ (k : Nat) (v : Value) (us : List Value), k ≤ n ∧ s = .int .i64 k ∧ OwnTLine wr (q + 1 + 1) v (List.replicate k (List.replicate L lnZ)) us ∧ Bk wr q #[.slice none 0 0, .slice none 0 0] 35 ∧ Bk wr (q + 1) #[v, .slice none 0 0] 35 ∧ Below q w wr) (fun s _ => n - (intOf s).toNat)
  case atStart => exact ⟨0, _, _, Nat.zero_le _, rfl, oT, k1, k2, B0⟩
  case round =>
    clear oT k1 k2 B0 hzq
    obtain ⟨k, v, us, hk, rfl, ot, k1, k2, hb⟩ := hrel
    by_cases hlt : k < n
    · have orow := ot.row
      rw [List.length_replicate] at orow
      obtain ⟨Ao, co, rfl⟩ := own_shape orow
      go_wp2_with fail
      have s0 : wr.drew.cell? ⟨q + 1, 0, none⟩ = some (.slice Ao k co) := (k2.cell 0).trans rfl
      have ot1 : OwnTLine wr.drew (q + 1 + 1) (.slice Ao k co) (List.replicate k (List.replicate L lnZ)) us := ot.below (Below.refl _ _).drew
      have k11 : Bk wr.drew q #[.slice none 0 0, .slice none 0 0] 35 := k1
      have k21 : Bk wr.drew (q + 1) #[.slice Ao k co, .slice none 0 0] 35 := k2
      have hb1 : Below q w wr.drew := hb.drew
      have hz1' := k21.lt
      clear ot k1 k2 hb orow
      refine wp_region_F 5 (fun w' => True) (fun w' => w'.cell? ⟨q + 1, 0, none⟩ = some (Value.slice Ao k co)) (by kernel_rfl) ⟨trivial, s0⟩ (fun hHeld => ?_)
      try simp only [Act.put, List.setIfInBounds_toArray, List.set_cons_zero, List.set_cons_succ]
      clear s0
      generalize wr.drew = Z at *
      refine wpAnyF_take (i := 0) (v := ?_) (by (simp only [List.getElem?_toArray, List.getElem?_cons_zero]; rfl)) (by kernel_rfl) (by kernel_rfl) (by kernel_rfl) (by decide) (by exact fun _ _ _ h => h) ⟨hHeld.1, .inr hHeld.2⟩ (Or.inl ⟨by rfl, ?_⟩) ?_
      rotate_left
      · (intro w' _; go_simp <;> with_reducible rfl)
      try simp only [Act.put, List.setIfInBounds_toArray, List.set_cons_zero, List.set_cons_succ]
      refine wpAnyF_load (i := 1) (v := ?_) (by (simp only [List.getElem?_toArray, List.getElem?_cons_succ, List.getElem?_cons_zero]; rfl)) (by kernel_rfl) (by kernel_rfl) (by kernel_rfl) (by decide) (by exact fun _ _ _ h => h) hHeld (by kernel_rfl) (by kernel_rfl) (Or.inl ⟨by rfl, ?_⟩) ?_
      rotate_left
      · (intro w' hSw; (try dsimp only at hSw); obtain hSb0 := hSw; go_simp <;> with_reducible rfl)
      try simp only [Act.put, List.setIfInBounds_toArray, List.set_cons_zero, List.set_cons_succ]
      refine wpAnyF_take (i := 2) (v := ?_) (by (simp only [List.getElem?_toArray, List.getElem?_cons_succ, List.getElem?_cons_zero]; rfl)) (by kernel_rfl) (by kernel_rfl) (by kernel_rfl) (by decide) (by exact fun _ _ _ h => h) ⟨hHeld.1, .inr hHeld.2⟩ (Or.inl ⟨by rfl, ?_⟩) ?_
      rotate_left
      · (intro w' _; go_simp <;> with_reducible rfl)
      try simp only [Act.put, List.setIfInBounds_toArray, List.set_cons_zero, List.set_cons_succ]
      refine wpAnyF_ready (rs := [3]) (by kernel_rfl) (by simp) ?_
      refine AllReadyF.cons (by (simp only [List.getElem?_toArray, List.getElem?_cons_succ, List.getElem?_cons_zero]; rfl)) (fun K hK => ?_) AllReadyF.nil
      refine step_make_full _ (by rfl) (.tmp 15) (.tmp 15) 114 (by rfl) (q + 1 + 1) 129 i0 (.agg #[.int .i64 0, .int .i64 0, .int .i64 0]) 3 Tryz.underlying114 hi hz0 hz1 .i64 .i64 _ _ L (by rfl) (by rfl) rfl rfl (by rw [hz2]; omega) (by unfold maxLen; omega) (by omega) ?_
      intro w3 o3 g3
      rw [made_line] at o3
      have b3 : Below Z.heap.size Z w3 := (Below.refl _ _).grown g3 (Nat.le_refl _) (by simp)
      have o3' : w3.ownsRow Z.heap.size 129 3 (.slice (some ⟨Z.heap.size, 0, none⟩) L L) L (evs (List.replicate L lnZ)) := by have h1 := o3; exact own_new h1
      have k13 := k11.kept b3
      have k23 := k21.kept b3
      have ot3 := ot1.below b3
      have hf3 := ot1.freshL o3'
      have hb3 := hb1.trans (b3.mono (by omega))
      have hz3 := k23.lt
      refine hK.out _ _ ⟨trivial, ((k23.cell 0).trans rfl)⟩ (fun hNew => ?_)
      clear hK K hHeld
      have hHeld := hNew
      clear hNew
      try simp only [Act.put, List.setIfInBounds_toArray, List.set_cons_zero, List.set_cons_succ]
      clear k11 k21 ot1 hb1 b3
      refine wpAnyF_ready (rs := [4]) (by kernel_rfl) (by simp) ?_
      refine AllReadyF.cons (by (simp only [List.getElem?_toArray, List.getElem?_cons_succ, List.getElem?_cons_zero]; rfl)) (fun K hK => ?_) AllReadyF.nil
      go_simp
      have k14 := k13.alloc (Obj.cells #[.slice (some ⟨Z.heap.size, 0, none⟩) L L] 114)
      have k24 := k23.alloc (Obj.cells #[.slice (some ⟨Z.heap.size, 0, none⟩) L L] 114)
      have ot4 := ot3.alloc (Obj.cells #[.slice (some ⟨Z.heap.size, 0, none⟩) L L] 114)
      have hb4 := hb3.alloc (by omega) (Obj.cells #[.slice (some ⟨Z.heap.size, 0, none⟩) L L] 114)
      have o4 := o3.alloc (Obj.cells #[.slice (some ⟨Z.heap.size, 0, none⟩) L L] 114)
      have orow := ot4.row
      rw [List.length_replicate] at orow
      have hzz : (w3.alloc (Obj.cells #[.slice (some ⟨Z.heap.size, 0, none⟩) L L] 114)).heap.size = w3.heap.size + 1 := by simp
      refine hK.out _ _ ⟨trivial, ((k24.cell 0).trans rfl)⟩ (fun hNew => ?_)
      clear hK K hHeld
      have hHeld := hNew
      clear hNew
      try simp only [Act.put, List.setIfInBounds_toArray, List.set_cons_zero, List.set_cons_succ]
      clear k13 k23 ot3 hb3 o3 o3'
      refine wpAnyF_ready (rs := [5]) (by kernel_rfl) (by simp) ?_
      refine AllReadyF.last (by (simp only [List.getElem?_toArray, List.getElem?_cons_succ, List.getElem?_cons_zero]; rfl)) (by kernel_rfl) (fun K hK => ?_) AllReadyF.nil
      refine step_append_at _ (by rfl) (.tmp 14) (.tmp 17) 32 (by rfl) (q + 1 + 1) 114 j0 (.slice none 0 0) 1 24 Tryz.underlying32 hj hy0 hy1 hy2 rfl (by decide) (.slice Ao k co) k us (by rfl) orow ⟨w3.heap.size, 0, none⟩ 1 1 [.slice (some ⟨Z.heap.size, 0, none⟩) L L] (by rfl) rfl (cells_one1 _ _ _) (by intro u hu; rw [List.mem_singleton] at hu; rw [hu]; rfl) (by unfold maxLen; omega) (by omega) (by omega) ?_
      intro v5 w5 o5 g5 hat5
      have hP := ot4.push (es := List.replicate L lnZ) (by rw [List.length_replicate]; exact o4) hf3 (by rw [List.length_replicate]; exact o5) g5 hat5
      rw [← List.replicate_succ'] at hP
      have k25 := k24.grown g5 (fun e => by have := orow.lt _ e.symm; omega)
      have k15 := k14.grown g5 (fun e => by have := orow.lt _ e.symm; omega)
      have hb5 := hb4.trans (grown_below (B := q) orow g5 (by omega) (by omega))
      obtain ⟨A5, c5, hv5⟩ := own_shape o5
      subst hv5
      have f5 := k25.frozen 0
      have e5 := (k25.cell 0).trans (rfl : _ = some (Value.slice Ao k co))
      have H5 := hide (show OwnTLine (w5.setCell ⟨q + 1, 0, none⟩ (.slice A5 (k + 1) c5)) (q + 1 + 1) (.slice A5 (k + 1) c5) (List.replicate (k + 1) (List.replicate L lnZ)) (us ++ [.slice (some ⟨Z.heap.size, 0, none⟩) L L]) ∧ Bk (w5.setCell ⟨q + 1, 0, none⟩ (.slice A5 (k + 1) c5)) q #[.slice none 0 0, .slice none 0 0] 35 ∧ Bk (w5.setCell ⟨q + 1, 0, none⟩ (.slice A5 (k + 1) c5)) (q + 1) #[.slice A5 (k + 1) c5, .slice none 0 0] 35 ∧ Below q w (w5.setCell ⟨q + 1, 0, none⟩ (.slice A5 (k + 1) c5)) from ⟨hP.set7 (by omega) _, k15.far (p := ⟨q + 1, 0, none⟩) (by simp only; omega) _, by have := k25.set_ 0 (.slice A5 (k + 1) c5); simpa using this, hb5.setCell (by simp only; omega) _⟩)
      clear o5 g5 hat5 hP k25 k15 hb5 k14 k24 ot4 hb4 o4
      refine hK.out _ _ trivial ?_
      clear hK K
      try simp only [Act.put, List.setIfInBounds_toArray, List.set_cons_zero, List.set_cons_succ]
      refine wpAnyF_take (i := 6) (v := ?_) (by (simp only [List.getElem?_toArray, List.getElem?_cons_succ, List.getElem?_cons_zero]; rfl)) (by kernel_rfl) (by kernel_rfl) (by kernel_rfl) (by decide) (by exact fun _ _ _ h => h) ⟨trivial, .inl (by kernel_rfl)⟩ (Or.inl ⟨by rfl, ?_⟩) ?_
      rotate_left
      · (intro w' _; go_simp <;> with_reducible rfl)
      try simp only [Act.put, List.setIfInBounds_toArray, List.set_cons_zero, List.set_cons_succ]
      refine wpAnyF_ready (rs := [7]) (by kernel_rfl) (by simp) ?_
      refine AllReadyF.last (by (simp only [List.getElem?_toArray, List.getElem?_cons_succ, List.getElem?_cons_zero]; rfl)) (by kernel_rfl) (fun K hK => ?_) AllReadyF.nil
      go_simp
      refine hK.out _ _ trivial ?_
      clear hK K
      try simp only [Act.put, List.setIfInBounds_toArray, List.set_cons_zero, List.set_cons_succ]
      refine wpAnyF_done (by kernel_rfl) ?_ _
      go_wp2
      go_roundw
      case rel => exact ⟨k + 1, _, _, by omega, by go_num, H5.out⟩
      case measure => simp [intOf]; omega
    · obtain rfl : k = n := by omega
      have orow := ot.row
      rw [List.length_replicate] at orow
      obtain ⟨Ao, co, rfl⟩ := own_shape orow
      have y0 := (k2.cell 0).trans (rfl : _ = some (Value.slice Ao k co))
      have y1 := (k2.cell 1).trans (rfl : _ = some (Value.slice none 0 0))
      have z0 := (k1.cell 0).trans (rfl : _ = some (Value.slice none 0 0))
      have z1 := (k1.cell 1).trans (rfl : _ = some (Value.slice none 0 0))
      have f0 := k1.frozen 0
      have f1 := k1.frozen 1
      have HOT := hide ot
      have HB := hide hb
      clear ot hb k1 k2 orow
      go_wp2
      refine bodyPost_ret (v := macV Ao k co none 0 0) (by simp [results, Tryz.results46, go_sem, z0, z1]) rfl ?_
      rw [← HQ.out]
      refine ⟨Ao, co, us, rfl, ⟨?_, World.ownsRow_nil _ _ _ _, fun b e => by cases e⟩, (HB.out.setCell (Nat.le_refl _) _).setCell (Nat.le_refl _) _⟩
      exact ((HOT.out.set7 (by omega) _).set7 (by omega) _).mono (by omega)
end Go.Proofs.YtnnfkmjhaljplaaGreat
namespace Go.Proofs.YtnnfkmjhaljplaaGreat
open Go.RowKit
/-- What Simulate tells, as mathematics. -/
def simR (t : List (List Ev)) (L : Int) (picks : List Int) : Int × List Stp × Mac := if simC t L picks = 0 then (0, simL t L picks) else (simC t L picks, [], ⟨[], []⟩)
theorem simR_ok {t : List (List Ev)} {L : Int} {picks : List Int} (h : simC t L picks = 0) : simR t L picks = (0, simL t L picks) := if_pos h
theorem simR_no {t : List (List Ev)} {L : Int} {picks : List Int} (h : ¬ simC t L picks = 0) : simR t L picks = (simC t L picks, [], ⟨[], []⟩) := if_neg h
theorem simC_p {t : List (List Ev)} {L : Int} {picks : List Int} (h : ¬ pgF t = 0) : simC t L picks = pgF t := if_neg h
theorem simC_l {t : List (List Ev)} {L : Int} {picks : List Int} (h : pgF t = 0) (h2 : ¬ (1 ≤ L ∧ L ≤ 4)) : simC t L picks = 3 := by unfold simC; rw [if_pos h, if_neg h2]
theorem simC_k {t : List (List Ev)} {L : Int} {picks : List Int} (h : pgF t = 0) (h2 : 1 ≤ L ∧ L ≤ 4) (h3 : ¬ picks.length ≤ 100) : simC t L picks = 2 := by unfold simC; rw [if_pos h, if_pos h2, if_neg h3]
def SimPost (r : Int × List Stp × Mac) (w : World) (e : Ending) (w' : World) : Prop :=
  ∃ B cb A c A' c' us, e = .returned (siV r.1 B r.2.1.length cb A r.2.2.cs.length c A' r.2.2.mem.length c') ∧ w'.ownsRow w.heap.size 66 4 (.slice B r.2.1.length cb) r.2.1.length (stps r.2.1) ∧ OwnMac w' w.heap.size (.slice A r.2.2.cs.length c) (.slice A' r.2.2.mem.length c') r.2.2 us ∧
    (∀ b, (Value.slice B r.2.1.length cb).ownBlock = some b → (Value.slice A r.2.2.cs.length c).ownBlock ≠ some b ∧ (Value.slice A' r.2.2.mem.length c').ownBlock ≠ some b ∧ ∀ u ∈ us, u.ownBlock ≠ some b) ∧ Below w.heap.size w w'
theorem OwnMac.allB {w : World} {base : Nat} {v v' : Value} {m : Mac} {us : List Value} (h : OwnMac w base v v' m us) : ∀ u ∈ v :: v' :: us, ∀ b, u.ownBlock = some b → base ≤ b ∧ b < w.heap.size := fun u hu b hb => by
  rcases List.mem_cons.1 hu with rfl | hu
  · exact h.cs.row.lt b hb
  · rcases List.mem_cons.1 hu with rfl | hu
    · exact h.mem.lt b hb
    · obtain ⟨i, hi⟩ := List.getElem?_of_mem hu
      obtain ⟨_, h1, _⟩ := h.cs.at_ hi
      exact h1.lt b hb
theorem stps_setV (l : List Stp) (k : Nat) (v : Int) (hk : k < l.length) : (stps l).set (k * 4 + 3) (.int .i64 v) = stps (l.set k ⟨l[k].c, ⟨l[k].e.k, l[k].e.a, v⟩⟩) := by
  induction l generalizing k with
  | nil => simp at hk
  | cons y r ih =>
    rcases k with _ | k
    · rfl
    · have := ih k (by simpa using hk)
      rw [show (k + 1) * 4 + 3 = k * 4 + 3 + 1 + 1 + 1 + 1 by omega]
      simp only [stps, List.set_cons_succ, List.getElem_cons_succ]
      rw [this]
/-- The log when i ops are done. -/
def logI (m : Mac) (l : List Stp) (i : Nat) : List Stp := (runL m (l.take i)).1 ++ l.drop i
theorem logI_zero (m : Mac) (l : List Stp) : logI m l 0 = l := by simp [logI, runL]
theorem logI_all (m : Mac) (l : List Stp) : logI m l l.length = (runL m l).1 := by simp [logI]
theorem logI_length (m : Mac) (l : List Stp) {i : Nat} (hi : i ≤ l.length) : (logI m l i).length = l.length := by
  unfold logI
  rw [List.length_append, run_len, List.length_take, List.length_drop]
  omega
theorem logI_get (m : Mac) (l : List Stp) {i j : Nat} (hi : i ≤ j) (hj : j < l.length) (h : j < (logI m l i).length) : (logI m l i)[j] = l[j] := by
  have hl : (runL m (l.take i)).1.length = i := by rw [run_len, List.length_take]; omega
  have e : (logI m l i)[j]? = l[j]? := by
    unfold logI
    rw [List.getElem?_append_right (by omega), hl, List.getElem?_drop]
    congr 1
    omega
  rw [List.getElem?_eq_getElem h, List.getElem?_eq_getElem hj] at e
  exact Option.some.inj e
theorem take_st {l : List Stp} {i : Nat} (hi : i < l.length) : l.take (i + 1) = l.take i ++ [l[i]] := List.take_succ_eq_append_getElem hi
theorem logI_step (m : Mac) (l : List Stp) {i : Nat} (hi : i < l.length) : (logI m l i).set i ⟨l[i].c, ⟨l[i].e.k, l[i].e.a, (doM (runL m (l.take i)).2 l[i].c.toNat l[i].e).2⟩⟩ = logI m l (i + 1) := by
  have hl : (runL m (l.take i)).1.length = i := by rw [run_len, List.length_take]; omega
  unfold logI
  rw [take_st hi, runL_snoc, List.set_append_right _ _ (by omega), hl, Nat.sub_self, List.append_assoc]
  congr 1
  rw [List.drop_eq_getElem_cons hi]
  rfl
theorem mac_step (m : Mac) (l : List Stp) {i : Nat} (hi : i < l.length) : (runL m (l.take (i + 1))).2 = (doM (runL m (l.take i)).2 l[i].c.toNat l[i].e).1 := by rw [take_st hi, runL_snoc]
/-- Where the program stands in a simulation. -/
structure SimAt (w0 w : World) (q b9 b10 base1 base2 gv c pm : Nat) (LA : Option Addr) (cL n : Nat) (X : List Stp) (m : Mac) (vm : Value) (us : List Value) : Prop where
  res : Bk w q #[.int .i64 0, .slice none 0 0, .slice none 0 0, .slice none 0 0] 37
  box9 : Bk w b9 #[.int .i64 0, .slice LA n cL] 75
  box10 : Bk w b10 #[.slice (some ⟨gv, 0, none⟩) m.cs.length c, .pointer (some ⟨pm, 0, none⟩)] 81
  log : w.ownsRow base1 66 4 (.slice LA n cL) n (stps X)
  bus : Bus w base2 gv c pm m vm us
  nums : q < base1 ∧ b9 < base2 ∧ (∀ b, (Value.slice LA n cL).ownBlock = some b → b < b9) ∧ q < b9 ∧ base2 ≤ b10
  b10n : ¬ BusS pm vm us b10
  old : Below q w0 w
section
variable {w0 w w' : World} {q b9 b10 base1 base2 gv c pm cL n : Nat} {LA : Option Addr} {X : List Stp} {m m' : Mac} {vm vm' : Value} {us : List Value}
theorem SimAt.below (h : SimAt w0 w q b9 b10 base1 base2 gv c pm LA cL n X m vm us) (hb : Below w.heap.size w w') : SimAt w0 w' q b9 b10 base1 base2 gv c pm LA cL n X m vm us :=
  ⟨h.res.kept hb, h.box9.kept hb, h.box10.kept hb, own_below h.log hb (Nat.le_refl _), h.bus.below hb, h.nums, h.b10n, h.old.trans (hb.mono (by have := h.res.lt; omega))⟩
theorem SimAt.did (h : SimAt w0 w q b9 b10 base1 base2 gv c pm LA cL n X m vm us) (hb : Bus w' base2 gv c pm m' vm' us) (mv : Moved vm vm' w) (bt : But (BusS pm vm us) w w') (hl : m'.cs.length = m.cs.length) : SimAt w0 w' q b9 b10 base1 base2 gv c pm LA cL n X m' vm' us := by
  have hnS : ∀ k, k < base2 → ¬ BusS pm vm us k := fun k hk e => by have := h.bus.low e; omega
  obtain ⟨n1, n2, n3, n4, n5⟩ := h.nums
  refine ⟨bt.bk h.res (hnS q (by omega)), bt.bk h.box9 (hnS b9 (by omega)), by rw [hl]; exact bt.bk h.box10 h.b10n, bt.own h.log (fun b e => hnS b (by have := n3 b e; omega)), hb, ⟨n1, n2, n3, n4, n5⟩, fun e => ?_, h.old.trans (bt.below (B := q) (by have := h.res.lt; omega) (fun x hx => by have := h.bus.low hx; omega))⟩
  rcases BusS.moved mv e with e2 | e2
  · exact h.b10n e2
  · have := h.box10.lt; omega
theorem SimAt.put {bL i : Nat} (h : SimAt w0 w q b9 b10 base1 base2 gv c pm (some ⟨bL, 0, none⟩) cL n X m vm us) (hi : i < X.length) (v : Int) :
    SimAt w0 (w.setCell ⟨bL, i * 4 + 3, none⟩ (.int .i64 v)) q b9 b10 base1 base2 gv c pm (some ⟨bL, 0, none⟩) cL n (X.set i ⟨X[i].c, ⟨X[i].e.k, X[i].e.a, v⟩⟩) m vm us := by
  obtain ⟨n1, n2, n3, n4, n5⟩ := h.nums
  have hbl := n3 bL rfl
  have hlo := (h.log.lt bL rfl).1
  have hnS : ∀ k, k < base2 → ¬ BusS pm vm us k := fun k hk e => by have := h.bus.low e; omega
  have hS := h.log.stored (i * 4 + 3) (.int .i64 v)
  rw [stps_setV X i v hi] at hS
  refine ⟨h.res.far (p := ⟨bL, i * 4 + 3, none⟩) (by simp only; omega) _, h.box9.far (p := ⟨bL, i * 4 + 3, none⟩) (by simp only; omega) _, h.box10.far (p := ⟨bL, i * 4 + 3, none⟩) (by simp only; omega) _, hS.1, ?_, ⟨n1, n2, n3, n4, n5⟩, h.b10n, h.old.setCell (by simp only; omega) _⟩
  have hb : But (fun x => x = bL) w (w.setCell ⟨bL, i * 4 + 3, none⟩ (.int .i64 v)) := (But.refl (fun x => x = bL) _).set_ rfl _ _
  exact h.bus.but hb fun k e => by
    subst e
    refine ⟨hnS k (by omega), fun e2 => ?_⟩
    have := h.bus.gv_lt
    omega
end
end Go.Proofs.YtnnfkmjhaljplaaGreat
