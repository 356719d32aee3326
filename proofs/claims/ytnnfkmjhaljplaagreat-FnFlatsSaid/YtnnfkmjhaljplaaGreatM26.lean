/- What the laws' walks rest upon, part 26. -/
import Derived.Test.YtnnfkmjhaljplaaGreatM25
import Derived.Test.YtnnfkmjhaljplaaGreatM19
import Derived.Test.YtnnfkmjhaljplaaGreatM18
import Derived.Test.YtnnfkmjhaljplaaGreatM17
import Derived.Test.YtnnfkmjhaljplaaGreatM07
namespace Go.Proofs.YtnnfkmjhaljplaaGreat
open Go.RowKit
/-- The rows when i of them are full. -/
def evT (N : Nat) (t : List (List Ev)) (i : Nat) : List (List Ev) := t.take i ++ List.replicate (N - i) []
theorem evT_zero (N : Nat) (t : List (List Ev)) : evT N t 0 = List.replicate N [] := by simp [evT]
theorem evT_all (t : List (List Ev)) : evT t.length t t.length = t := by simp [evT]
theorem evT_length {N i : Nat} {t : List (List Ev)} (h : t.length = N) (hi : i ≤ N) : (evT N t i).length = N := by simp [evT]; omega
theorem evT_none {N i : Nat} {t : List (List Ev)} (h : t.length = N) (hi : i < N) : (evT N t i).set i [] = evT N t i := by
  unfold evT
  rw [List.set_append_right _ _ (by simp; omega), show i - (t.take i).length = 0 by simp; omega, show N - i = (N - (i + 1)) + 1 by omega, List.replicate_succ]
  rfl
theorem evT_full {N i : Nat} {t : List (List Ev)} (h : t.length = N) (hi : i < t.length) : (evT N t i).set i t[i] = evT N t (i + 1) := by
  unfold evT
  rw [List.set_append_right _ _ (by simp; omega), show i - (t.take i).length = 0 by simp; omega, show N - i = (N - (i + 1)) + 1 by omega, List.replicate_succ, List.take_succ_eq_append_getElem hi, List.append_assoc]
  rfl
set_option maxRecDepth 100000 in
set_option maxHeartbeats 3200000 in
theorem eventsOf_any (t : List (List Ev)) (A : Option Addr) (c : Nat) (W : World) (h1 : 1 ≤ t.length) (h4 : t.length ≤ 4) (hall : ∀ l ∈ t, l.length ≤ 8) (hR : RdT W W.heap.size A t) :
    Calls Tryz.prog 29 #[.slice A t.length c] W fun e w' => ∃ g us, e = .returned (.slice (some ⟨g, 0, none⟩) t.length t.length) ∧ OwnT w' W.heap.size (.slice (some ⟨g, 0, none⟩) t.length t.length) t us ∧ Below W.heap.size W w' := by
  obtain ⟨i1, hj, hy0, hy1, hy2⟩ := info_parts info_events
  obtain ⟨i0, hi0, hz0, hz1, hz2⟩ := info_parts info_event
  obtain ⟨N, hN⟩ : ∃ N, N = t.length := ⟨_, rfl⟩
  rw [← hN] at h1 h4 ⊢
  have HN := hide hN.symm
  clear hN
  go_enter Tryz.func29, Tryz.ntmps29
  go_wp2_with (at_make; refine wpList_make_full _ rfl _ _ 39 rfl W.heap.size 88 i1 (.slice none 0 0) 1 Tryz.underlying39 hj hy0 hy1 .i64 .i64 _ _ N rfl rfl rfl rfl (by rw [hy2]; omega) (by unfold maxLen; omega) (Nat.le_refl _) ?_; intro w2 hown hg)
  rw [made_slices] at hown
  have oT := ownT_made hown
  rw [← evT_zero N t] at oT
  obtain ⟨gv, hgv⟩ : ∃ g, g = W.heap.size := ⟨_, rfl⟩
  obtain ⟨base, hbase⟩ : ∃ g, g = W.heap.size := ⟨_, rfl⟩
  have sp : SpAt W base gv N (evT N t 0) (List.replicate N (.slice none 0 0)) w2 := by
    rw [← hgv] at oT
    rw [hbase]
    exact ⟨by rw [← hgv] at *; exact oT, evT_length HN.out (Nat.zero_le _), (Below.refl _ _).grown hg (Nat.le_refl _) (fun k e => by cases e), Nat.le_refl _⟩
  have HGV := hide hgv
  clear hg hown oT hgv
  rw [← HGV.out]
  have HBASE := hide hbase
  clear hbase
  go_wp2_with fail
  go_loopw [13] (fun s wr => ∃ (i : Nat) (us : List Value), i ≤ N ∧ s = .int .i64 i ∧ SpAt W base gv N (evT N t i) us wr) (fun s _ => N - (intOf s).toNat)
  case atStart => exact ⟨0, _, Nat.zero_le _, rfl, sp⟩
  case round =>
    clear sp
    obtain ⟨i, us, hin, rfl, hs⟩ := hrel
    by_cases hlt : i < N
    · have hit : i < t.length := by rw [HN.out]; exact hlt
      obtain ⟨b, off, a, d, hA, hbb, hcw, hle, hcm, hrw⟩ := (hR.below hs.old).get hit
      subst hA
      obtain ⟨l, hld⟩ : ∃ l, l = t[i] := ⟨_, rfl⟩
      have hl8 : l.length ≤ 8 := by rw [hld]; exact hall _ (List.getElem_mem hit)
      have HE := hide (show (evT N t i).set i l = evT N t (i + 1) by rw [hld]; exact evT_full HN.out hit)
      obtain ⟨b0, off0, a0, d0, hA0, hbb0, hcw0, _, _, hrw0⟩ := hR.get hit
      have HRW := hide hrw0
      rw [← hld] at hcw HRW
      have hca : a0 = a := by
        have e1 := (hs.old.cell (p := ⟨b0, off0 + i, none⟩) hbb0).trans hcw0
        cases hA0
        rw [hcw, ← hld] at e1
        simp only [Option.some.injEq, Value.slice.injEq] at e1
        exact e1.1.symm
      subst hca
      have hs0 : SpAt W base gv N ((evT N t i).set i (l.take 0)) us wr := by rw [List.take_zero, evT_none HN.out hlt]; exact hs
      clear hld hle hcm hrw hs hcw0 hA0 hbb0 hrw0
      go_wp2_with fail
      clear hcw
      go_loopw [20] (fun s w2 => ∃ (k : Nat) (us : List Value), k ≤ l.length ∧ s = .int .i64 k ∧ SpAt W base gv N ((evT N t i).set i (l.take k)) us w2) (fun s _ => l.length - (intOf s).toNat)
      case atStart => exact ⟨0, _, Nat.zero_le _, rfl, hs0⟩
      case round =>
        clear hs0
        obtain ⟨k, us, hk, rfl, hs⟩ := hrel
        by_cases hkl : k < l.length
        · obtain ⟨tt, htt⟩ : ∃ tt, tt = (evT N t i).set i (l.take k) := ⟨_, rfl⟩
          rw [← htt] at hs
          have hit2 : i < tt.length := by rw [hs.len]; exact hlt
          have HL := hide (show tt[i] = l.take k by subst htt; rw [List.getElem_set_self])
          obtain ⟨x, hx⟩ : ∃ x, x = l[k] := ⟨_, rfl⟩
          have HT := hide (show tt.set i (l.take k ++ [x]) = (evT N t i).set i (l.take (k + 1)) by rw [htt, List.set_set, hx, List.take_succ_eq_append_getElem hkl])
          obtain ⟨b2, off2, hA2', hbb2, hc1, hc2, hc3⟩ := (HRW.out.below hs.old).get hkl
          subst hA2'
          rw [← hx] at hc1 hc2 hc3
          obtain ⟨ak, ck, hu, hown, hu3, hxk⟩ := hs.at_ hlt hit2
          obtain ⟨L, hL⟩ : ∃ L, L = tt[i] := ⟨_, rfl⟩
          rw [← hL] at hu hown hu3 hxk
          have hLk : L.length ≤ 8 := by rw [hL, HL.out, List.length_take]; omega
          rw [← HL.out, ← hL] at HT
          have hA2 : ¬ N ≤ i := by omega
          have hka : (0 : Int) ≤ (i : Int) := by omega
          have hkb : (i : Int) < (N : Int) := by omega
          have hgv := hs.hgv
          have hlo := hs.lo
          have hzW := hs.old.size
          have hLi : tt[i]? = some L := by rw [hL]; exact List.getElem?_eq_getElem hit2
          have hold : ∀ b, (Value.slice ak L.length ck).ownBlock = some b → base ≤ b ∧ b < wr.heap.size := fun b hb => hown.lt b hb
          clear hit2 HL hL hx hown hxk htt
          go_wp2_with fail
          generalize hwx : wr.alloc (Obj.cells #[.int .i64 x.k, .int .i64 x.a, .int .i64 x.v] 84) = wx
          obtain ⟨p, hp⟩ : ∃ p, p = wr.heap.size := ⟨_, rfl⟩
          rw [← hp] at hold hgv
          rw [← hp]
          have kp : Bk wx.drew p #[.int .i64 x.k, .int .i64 x.a, .int .i64 x.v] 84 := by rw [← hwx, hp]; exact Bk.new wr _ _
          have hsx : SpAt W base gv N tt us wx.drew := by rw [← hwx]; exact (hs.alloc _).drew
          have hgp : p ≠ gv := by omega
          clear hwx hp hs hc1 hc2 hc3
          have AC : ∀ w', Bk w' p #[.int .i64 x.k, .int .i64 x.a, .int .i64 x.v] 84 → w'.cell? ⟨p, 0, none⟩ = some (Value.int .i64 x.k) ∧ w'.cell? ⟨p, 1, none⟩ = some (Value.int .i64 x.a) ∧ w'.cell? ⟨p, 2, none⟩ = some (Value.int .i64 x.v) := fun w' h => ⟨(h.cell 0).trans rfl, (h.cell 1).trans rfl, (h.cell 2).trans rfl⟩
          have a0 := AC _ kp
          have s0 : wx.drew.cell? ⟨gv, i, none⟩ = some (.slice ak L.length ck) := (hsx.row5 hu (World.grownBy.refl _ _)).1
          obtain ⟨wy, hwy⟩ : ∃ wy, wy = wx.drew := ⟨_, rfl⟩
          rw [← hwy] at a0 s0 kp hsx
          have hs1 := hsx.alloc (.cells #[.int .i64 x.k, .int .i64 x.a, .int .i64 x.v] 64)
          have kp1 := kp.alloc (.cells #[.int .i64 x.k, .int .i64 x.a, .int .i64 x.v] 64)
          have a1 := AC _ kp1
          have s1 : (wy.alloc (.cells #[.int .i64 x.k, .int .i64 x.a, .int .i64 x.v] 64)).cell? ⟨gv, i, none⟩ = some (.slice ak L.length ck) := (hs1.row5 hu (World.grownBy.refl _ _)).1
          have hBl := RdE.one_new wy x 64
          have ho1 := hs1.at2 hu hLi
          have hzy : base ≤ (wy.alloc (.cells #[.int .i64 x.k, .int .i64 x.a, .int .i64 x.v] 64)).heap.size := by have := hs1.hgv; omega
          have hnp : some p ≠ (Value.slice ak L.length ck).ownBlock := fun e => by have := (hold p e.symm).2; omega
          subst hwy
          clear kp hsx
          refine wp_region_F 8 (fun w' => w'.cell? ⟨p, 0, none⟩ = some (Value.int .i64 x.k) ∧ w'.cell? ⟨p, 1, none⟩ = some (Value.int .i64 x.a) ∧ w'.cell? ⟨p, 2, none⟩ = some (Value.int .i64 x.v)) (fun w' => w'.cell? ⟨gv, i, none⟩ = some (Value.slice ak L.length ck)) (by kernel_rfl) ⟨a0, s0⟩ (fun hHeld => ?_)
          try simp only [Act.put, List.setIfInBounds_toArray, List.set_cons_zero, List.set_cons_succ]
          refine wpAnyF_take (i := 0) (v := ?_) (by (simp only [List.getElem?_toArray, List.getElem?_cons_zero]; rfl)) (by kernel_rfl) (by kernel_rfl) (by kernel_rfl) (by decide) (by exact fun _ _ _ h => h) ⟨hHeld.1, .inr hHeld.2⟩ (Or.inl ⟨by rfl, ?_⟩) ?_
          rotate_left
          · (intro w' _; go_simp <;> with_reducible rfl)
          try simp only [Act.put, List.setIfInBounds_toArray, List.set_cons_zero, List.set_cons_succ]
          refine wpAnyF_take (i := 1) (v := ?_) (by (simp only [List.getElem?_toArray, List.getElem?_cons_succ, List.getElem?_cons_zero]; rfl)) (by kernel_rfl) (by kernel_rfl) (by kernel_rfl) (by decide) (by exact fun _ _ _ h => h) ⟨hHeld.1, .inr hHeld.2⟩ (Or.inl ⟨by rfl, ?_⟩) ?_
          rotate_left
          · (intro w' _; go_simp <;> with_reducible rfl)
          try simp only [Act.put, List.setIfInBounds_toArray, List.set_cons_zero, List.set_cons_succ]
          refine wpAnyF_take (i := 2) (v := ?_) (by (simp only [List.getElem?_toArray, List.getElem?_cons_succ, List.getElem?_cons_zero]; rfl)) (by kernel_rfl) (by kernel_rfl) (by kernel_rfl) (by decide) (by exact fun _ _ _ h => h) ⟨hHeld.1, .inr hHeld.2⟩ (Or.inl ⟨by rfl, ?_⟩) ?_
          rotate_left
          · (intro w' _; go_simp <;> with_reducible rfl)
          try simp only [Act.put, List.setIfInBounds_toArray, List.set_cons_zero, List.set_cons_succ]
          refine wpAnyF_take (i := 3) (v := ?_) (by (simp only [List.getElem?_toArray, List.getElem?_cons_succ, List.getElem?_cons_zero]; rfl)) (by kernel_rfl) (by kernel_rfl) (by kernel_rfl) (by decide) (by exact fun _ _ _ h => h) ⟨hHeld.1, .inr hHeld.2⟩ (Or.inl ⟨by rfl, ?_⟩) ?_
          rotate_left
          · (intro w' _; go_simp <;> with_reducible rfl)
          try simp only [Act.put, List.setIfInBounds_toArray, List.set_cons_zero, List.set_cons_succ]
          refine wpAnyF_take (i := 4) (v := ?_) (by (simp only [List.getElem?_toArray, List.getElem?_cons_succ, List.getElem?_cons_zero]; rfl)) (by kernel_rfl) (by kernel_rfl) (by kernel_rfl) (by decide) (by exact fun _ _ _ h => h) ⟨hHeld.1, .inr hHeld.2⟩ (Or.inl ⟨by rfl, ?_⟩) ?_
          rotate_left
          · (intro w' _; go_simp <;> with_reducible rfl)
          try simp only [Act.put, List.setIfInBounds_toArray, List.set_cons_zero, List.set_cons_succ]
          refine wpAnyF_load (i := 5) (v := ?_) (by (simp only [List.getElem?_toArray, List.getElem?_cons_succ, List.getElem?_cons_zero]; rfl)) (by kernel_rfl) (by kernel_rfl) (by kernel_rfl) (by decide) (by exact fun _ _ _ h => h) hHeld (by kernel_rfl) (by kernel_rfl) (Or.inl ⟨by rfl, ?_⟩) ?_
          rotate_left
          · (intro w' hSw; (try dsimp only at hSw); obtain hSb0 := hSw; go_simp <;> with_reducible rfl)
          try simp only [Act.put, List.setIfInBounds_toArray, List.set_cons_zero, List.set_cons_succ]
          refine wpAnyF_keep (i := 6) (v := ?_) (by (simp only [List.getElem?_toArray, List.getElem?_cons_succ, List.getElem?_cons_zero]; rfl)) (by kernel_rfl) (by kernel_rfl) (by kernel_rfl) (by decide) (by exact fun _ _ _ h => h) ⟨hHeld.1, .inr hHeld.2⟩ (Or.inl ⟨by rfl, ?_⟩) ?_
          rotate_left
          · (intro w' hSw; (try dsimp only at hSw); obtain ⟨hSa0, hSa1, hSa2⟩ := hSw; go_simp <;> with_reducible rfl)
          try simp only [Act.put, List.setIfInBounds_toArray, List.set_cons_zero, List.set_cons_succ]
          refine wpAnyF_ready (rs := [7]) (by kernel_rfl) (by simp) ?_
          refine AllReadyF.cons (by (simp only [List.getElem?_toArray, List.getElem?_cons_succ, List.getElem?_cons_zero]; rfl)) (fun K hK => ?_) AllReadyF.nil
          go_simp
          refine hK.out _ _ ⟨a1, s1⟩ (fun hNew => ?_)
          clear hK K hHeld
          have hHeld := hNew
          clear hNew
          try simp only [Act.put, List.setIfInBounds_toArray, List.set_cons_zero, List.set_cons_succ]
          refine wpAnyF_ready (rs := [8]) (by kernel_rfl) (by simp) ?_
          refine AllReadyF.last (by (simp only [List.getElem?_toArray, List.getElem?_cons_succ, List.getElem?_cons_zero]; rfl)) (by kernel_rfl) (fun K hK => ?_) AllReadyF.nil
          refine step_append_re _ (by rfl) (.tmp 29) (.tmp 31) 88 (by rfl) base 64 i0 (.agg #[.int .i64 0, .int .i64 0, .int .i64 0]) 24 Tryz.underlying88 hi0 hz0 hz1 hz2 rfl (.slice ak L.length ck) L.length (evs L) (by rfl) ho1 (some ⟨wx.drew.heap.size, 0, none⟩) [x] 1 (wx.drew.heap.size + 1) (by rfl) hBl (by unfold maxLen; simp only [List.length_cons, List.length_nil]; omega) (by simp only [List.length_cons, List.length_nil]; omega) hzy ?_
          intro v5 w5 o5 g5 hat5
          simp only [List.length_cons, List.length_nil, Nat.zero_add] at o5
          rw [show evs L ++ evs [x] = evs (L ++ [x]) from (evs_append _ _).symm] at o5
          obtain ⟨D5, d5, hv5⟩ := own_shape o5
          subst hv5
          obtain ⟨hc5, hf5⟩ := hs1.row5 hu g5
          have H5 := hide (hs1.store (es' := L ++ [x]) hu g5 (by rw [List.length_append, List.length_singleton]; exact o5) hat5)
          have kp5 := kp1.grown g5 hnp
          have A5 := AC _ kp5
          have A6 := AC _ (kp5.far (p := ⟨gv, i, none⟩) hgp (.slice D5 (L.length + 1) d5))
          clear kp1 kp5
          clear o5 g5 hat5 ho1 hBl hs1
          refine hK.out _ _ A5 ?_
          clear hK K
          try simp only [Act.put, List.setIfInBounds_toArray, List.set_cons_zero, List.set_cons_succ]
          refine wpAnyF_take (i := 9) (v := ?_) (by (simp only [List.getElem?_toArray, List.getElem?_cons_succ, List.getElem?_cons_zero]; rfl)) (by kernel_rfl) (by kernel_rfl) (by kernel_rfl) (by decide) (by exact fun _ _ _ h => h) ⟨A5, .inl (by kernel_rfl)⟩ (Or.inl ⟨by rfl, ?_⟩) ?_
          rotate_left
          · (intro w' _; go_simp <;> with_reducible rfl)
          try simp only [Act.put, List.setIfInBounds_toArray, List.set_cons_zero, List.set_cons_succ]
          refine wpAnyF_ready (rs := [10]) (by kernel_rfl) (by simp) ?_
          refine AllReadyF.last (by (simp only [List.getElem?_toArray, List.getElem?_cons_succ, List.getElem?_cons_zero]; rfl)) (by kernel_rfl) (fun K hK => ?_) AllReadyF.nil
          go_simp
          refine hK.out _ _ A6 ?_
          clear hK K
          try simp only [Act.put, List.setIfInBounds_toArray, List.set_cons_zero, List.set_cons_succ]
          refine wpAnyF_done (by kernel_rfl) ?_ _
          have H6 := H5.out
          rw [HT.out] at H6
          have H7 := hide H6
          clear H6
          go_wp2
          go_roundw
          case rel => exact ⟨k + 1, _, by omega, by go_num, H7.out⟩
          case measure => simp [intOf]; omega
        · obtain rfl : k = l.length := by omega
          rw [List.take_length, HE.out] at hs
          go_wp2
          go_roundw
          case rel => exact ⟨i + 1, _, by omega, by go_num, hs⟩
          case measure => simp [intOf]; omega
    · obtain rfl : i = N := by omega
      have e9 : evT i t i = t := by have := evT_all t; rw [HN.out] at this; exact this
      rw [e9] at hs
      go_wp2
      go_ret
      refine ⟨gv, us, rfl, ?_, hs.old⟩
      have := hs.own
      rw [← HBASE.out]
      exact this
end Go.Proofs.YtnnfkmjhaljplaaGreat
