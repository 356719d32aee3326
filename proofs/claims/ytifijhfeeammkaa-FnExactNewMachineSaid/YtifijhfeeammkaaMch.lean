/- The contract of a bus's machine, in the program. -/
import Derived.Test.YtifijhfeeammkaaBusM
import Derived.Test.YtifijhfeeammkaaMacS
import Derived.Test.YtifijhfeeammkaaGApp
import Derived.OneCell
namespace Go.Proofs.Ytifijhfeeammkaa
open Go.RowKit

theorem cells_three (w : World) (x y z : Value) (T : TypeId) : ∀ j u, [x, y, z][j]? = some u → (w.alloc (.cells #[x, y, z] T)).cell? ((⟨w.heap.size, 0, none⟩ : Addr).add j) = some u := by
  intro j u hj
  rw [Go.WideShapes.add_plain, Nat.zero_add, (Bk.new w #[x, y, z] T).cell j]
  simpa using hj
theorem cells_one1 (w : World) (x : Value) (T : TypeId) : ∀ j u, [x][j]? = some u → (w.alloc (.cells #[x] T)).cell? ((⟨w.heap.size, 0, none⟩ : Addr).add j) = some u := by
  intro j u hj
  rw [Go.WideShapes.add_plain, Nat.zero_add, (Bk.new w #[x] T).cell j]
  simpa using hj
theorem ev_one (e : Ev) : evs [e] = [.int .i64 e.k, .int .i64 e.a, .int .i64 e.v] := rfl
theorem OwnTLine.freshL {w w2 : World} {base n : Nat} {v u : Value} {t : List (List Ev)} {us : List Value} {xs : List Value} (h : OwnTLine w base v t us) (hu : w2.ownsRow w.heap.size 115 3 u n xs) : ∀ b, u.ownBlock = some b → v.ownBlock ≠ some b ∧ ∀ (i : Nat) (u' : Value), us[i]? = some u' → u'.ownBlock ≠ some b := by
  intro b hb
  have h1 := hu.lt b hb
  refine ⟨fun e => by have := h.row.lt b e; omega, fun i u' hu' e => ?_⟩
  obtain ⟨_, h2, _⟩ := h.at_ hu'
  have := h2.lt b e
  omega

theorem OwnTLine.set7 {w : World} {base b i : Nat} {v : Value} {t : List (List Ev)} {us : List Value} (h : OwnTLine w base v t us) (hb : b < base) (x : Value) : OwnTLine (w.setCell ⟨b, i, none⟩ x) base v t us := h.kept (grown_set w b i x) (fun y e => by cases e; exact hb)
set_option maxRecDepth 100000 in
set_option maxHeartbeats 1600000 in
theorem busMachine_any {base gv c pm n L : Nat} {vm : Value} {us : List Value} {m : Mac} {w : World} (h : Bus w base gv c pm m vm us) (G : GoodM n L m) :
    Calls Try.prog 67 #[.agg #[.slice (some ⟨gv, 0, none⟩) n c, .pointer (some ⟨pm, 0, none⟩)]] w fun e w' => ∃ A c2 AM cM us2, vm = .slice AM m.mem.length cM ∧ e = .returned (macV A m.cs.length c2 AM m.mem.length cM) ∧ OwnMac w' base (.slice A m.cs.length c2) (.slice AM m.mem.length cM) m us2 ∧ Below w.heap.size w w' := by
  obtain ⟨i0, hi, hz0, hz1, hz2⟩ := info_parts info_line
  obtain ⟨j0, hj, hy0, hy1, hy2⟩ := info_parts info_lines
  have hL : 1 ≤ L ∧ L ≤ 1000 := by have := G.nL; omega
  have hn4 : n ≤ 4 := G.nL.2.1
  have hL4 : L ≤ 4 := G.nL.2.2.2
  have hn := G.shp.1
  obtain ⟨AM, cM, rfl⟩ := own_shape h.mem
  have hbase : base ≤ w.heap.size := by have := h.gv_lt; omega
  obtain ⟨W, hW⟩ : ∃ W, W = ((w.alloc (Obj.cells #[.slice (some ⟨gv, 0, none⟩) n c, .pointer (some ⟨pm, 0, none⟩)] 102)).alloc (Obj.cells #[.slice none 0 0, .slice none 0 0] 27)).alloc (Obj.cells #[.slice none 0 0, .slice AM m.mem.length cM] 27) := ⟨_, rfl⟩
  obtain ⟨k1, k2, k3, hz, B0⟩ := three_new _ _ _ _ _ _ _ W hW
  have hpm := h.cell.lt
  have pA := ((h.alloc (Obj.cells #[.slice (some ⟨gv, 0, none⟩) n c, .pointer (some ⟨pm, 0, none⟩)] 102)).alloc (Obj.cells #[.slice none 0 0, .slice none 0 0] 27)).cell.cell 0
  simp at pA
  have HB := hide h
  have q0 := (k1.cell 0).trans (rfl : _ = some (Value.slice (some ⟨gv, 0, none⟩) n c))
  have HW := hide hW
  clear hW k1
  go_enter Try.func67, Try.ntmps67
  go_upto_region 2 with fail
  rw [← HW.out]
  clear pA
  go_wp2
  clear q0
  have ot0 : OwnTLine W (w.heap.size + 1 + 1 + 1) (.slice none 0 0) (m.cs.take 0) [] := ⟨World.ownsRow_nil _ _ _ _, fun i hi => by simp at hi, fun i j u u' _ hu => by simp at hu⟩
  go_loopw [17] (fun s wr => ∃ (i : Nat) (vo : Value) (us2 : List Value), i ≤ n ∧ s = .int .i64 i ∧ OwnTLine wr (w.heap.size + 1 + 1 + 1) vo (m.cs.take i) us2 ∧ Bk wr (w.heap.size + 1) #[.slice none 0 0, .slice none 0 0] 27 ∧ Bk wr (w.heap.size + 1 + 1) #[vo, .slice AM m.mem.length cM] 27 ∧ Below w.heap.size w wr) (fun s _ => n - (intOf s).toNat)
  case atStart => exact ⟨0, _, _, Nat.zero_le _, rfl, ot0, k2, k3, B0⟩
  case round =>
    clear ot0 k2 k3 B0
    obtain ⟨i, vo, us2, hin, rfl, ot, k2, k3, hb⟩ := hrel
    obtain ⟨wo, hwo⟩ : ∃ x, x = wr := ⟨_, rfl⟩
    subst hwo
    have bI := HB.out.below hb
    by_cases hlt : i < n
    · obtain ⟨b, cu, hu, hLc, hcm, hbb, hbl, c0, c1, ho⟩ := bI.get G.shp (by omega) hlt
      have hi' : i < m.cs.length := by omega
      obtain ⟨l, hl⟩ : ∃ l, l = m.cs[i] := ⟨_, rfl⟩
      have hll : l.length = L := by rw [hl]; exact G.shp.2 _ (List.getElem_mem hi')
      have hln : ∀ k (hk : k < L), l[k]'(by omega) = ln m.cs i k := fun k hk => by subst hl; rw [ln_get m.cs i k hi' (by omega)]
      have HLN := hide hln
      have hT := fun hh : i < m.cs.length => (show m.cs.take (i + 1) = m.cs.take i ++ [l] by rw [List.take_succ_eq_append_getElem hh, ← hl])
      have HT := hide (hT hi')
      have HBI := hide bI
      have hwr := k3.lt
      have hcl : c = c := rfl
      clear hT hl hln ho bI hcl
      go_wp2
      have bW1 := (Below.refl wo.heap.size wo).alloc (Nat.le_refl _) (Obj.cells #[.slice (some ⟨b, 0, none⟩) L cu, .pointer (some ⟨pm, 0, none⟩)] 167)
      generalize wo.alloc (Obj.cells #[.slice (some ⟨b, 0, none⟩) L cu, .pointer (some ⟨pm, 0, none⟩)] 167) = W1 at *
      clear c0 c1
      go_loopw [6, 24] (fun vl s w2 => ∃ k : Nat, k ≤ L ∧ s = .int .i64 k ∧ w2.ownsRow wo.heap.size 115 3 vl k (evs (l.take k)) ∧ Below wo.heap.size wo w2) (fun _ s _ => L - (intOf s).toNat)
      case atStart => exact ⟨0, Nat.zero_le _, rfl, World.ownsRow_nil _ _ _ _, bW1⟩
      case round =>
        clear bW1
        obtain ⟨k, hkL, rfl, ov, hb2⟩ := hrel
        have hb2s := hb2.size
        by_cases hk : k < L
        · have lc := ((HBI.out.below hb2).line G.shp hlt hk hu).1
          have hkd := G.kind hlt hk
          have hkz := G.zero hlt hk
          have e1 := HLN.out k hk
          obtain ⟨X, hX⟩ : ∃ X, X = ln m.cs i k := ⟨_, rfl⟩
          rw [← hX] at lc hkd hkz e1
          have HTK := hide (show l.take (k + 1) = l.take k ++ [X] by rw [List.take_succ_eq_append_getElem (by omega), e1])
          have HX := hide (fun W => lineOf_any X W hkd hkz)
          clear hX e1 hkd hkz
          go_wp2_with fail
          refine (HX.out _).mono ?_
          rintro e w3 ⟨rfl, b3⟩
          have ov3 := own_below ov b3 (Nat.le_refl _)
          have hb3 := hb2.trans (b3.mono hb2s)
          have hb3s := hb3.size
          clear lc ov hb2 b3
          go_wp2_with (at_builtin; refine wpList_append_own_at _ rfl _ _ 112 rfl wo.heap.size 115 i0 (.agg #[.int .i64 0, .int .i64 0, .int .i64 0]) 3 24 Try.underlying112 hi hz0 hz1 hz2 rfl (by decide) _ _ _ rfl (ov3.alloc _) ⟨w3.heap.size, 0, none⟩ 1 1 (evs [X]) rfl rfl (cells_three _ _ _ _ _) (evs_one _) (by unfold maxLen; omega) (by omega) (by simp; omega) ?_; intro v' w4 hown' hgrow _ hat)
          have hb4 := (hb3.alloc hb3s (.cells #[.int .i64 X.k, .int .i64 X.a, .int .i64 X.v] 115)).trans (grown_below (ov3.alloc (.cells #[.int .i64 X.k, .int .i64 X.a, .int .i64 X.v] 115)) hgrow (by simp; omega) (Nat.le_refl _))
          rw [← evs_append, ← HTK.out] at hown'
          clear hgrow hat ov3
          go_roundw
          case rel => exact ⟨k + 1, by omega, by go_num, hown', hb4⟩
          case measure => simp [intOf]; omega
        · have hkl : k = L := by omega
          rw [hkl, List.take_of_length_le (by omega)] at ov
          have k2' := k2.below hb2 (by omega)
          have k3' := k3.below hb2 (by omega)
          have ot' := ot.below hb2
          have hb' := hb.trans (hb2.mono (by omega))
          have fr := ot.freshL ov
          have ov' := own_mono (base' := w.heap.size + 1 + 1 + 1) ov (by omega)
          obtain ⟨Av, cv, rfl⟩ := own_shape ov'
          have y0 := (k3'.cell 0).trans (rfl : _ = some vo)
          have f0 := k3'.frozen 0
          have hti : (m.cs.take i).length = i := by rw [List.length_take]; omega
          have orow := ot'.row
          rw [hti] at orow
          obtain ⟨Ao, co, rfl⟩ := own_shape orow
          have hk2a := k2'.lt
          have hk3a := k3'.lt
          have HTI := hide hti
          have HOT := hide ot'
          have HFR := hide fr
          clear ov k2 k3 ot hb hb2 hti ot' fr
          go_wp2_with (at_builtin; refine wpList_append_own_at _ rfl _ _ 24 rfl (w.heap.size + 1 + 1 + 1) 112 j0 (.slice none 0 0) 1 24 Try.underlying24 hj hy0 hy1 hy2 rfl (by decide) _ _ _ rfl (orow.alloc _) ⟨_, 0, none⟩ 1 1 [.slice Av L cv] rfl rfl (cells_one1 _ _ _) (by intro u hu; simp at hu; rw [hu]; rfl) (by unfold maxLen; omega) (by omega) (by simp; omega) ?_; intro v' w4 hown' hgrow _ hat; have k34 := (k3'.alloc (.cells #[.slice Av L cv] 112)).grown hgrow (fun e => by have := orow.lt _ e.symm; omega); have k24 := (k2'.alloc (.cells #[.slice Av L cv] 112)).grown hgrow (fun e => by have := orow.lt _ e.symm; omega); have y4 := (k34.cell 0).trans (rfl : _ = some (Value.slice Ao i co)); have f4 := k34.frozen 0; have hP := (HOT.out.alloc (.cells #[.slice Av L cv] 112)).push (es := l) (by rw [hll]; exact ov'.alloc _) HFR.out (by rw [HTI.out]; exact hown') hgrow hat; rw [← HT.out] at hP; have hb4 := (hb'.alloc hb'.size (.cells #[.slice Av L cv] 112)).trans (grown_below (orow.alloc (.cells #[.slice Av L cv] 112)) hgrow (by simp; omega) (by omega)); obtain ⟨A4, c4, rfl⟩ := own_shape hown'; have HH := hide (And.intro k24 (And.intro k34 (And.intro hP hb4))); clear hown' hgrow hat k34 k24 hP hb4)
          obtain ⟨k24, k34, hP, hb4⟩ := HH.out
          go_roundw
          case rel =>
            refine ⟨i + 1, _, _, by omega, by go_num, hP.set7 (b := w.heap.size + 1 + 1) (by omega) _, k24.far (p := ⟨w.heap.size + 1 + 1, 0, none⟩) (by simp) _, ?_, hb4.setCell (by simp only; omega) _⟩
            have := k34.set_ 0 (.slice A4 (i + 1) c4)
            simpa using this
          case measure => simp [intOf]; omega
    · have hie : i = n := by omega
      rw [hie, List.take_of_length_le (by omega)] at ot
      have hor := ot.row
      rw [hn] at hor
      obtain ⟨Ao, co, rfl⟩ := own_shape hor
      have y0 := (k3.cell 0).trans (rfl : _ = some (Value.slice Ao n co))
      have y1 := (k3.cell 1).trans (rfl : _ = some (Value.slice AM m.mem.length cM))
      have z0 := (k2.cell 0).trans (rfl : _ = some (Value.slice none 0 0))
      have z1 := (k2.cell 1).trans (rfl : _ = some (Value.slice none 0 0))
      have f0 := k2.frozen 0
      have f1 := k2.frozen 1
      have hk2l := k2.lt
      have hB := hide hb
      have HO := hide ot
      have HMm := hide bI.mem
      have HLo := hide (fun b (e : (Value.slice AM m.mem.length cM).ownBlock = some b) => (h.mem.lt b e).2)
      clear ot bI k2 k3 hb
      go_wp2
      refine bodyPost_ret (v := macV Ao n co AM m.mem.length cM) (by simp [results, Try.results67, go_sem, z0, z1]) rfl ?_
      refine ⟨Ao, co, AM, cM, us2, rfl, by rw [hn], ?_, (hB.out.setCell (by simp only; omega) _).setCell (by simp only; omega) _⟩
      rw [hn]
      refine ⟨((HO.out.set7 (b := w.heap.size + 1) (by omega) _).set7 (b := w.heap.size + 1) (by omega) _).mono (by omega), ?_, fun b e => ⟨fun e2 => ?_, fun u hu e2 => ?_⟩⟩
      · exact ownsRow_setCell_other (ownsRow_setCell_other HMm.out (fun e => by have := HLo.out _ e; simp only at this; omega) _) (fun e => by have := HLo.out _ e; simp only at this; omega) _
      · have h1 := HLo.out b e
        have h2 := HO.out.row.lt b e2
        omega
      · have h1 := HLo.out b e
        obtain ⟨j, hj⟩ := List.getElem?_of_mem hu
        obtain ⟨_, h2, _⟩ := HO.out.at_ hj
        have := h2.lt b e2
        omega
end Go.Proofs.Ytifijhfeeammkaa
