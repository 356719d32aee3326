/- What the laws' walks rest upon, part 32. -/
import Derived.Test.YtnnfkmjhaljplaaGreatDoorM31
import Derived.Test.YtnnfkmjhaljplaaGreatDoorM06
import Derived.Deep.Cut
namespace Go.Proofs.YtnnfkmjhaljplaaGreatDoor
open Go.RowKit
theorem set_same2 {α : Type} {l : List α} {i : Nat} {x : α} (h : l[i]? = some x) : l.set i x = l := by
  apply List.ext_getElem?
  intro j
  by_cases hj : i = j
  · subst hj
    rw [List.getElem?_set_self (by
      rcases Nat.lt_or_ge i l.length with a | a
      · exact a
      · rw [List.getElem?_eq_none a] at h; cases h), h]
  · rw [List.getElem?_set_ne hj]
theorem intR_prev {q : List Nat} {k : Nat} (hk : k < q.length) : ((intR (nextQ q k)).map (Value.int .i64)).set k (.int .i64 (q.getD k 0 : Nat)) = (intR q).map (Value.int .i64) := by
  unfold intR nextQ
  rw [List.map_set, List.map_set, List.set_set]
  apply set_same2
  rw [List.getElem?_map, List.getElem?_map, List.getElem?_eq_getElem hk, List.getD_eq_getElem?_getD, List.getElem?_eq_getElem hk]
  rfl
set_option maxRecDepth 100000 in
set_option maxHeartbeats 3200000 in
theorem find_any (t : List (List Ev)) (os : List Wls) (A A' : Option Addr) (c c' n0 b D G B : Nat) (w0 : World) (hj : JdgOk t os) (hT : RdT w0 n0 A t) (hO : RdW w0 n0 A' os) : ∀ (m : Nat) (X : List Bool) (q r : List Nat) (v : Value) (w : World), okQ t q → q.sum + m = evsT t → r.length = q.sum → DeadOk t os X → FAt t os A A' c c' n0 b D G B w0 X q r v w →
    Calls Tryz.prog 221 #[.pointer (some ⟨b, 0, none⟩), .slice (some ⟨G, 0, none⟩) t.length t.length] w (fun e w' => FndPost t os A A' c c' n0 b D G B w0 q r e w') := by
  unfold FndPost
  obtain ⟨i0, hi, hz0, hz1, hz2⟩ := info_parts info_i64
  have hev := evsT_few hj
  have ht4 := hj.few
  have HJ := hide hj
  have HT := hide hT
  have HO := hide hO
  clear hj hT hO
  intro m
  induction m with
  | zero =>
    intro X q r v w hq hm hr hD hF
    obtain ⟨Av, cv, hv⟩ := own_shape hF.row
    subst hv
    have q3 := (hF.box.cell 3).trans (rfl : _ = some (Value.slice Av r.length cv))
    have q4 := (hF.box.cell 4).trans (rfl : _ = some (Value.int .i64 (evsT t : Nat)))
    have g0 : ((r.length : Int) == ((evsT t : Nat) : Int)) = true := beq_iff_eq.2 (by omega)
    have HE := hide (on_end (t := t) (os := os) (q := q) (n := evsT t) (by omega))
    have HF := hide hF
    have HD := hide hD
    clear hF hD hq hm hr
    go_enter Tryz.func221, Tryz.ntmps221
    go_wp2
    go_quiet (fail)
    go_wp2
    go_ret
    refine ⟨X, q, .slice Av r.length cv, ret_bool (show true = (onW t os (evsT t) q).isSome by rw [HE.out]; rfl), HD.out, ?_, fun _ => rfl⟩
    rw [HE.out, Option.getD_some, List.append_nil]
    exact HF.out.below (below_drewN (Below.refl _ _) _)
  | succ m ih =>
    intro X q r v w hq hm hr hD hF
    obtain ⟨Av, cv, hv⟩ := own_shape hF.row
    subst hv
    have HJQ := hide hq
    have hkey := key_small HJ.out hq
    have hXl := hD.1
    obtain ⟨x, hx⟩ : ∃ x, X[keyW q 0]? = some x := ⟨_, List.getElem?_eq_getElem (by omega)⟩
    have q2 := (hF.box.cell 2).trans (rfl : _ = some (Value.slice (some ⟨D, 0, none⟩) 6561 6561))
    have q3 := (hF.box.cell 3).trans (rfl : _ = some (Value.slice Av r.length cv))
    have q4 := (hF.box.cell 4).trans (rfl : _ = some (Value.int .i64 (evsT t : Nat)))
    have q5 := hF.at_dead hkey hx
    have g0 : ((r.length : Int) == ((evsT t : Nat) : Int)) = false := beq_eq_false_iff_ne.2 (by omega)
    have KY := hide (fun V (hV : Rd .i64 V V.heap.size (some ⟨G, 0, none⟩) (intR q)) => l8Key_any q (some ⟨G, 0, none⟩) t.length V (by rw [hq.1]; exact ht4) (fun i => Nat.le_trans (hq.2 i) (HJ.out.len i)) hV)
    rw [hq.1] at KY
    have HRD := hide (Rd.of_own (k := .i64) hF.done)
    have HDX := hide (hD.2 q hq)
    have HM := hide hm
    have HR := hide hr
    have HF := hide hF
    have HD := hide hD
    have HXX := hide hx
    obtain ⟨K, hK⟩ : ∃ K, K = keyW q 0 := ⟨_, rfl⟩
    rw [← hK] at q5 KY hkey
    have HK := hide hK
    have k0 : (0 : Int) ≤ (K : Int) := by omega
    have k1 : (K : Int) < 6561 := by omega
    have k2 : ((K : Int)).toNat = K := by omega
    clear hF hD hq hm hr hx hXl hK
    cases x with
    | true =>
      go_enter Tryz.func221, Tryz.ntmps221
      go_wp2
      go_quiet (fail)
      go_wp2_with fail
      refine (KY.out _ (HRD.out.drewN _)).mono ?_
      rintro e V ⟨rfl, rfl⟩
      go_wp2
      go_ret
      have hn := HDX.out HXX.out
      refine ⟨X, q, .slice Av r.length cv, ret_bool (show false = (onW t os (evsT t) q).isSome by rw [hn]; rfl), HD.out, ?_, fun _ => rfl⟩
      rw [hn, Option.getD_none, List.append_nil]
      exact HF.out.below (below_drewN (Below.refl _ _) _)
    | false =>
      go_enter Tryz.func221, Tryz.ntmps221
      go_wp2
      go_quiet (fail)
      go_wp2_with fail
      refine (KY.out _ (HRD.out.drewN _)).mono ?_
      rintro e V ⟨rfl, rfl⟩
      clear KY HRD
      go_upto_region 7 with fail
      clear q2 q3 q4 q5 g0
      go_loopw [6] (fun i wr => ∃ (k : Nat) (X : List Bool) (v : Value), k ≤ t.length ∧ i = .int .i64 k ∧ FAt t os A A' c c' n0 b D G B w0 X q r v wr ∧ DeadOk t os X ∧ Hid (∀ d, d < k → shutC t os (evsT t) q d)) (fun i _ => t.length - (intOf i).toNat)
      case atStart => exact ⟨0, X, _, Nat.zero_le _, rfl, HF.out.below (below_drewN (Below.refl _ _) _), HD.out, hide fun d hd => absurd hd (Nat.not_lt_zero d)⟩
      case round =>
        obtain ⟨k, X1, v1, hk, rfl, hR, hX, HS⟩ := hrel
        clear HF HD HDX HXX
        obtain ⟨Av1, cv1, hv1⟩ := own_shape hR.row
        subst hv1
        have hHX := hide hX
        have q0 := (hR.box.cell 0).trans (rfl : _ = some (Value.slice A t.length c))
        have q1 := (hR.box.cell 1).trans (rfl : _ = some (Value.slice A' os.length c'))
        by_cases hlt : k < t.length
        · obtain ⟨rT, rO⟩ := hR.rows HT.out HO.out
          have CC := hide (fun V (hV : Below wr.heap.size wr V) => l8Can_any t os q k A A' (some ⟨G, 0, none⟩) c c' t.length V HJ.out HJQ.out hlt ((rT.below hV).lt) ((rO.below hV).lt) (Rd.of_own (k := .i64) (own_below hR.done hV (Nat.le_refl _))))
          obtain ⟨f, hf⟩ : ∃ f, f = canW t os q k := ⟨_, rfl⟩
          rw [← hf] at CC
          have HCF := hide hf
          have HRR := hide hR
          clear hf rT rO hX hR
          go_upto_region 9 with fail
          refine wp_region_F 99 (fun w' => w'.cell? ⟨b, 0, none⟩ = some (Value.slice A t.length c) ∧ w'.cell? ⟨b, 1, none⟩ = some (Value.slice A' os.length c') ∧ Below wr.heap.size wr w') (fun w' => True) (by kernel_rfl) ⟨⟨q0, q1, (Below.refl _ _).drew⟩, trivial⟩ (fun hHeld => ?_)
          try simp only [Act.put, List.setIfInBounds_toArray, List.set_cons_zero, List.set_cons_succ]
          refine wpAnyF_take (i := 0) (v := ?_) (by (simp only [List.getElem?_toArray, List.getElem?_cons_zero]; rfl)) (by kernel_rfl) (by kernel_rfl) (by kernel_rfl) (by decide) (by exact fun _ _ _ h => h) ⟨hHeld.1, .inr hHeld.2⟩ (Or.inl ⟨by rfl, ?_⟩) ?_
          rotate_left
          · (intro w' _; go_simp <;> with_reducible rfl)
          try simp only [Act.put, List.setIfInBounds_toArray, List.set_cons_zero, List.set_cons_succ]
          refine wpAnyF_take (i := 1) (v := ?_) (by (simp only [List.getElem?_toArray, List.getElem?_cons_succ, List.getElem?_cons_zero]; rfl)) (by kernel_rfl) (by kernel_rfl) (by kernel_rfl) (by decide) (by exact fun _ _ _ h => h) ⟨hHeld.1, .inr hHeld.2⟩ (Or.inl ⟨by rfl, ?_⟩) ?_
          rotate_left
          · (intro w' _; go_simp <;> with_reducible rfl)
          try simp only [Act.put, List.setIfInBounds_toArray, List.set_cons_zero, List.set_cons_succ]
          refine wpAnyF_take (i := 2) (v := ?_) (by (simp only [List.getElem?_toArray, List.getElem?_cons_succ, List.getElem?_cons_zero]; rfl)) (by kernel_rfl) (by kernel_rfl) (by kernel_rfl) (by decide) (by exact fun _ _ _ h => h) ⟨hHeld.1, .inr hHeld.2⟩ (Or.inl ⟨by rfl, ?_⟩) ?_
          rotate_left
          · (intro w' _; go_simp <;> with_reducible rfl)
          try simp only [Act.put, List.setIfInBounds_toArray, List.set_cons_zero, List.set_cons_succ]
          refine wpAnyF_keep (i := 3) (v := ?_) (by (simp only [List.getElem?_toArray, List.getElem?_cons_succ, List.getElem?_cons_zero]; rfl)) (by kernel_rfl) (by kernel_rfl) (by kernel_rfl) (by decide) (by exact fun _ _ _ h => h) ⟨hHeld.1, .inr hHeld.2⟩ (Or.inl ⟨by rfl, ?_⟩) ?_
          rotate_left
          · (intro w' hSw; (try dsimp only at hSw); obtain ⟨hSa0, hSa1, hSa2⟩ := hSw; go_simp <;> with_reducible rfl)
          try simp only [Act.put, List.setIfInBounds_toArray, List.set_cons_zero, List.set_cons_succ]
          refine wpAnyF_take (i := 4) (v := ?_) (by (simp only [List.getElem?_toArray, List.getElem?_cons_succ, List.getElem?_cons_zero]; rfl)) (by kernel_rfl) (by kernel_rfl) (by kernel_rfl) (by decide) (by exact fun _ _ _ h => h) ⟨hHeld.1, .inr hHeld.2⟩ (Or.inl ⟨by rfl, ?_⟩) ?_
          rotate_left
          · (intro w' _; go_simp <;> with_reducible rfl)
          try simp only [Act.put, List.setIfInBounds_toArray, List.set_cons_zero, List.set_cons_succ]
          refine wpAnyF_take (i := 5) (v := ?_) (by (simp only [List.getElem?_toArray, List.getElem?_cons_succ, List.getElem?_cons_zero]; rfl)) (by kernel_rfl) (by kernel_rfl) (by kernel_rfl) (by decide) (by exact fun _ _ _ h => h) ⟨hHeld.1, .inr hHeld.2⟩ (Or.inl ⟨by rfl, ?_⟩) ?_
          rotate_left
          · (intro w' _; go_simp <;> with_reducible rfl)
          try simp only [Act.put, List.setIfInBounds_toArray, List.set_cons_zero, List.set_cons_succ]
          refine wpAnyF_take (i := 6) (v := ?_) (by (simp only [List.getElem?_toArray, List.getElem?_cons_succ, List.getElem?_cons_zero]; rfl)) (by kernel_rfl) (by kernel_rfl) (by kernel_rfl) (by decide) (by exact fun _ _ _ h => h) ⟨hHeld.1, .inr hHeld.2⟩ (Or.inl ⟨by rfl, ?_⟩) ?_
          rotate_left
          · (intro w' _; go_simp <;> with_reducible rfl)
          try simp only [Act.put, List.setIfInBounds_toArray, List.set_cons_zero, List.set_cons_succ]
          refine wpAnyF_keep (i := 7) (v := ?_) (by (simp only [List.getElem?_toArray, List.getElem?_cons_succ, List.getElem?_cons_zero]; rfl)) (by kernel_rfl) (by kernel_rfl) (by kernel_rfl) (by decide) (by exact fun _ _ _ h => h) ⟨hHeld.1, .inr hHeld.2⟩ (Or.inl ⟨by rfl, ?_⟩) ?_
          rotate_left
          · (intro w' hSw; (try dsimp only at hSw); obtain ⟨hSa0, hSa1, hSa2⟩ := hSw; go_simp <;> with_reducible rfl)
          try simp only [Act.put, List.setIfInBounds_toArray, List.set_cons_zero, List.set_cons_succ]
          refine wpAnyF_take (i := 8) (v := ?_) (by (simp only [List.getElem?_toArray, List.getElem?_cons_succ, List.getElem?_cons_zero]; rfl)) (by kernel_rfl) (by kernel_rfl) (by kernel_rfl) (by decide) (by exact fun _ _ _ h => h) ⟨hHeld.1, .inr hHeld.2⟩ (Or.inl ⟨by rfl, ?_⟩) ?_
          rotate_left
          · (intro w' _; go_simp <;> with_reducible rfl)
          try simp only [Act.put, List.setIfInBounds_toArray, List.set_cons_zero, List.set_cons_succ]
          refine wpAnyF_take (i := 9) (v := ?_) (by (simp only [List.getElem?_toArray, List.getElem?_cons_succ, List.getElem?_cons_zero]; rfl)) (by kernel_rfl) (by kernel_rfl) (by kernel_rfl) (by decide) (by exact fun _ _ _ h => h) ⟨hHeld.1, .inr hHeld.2⟩ (Or.inl ⟨by rfl, ?_⟩) ?_
          rotate_left
          · (intro w' _; go_simp <;> with_reducible rfl)
          try simp only [Act.put, List.setIfInBounds_toArray, List.set_cons_zero, List.set_cons_succ]
          refine wpAnyF_ready (rs := [10]) (by kernel_rfl) (by simp) ?_
          refine AllReadyF.cons (by (simp only [List.getElem?_toArray, List.getElem?_cons_succ, List.getElem?_cons_zero]; rfl)) (fun K hK => ?_) AllReadyF.nil
          go_simp
          go_at_call 265
          refine (CC.out _ hHeld.1.2.2).mono ?_
          rintro e wa ⟨rfl, ba⟩
          refine hK.out _ _ ⟨⟨cell_kept ba hHeld.1.1, cell_kept ba hHeld.1.2.1, hHeld.1.2.2.trans (ba.mono hHeld.1.2.2.size)⟩, trivial⟩ (fun hNew => ?_)
          clear hK K hHeld
          have hHeld := hNew
          clear hNew
          try simp only [Act.put, List.setIfInBounds_toArray, List.set_cons_zero, List.set_cons_succ]
          refine wpAnyF_take (i := 11) (v := ?_) (by (simp only [List.getElem?_toArray, List.getElem?_cons_succ, List.getElem?_cons_zero]; rfl)) (by kernel_rfl) (by kernel_rfl) (by kernel_rfl) (by decide) (by exact fun _ _ _ h => h) ⟨hHeld.1, .inr hHeld.2⟩ (Or.inl ⟨by rfl, ?_⟩) ?_
          rotate_left
          · (intro w' _; go_simp <;> with_reducible rfl)
          try simp only [Act.put, List.setIfInBounds_toArray, List.set_cons_zero, List.set_cons_succ]
          refine wpAnyF_done (by kernel_rfl) ?_ _
          have hb : Below wr.heap.size wr wa := hHeld.1.2.2
          clear hHeld CC q0 q1 ba
          have hRa := HRR.out.below hb
          clear HRR
          cases f with
          | false =>
            have HR2 := hide hRa
            clear hRa hb
            go_wp2
            go_roundw
            case rel => exact ⟨k + 1, X1, _, by omega, by go_num, HR2.out, hHX.out, hide fun d hd => by
              by_cases hdk : d = k
              · subst hdk; intro hc; rw [← HCF.out] at hc; cases hc
              · exact HS.out d (by omega)⟩
            case measure => simp [intOf]; omega
          | true =>
            have hq := HJQ.out
            have hkq : k < q.length := by rw [hq.1]; exact hlt
            have hcq := hRa.at_done hq.1 hlt
            have hfq := hRa.done.frozenAt k
            have h8 : q.getD k 0 ≤ 8 := Nat.le_trans (hq.2 k) (HJ.out.len k)
            have HTU := hide (hRa.turn k (.int .i64 ((q.getD k 0 : Nat) + 1 : Int)) (intR_next q k))
            have HNQ := hide (okQ_next hq HCF.out.symm)
            have HNS := hide (nextQ_sum hkq)
            have HPV := hide (intR_prev hkq)
            obtain ⟨n, hn⟩ : ∃ n, n = q.getD k 0 := ⟨_, rfl⟩
            rw [← hn] at hcq h8 HTU HPV
            have HN := hide hn
            have hwr : IntKind.i64.wrap ((n : Int) + 1) = (n : Int) + 1 := by rw [IntKind.wrap_i64]; omega
            have hwr2 : IntKind.i64.wrap ((n : Int) + 1 - 1) = (n : Int) := by rw [IntKind.wrap_i64]; omega
            have hwr3 : IntKind.i64.wrap (n : Int) = (n : Int) := by rw [IntKind.wrap_i64]; omega
            have kk0 : (0 : Int) ≤ (k : Int) := by omega
            have kk1 : (k : Int) < (t.length : Int) := by omega
            have kk2 : ((k : Int)).toNat = k := by omega
            clear hn hq hkq hRa hb
            go_upto_region 11 with fail
            generalize wa.setCell ⟨G, k, none⟩ (.int .i64 ((n : Int) + 1)) = Y at *
            have hY := HTU.out
            have y3 := (hY.box.cell 3).trans (rfl : _ = some (Value.slice Av1 r.length cv1))
            have hrl : r.length ≤ 32 := by have := HR.out; have := HM.out; omega
            have hYa := hY.below ((Below.refl Y.heap.size Y).alloc (Nat.le_refl _) (Obj.cells #[.int .i64 (k : Nat)] 2))
            have hrow0 := hYa.row
            have hBl := Rd.one_new Y (k : Int) 2
            have a63 : r.length + [(k : Int)].length ≤ maxLen := by unfold maxLen; simp only [List.length_cons, List.length_nil]; omega
            have aby : (r.length + [(k : Int)].length) * 8 ≤ 140737488355328 := by simp only [List.length_cons, List.length_nil]; omega
            have abs : B ≤ (Y.alloc (Obj.cells #[.int .i64 (k : Nat)] 2)).heap.size := hYa.lo.2.2.2.2.2.2.1
            have neb := own_apart hrow0 b (.inl hYa.lo.2.2.2.1)
            clear HTU hcq hfq hY
            go_wp2_with (at_builtin; refine wpList_append_rd _ rfl _ _ 25 rfl B 2 i0 (.int .i64 0) 8 Tryz.underlying25 hi hz0 hz1 hz2 rfl .i64 _ _ _ rfl hrow0 (some ⟨Y.heap.size, 0, none⟩) [(k : Int)] 1 _ rfl hBl a63 aby abs ?_; intro v5 w5 o5 g5 hat5; obtain ⟨D5, d5, hv5⟩ := own_shape o5; replace hv5 : v5 = .slice D5 (r.length + 1) d5 := hv5; subst hv5; have hbx := hYa.box.grown g5 neb; have b3 := (hbx.cell 3).trans (rfl : _ = some (Value.slice Av1 r.length cv1)); have f3 := hbx.frozen 3; have HPU := hide (hYa.push (r' := r ++ [k]) (v' := .slice D5 (r.length + 1) d5) (by unfold intR at o5 ⊢; rw [List.length_append, List.map_append, List.map_append]; exact o5) g5); clear hbx o5 g5 hat5 hrow0 hBl hYa y3)
            generalize w5.setCell ⟨b, 3, none⟩ (.slice D5 (r.length + 1) d5) = Z at *
            have IH := ih X1 (nextQ q k) (r ++ [k]) (.slice D5 (r.length + 1) d5) Z HNQ.out (by have := HNS.out; have := HM.out; omega) (by have := HNS.out; have := HR.out; rw [List.length_append, List.length_singleton]; omega) hHX.out HPU.out
            clear HPU b3 f3 neb a63 aby abs
            go_wp2_with fail
            refine IH.mono ?_
            rintro e wf ⟨X2, q2, v2, rfl, hX2, hR2, hq2⟩
            clear IH
            have HX2 := hide hX2
            have HON := hide (fun s => on_some (s := s) HJQ.out (n := evsT t) (by have := HM.out; omega) HCF.out.symm HS.out)
            obtain ⟨O, hO⟩ : ∃ O, O = onW t os (evsT t) (nextQ q k) := ⟨_, rfl⟩
            rw [← hO] at hR2 hq2 HON ⊢
            have HOO := hide hO
            clear hO
            cases O with
            | some s =>
              have HR2 := hide hR2
              clear hR2 hq2 hX2
              go_wp2
              go_ret
              have hs := HON.out s rfl
              refine ⟨X2, q2, v2, ret_bool (show true = (onW t os (evsT t) q).isSome by rw [hs]; rfl), HX2.out, ?_, fun h => by rw [hs] at h; cases h⟩
              rw [hs, Option.getD_some]
              have := HR2.out
              rw [Option.getD_some, List.append_assoc] at this
              exact this
            | none =>
              obtain rfl := hq2 rfl
              rw [Option.getD_none, List.append_nil] at hR2
              obtain ⟨Av2, cv2, hv2⟩ := own_shape hR2.row
              subst hv2
              have hcap := own_capE hR2.row
              rw [List.length_append, List.length_singleton] at hR2 hcap
              have p3 := (hR2.box.cell 3).trans (rfl : _ = some (Value.slice Av2 (r.length + 1) cv2))
              have f3 := hR2.box.frozen 3
              have hR3 := hide hR2.pop
              have l0 : (0 : Int) ≤ (r.length : Int) := by omega
              have l1 : (r.length : Int) ≤ (cv2 : Int) := by omega
              have l2 : ((r.length : Int)).toNat = r.length := by omega
              have l3 : IntKind.i64.wrap (((r.length + 1 : Nat) : Int) - 1) = (r.length : Int) := by rw [IntKind.wrap_i64]; omega
              have l4 : IntKind.i64.wrap (r.length : Int) = (r.length : Int) := by rw [IntKind.wrap_i64]; omega
              clear hR2 hq2 hX2 HON
              go_upto_region 14 with fail
              have hkq2 : k < q.length := by rw [HJQ.out.1]; exact hlt
              have hn2 : (nextQ q k).getD k 0 = n + 1 := by rw [nextQ_get hkq2, if_pos rfl, HN.out]
              have e1 : ((n + 1 : Nat) : Int) = (n : Int) + 1 := by omega
              go_region
              have hR4 := hR3.out.below (Below.refl _ _).drew
              clear p3 f3 hR3
              generalize (wf.setCell ⟨b, 3, none⟩ (.slice Av2 r.length cv2)).drew = Y2 at *
              have hcq2 := hR4.at_done (by rw [nextQ_len]; exact HJQ.out.1) hlt
              rw [hn2, e1] at hcq2
              have hfq2 := hR4.done.frozenAt k
              have HT3 := hide (hR4.turn k (.int .i64 (n : Nat)) HPV.out)
              clear hR4 hn2 e1 hkq2
              go_wp2
              go_roundw
              case rel => exact ⟨k + 1, X2, _, by omega, by go_num, HT3.out, HX2.out, hide fun d hd => by
                by_cases hdk : d = k
                · subst hdk; exact fun _ => HOO.out.symm
                · exact HS.out d (by omega)⟩
              case measure => simp [intOf]; omega
        · obtain rfl : k = t.length := by omega
          have hn := on_none (n := evsT t) HJQ.out (by have := HM.out; omega) HS.out
          have HN := hide hn
          have q2 := (hR.box.cell 2).trans (rfl : _ = some (Value.slice (some ⟨D, 0, none⟩) 6561 6561))
          have hKX : K < X1.length := by have := hX.1; omega
          obtain ⟨x1, hx1⟩ : ∃ x1, X1[K]? = some x1 := ⟨_, List.getElem?_eq_getElem hKX⟩
          have q5 := hR.at_dead hkey hx1
          have f5 := hR.dead.frozenAt K
          have HDI := hide (hR.die K)
          have HDK := hide (DeadOk.die HJ.out hX HJQ.out hn)
          clear hR hX hn hx1 hKX hlt
          go_wp2
          go_ret
          refine ⟨X1.set K true, q, .slice Av1 r.length cv1, ret_bool (show false = (onW t os (evsT t) q).isSome by rw [HN.out]; rfl), by have := HDK.out; rw [← HK.out] at this; exact this, ?_, fun _ => rfl⟩
          rw [HN.out, Option.getD_none, List.append_nil]
          exact HDI.out
end Go.Proofs.YtnnfkmjhaljplaaGreatDoor
