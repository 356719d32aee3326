/- Contracts of the laws' own small functions. lwTrace at two equal answers. The bent traces' contract, as the walks ask it. The walk of the law of whole files. -/
import Derived.Test.YtldepledinolmaaDoorSame
import Derived.Test.YtldepledinolmaaDoorGSS
import Derived.Test.YtldepledinolmaaDoorGFr
import Derived.Test.YtldepledinolmaaDoorBent
import Derived.Test.YtldepledinolmaaDoorGAud
import Derived.Test.YtldepledinolmaaDoorGDrawF
import Derived.Deep.RegionHeld3
import Derived.Deep.DeepCutAuto
namespace Go.Proofs.YtldepledinolmaaDoor
open Go.RowKit

theorem lwBig_no (l : List Int) (A : Option Addr) (c : Nat) (w : World) (hl : l.length ≤ 1048576) :
    Calls Tryd.prog 6 #[.slice A l.length c] w fun e w' => e = .returned (.bool false) ∧ w = w' := by
  go_enter Tryd.func6, Tryd.ntmps6
  go_wp2
  go_ret
  exact ⟨ret_bool (by simp; omega), rfl⟩
theorem lwBig_yes (l : List Int) (A : Option Addr) (c : Nat) (w : World) (hl : ¬ l.length ≤ 1048576) (hm : l.length ≤ maxLen) :
    Calls Tryd.prog 6 #[.slice A l.length c] w fun e w' => e = .returned (.bool true) ∧ w = w' := by
  unfold maxLen at hm
  go_enter Tryd.func6, Tryd.ntmps6
  go_wp2
  go_ret
  exact ⟨ret_bool (by simp; omega), rfl⟩

/-- A number below n comes back; nothing but the count of draws has turned. -/
def AtPost (n : Int) (w : World) (e : Ending) (w' : World) : Prop := ∃ (r : Int) (k : Nat), e = .returned (.int .i64 r) ∧ 0 ≤ r ∧ (r < n ∨ n ≤ 1 ∧ r = 0) ∧ w' = w.drewN k
/-- A choice out of n that the bytes make; it only reads. -/
theorem lwAt_any (i : Nat) (n : Int) (l : List Int) (A : Option Addr) (c : Nat) (w : World) (hi : i ≤ 100) (hn : n ≤ 1000000) (h0 : 0 ≤ n) (hl : l.length ≤ 1048576) (hr : Rd .u8 w w.heap.size A l) (b8 : B8 l) :
    Calls Tryd.prog 13 #[.slice A l.length c, .int .i64 i, .int .i64 n] w (AtPost n w) := by
  by_cases h1 : n ≤ 1
  · go_enter Tryd.func13, Tryd.ntmps13
    go_wp2
    go_ret
    exact ⟨0, 0, rfl, by omega, .inr ⟨by omega, rfl⟩, rfl⟩
  · by_cases hl0 : l.length = 0
    · have e0 : ((l.length : Int) == 0) = true := by rw [hl0]; rfl
      clear hl0
      go_enter Tryd.func13, Tryd.ntmps13
      go_wp2
      go_ret
      exact ⟨(i * 7) % n, 0, rfl, Int.emod_nonneg _ (by omega), .inl (Int.emod_lt_of_pos _ (by omega)), rfl⟩
    · have e0 : ((l.length : Int) == 0) = false := beq_eq_false_iff_ne.2 (by omega)
      have i0 : i % l.length < l.length := Nat.mod_lt _ (by omega)
      have i1 : (i + 1) % l.length < l.length := Nat.mod_lt _ (by omega)
      obtain ⟨b, off, rfl, hbg, hc⟩ := hr.all (by omega)
      have c0 := hc _ i0
      have c1 := hc _ i1
      have r0 := b8.get _ i0
      have r1 := b8.get _ i1
      obtain ⟨x0, hx0⟩ : ∃ x, x = l[i % l.length] := ⟨_, rfl⟩
      obtain ⟨x1, hx1⟩ : ∃ x, x = l[(i + 1) % l.length] := ⟨_, rfl⟩
      rw [← hx0] at c0 r0
      rw [← hx1] at c1 r1
      clear hx0 hx1 hc
      have n1 : (((i : Int) + 1) % (l.length : Int)).toNat = (i + 1) % l.length := by
        have : ((i : Int) + 1) = ((i + 1 : Nat) : Int) := by omega
        rw [this, ← Int.natCast_emod, Int.toNat_natCast]
      have m1 := Int.emod_nonneg ((i : Int) + 1) (show (l.length : Int) ≠ 0 by omega)
      have l1 := Int.emod_lt_of_pos ((i : Int) + 1) (show (0 : Int) < (l.length : Int) by omega)
      have d0 : 0 ≤ (i : Int) / (l.length : Int) := Int.ediv_nonneg (by omega) (by omega)
      have d1 : (i : Int) / (l.length : Int) ≤ 1000 := Int.le_trans (Int.ediv_le_self _ (by omega)) (by omega)
      obtain ⟨D, hD⟩ : ∃ D, (i : Int) / (l.length : Int) = D := ⟨_, rfl⟩
      rw [hD] at d0 d1
      by_cases h200 : n ≤ 200
      · go_enter Tryd.func13, Tryd.ntmps13
        go_wp2
        go_quiet (fail)
        go_wp2
        go_ret
        exact ⟨(x0 + D * 3) % n, _, rfl, Int.emod_nonneg _ (by omega), .inl (Int.emod_lt_of_pos _ (by omega)), rfl⟩
      · go_enter Tryd.func13, Tryd.ntmps13
        go_wp2
        go_quiet (fail)
        go_wp2
        go_ret
        exact ⟨((x0 + D * 3) * 251 + x1) % n, _, rfl, Int.emod_nonneg _ (by omega), .inl (Int.emod_lt_of_pos _ (by omega)), rfl⟩
end Go.Proofs.YtldepledinolmaaDoor
namespace Go.Proofs.YtldepledinolmaaDoor
open Go.RowKit

end Go.Proofs.YtldepledinolmaaDoor
namespace Go.Proofs.YtldepledinolmaaDoor
open Go.RowKit
theorem bentK : BentOk := fun g k A c l w hS hk => l2Bent_any g k A c l w hS hk
end Go.Proofs.YtldepledinolmaaDoor
namespace Go.Proofs.YtldepledinolmaaDoor
open Go.RowKit

theorem field_bcode (a : Int) (D : Option Addr) (n d : Nat) (W : World) : (Instr.field 29 (.agg #[.int .i64 a, .slice D n d]) 0).run Tryd.prog W = .ok (.int .i64 a) W := by kernel_rfl
theorem below_dn2 {B : Nat} {w w' : World} (h : Below B w w') (n : Nat) : Below B w (w'.drewN n) := ⟨h.os, h.tape, h.output, h.size, h.block⟩
theorem lwAtW_any (i n : Nat) (l : List Int) (A : Option Addr) (c : Nat) (w : World) (h1 : i ≤ 100 ∧ 1 ≤ n ∧ n ≤ 1000000) (hl : l.length ≤ 1048576) (hr : Rd .u8 w w.heap.size A l) (b8 : B8 l) :
    Calls Tryd.prog 13 #[.slice A l.length c, .int .i64 i, .int .i64 n] w fun e w' => ∃ K : Nat, e = .returned (.int .i64 (K : Nat)) ∧ K < n ∧ Below w.heap.size w w' := by
  refine (lwAt_any i n l A c w (by omega) (by omega) (by omega) hl hr b8).mono ?_
  rintro e w' ⟨r, k, rfl, h0, h1, rfl⟩
  obtain ⟨K, rfl⟩ := Int.eq_ofNat_of_zero_le h0
  exact ⟨K, rfl, by omega, below_dn2 (Below.refl _ _) k⟩
theorem DrawIsWhole_any (l : List Int) (A : Option Addr) (c : Nat) (w : World) (hl : l.length ≤ 1048576) (hR : Rd .u8 w w.heap.size A l) (b8 : B8 l) :
    Calls Tryd.prog 7 #[.slice A l.length c] w (TrBPost w) := by
  go_enter Tryd.func7, Tryd.ntmps7
  go_wp2_with fail
  refine (DrawEncodeTrace_any bentK l A c w hl hR b8).mono ?_
  rintro e w1 ⟨t, b, D, d, rfl, h⟩
  go_wp2
  refine bodyPost_ret (v := .tuple #[.slice D t.length d, .int .i64 b]) (by simp [results, Tryd.results7, go_sem]) rfl ?_
  exact ⟨t, b, D, d, rfl, h⟩

set_option maxRecDepth 100000 in
set_option maxHeartbeats 4000000 in
theorem FnWholes_walk (l : List Int) (A : Option Addr) (c : Nat) (aN aS aE : Addr) (w : World) (hl : l.length ≤ maxLen) (h : Rd .u8 w w.heap.size A l) (b8 : B8 l) (hT : Tab w) (hS : Sent aN aS aE w) :
    Calls Tryd.prog 3 #[.slice A l.length c] w fun e w' => e = .returned (.bool true) ∧ Below w.heap.size w w' := by
  have HT := hide hT
  have HS := hide hS
  clear hT hS
  by_cases hL : l.length ≤ 1048576
  · clear hl
    go_enter Tryd.func3, Tryd.ntmps3
    go_wp2_with fail
    refine (lwBig_no l A c w hL).mono ?_
    rintro e w0 ⟨rfl, rfl⟩
    go_wp2_with fail
    refine (DrawIsWhole_any l A c w hL h b8).mono ?_
    rintro e w1 ⟨t, b, D1, d1, rfl, hb0, hb9, ht5, ht20, r1, B⟩
    have lt : t.length ≤ maxLen := by unfold maxLen; omega
    have IW := hide (fun W hW hT hS => implWhole_any t b D1 d1 aN aS aE W lt hW hT hS)
    have SW := hide (fun W hW => specWhole_any t b D1 d1 W lt hW)
    have IE := hide (fun W hW hT => implEnc_any t b D1 d1 W lt hW hT)
    have SE := hide (fun W hW => specEnc_any t b D1 d1 W lt hW)
    clear hb0 hb9 ht20 ht5
    by_cases h0 : fcC t b = 0
    · obtain ⟨e0, e1, e2⟩ := fcC_zero h0
      have hb1 : 1 ≤ b.toNat := by omega
      have hfew := filL_few hb1 e0
      have hb8 := filL_B8 hb1 e0
      have hdc : (dc (filL b.toNat t)).1 = 0 := by rw [dc_back e0 hb1]
      have h2 := (filL_start hb1 e0).choose_spec.choose_spec.2
      rw [h0, fcB_ok h0] at IE SE
      rw [h0] at IW SW
      obtain ⟨el, hF⟩ : ∃ F, F = filL b.toNat t := ⟨_, rfl⟩
      rw [← hF] at IE SE hfew hb8 hdc h2
      have HD := hide hdc
      have HE8 := hide hb8
      have ID := hide (fun (Z : Option Addr) (z : Nat) (K : Nat) (hK : K < el.length) (W : World) (hr : Rd .u8 W W.heap.size Z el) (hT : Tab W) (hS : Sent aN aS aE W) (hcap : el.length ≤ z) => (by have := implDec_any (el.take K) Z z aN aS aE W (by rw [take_len (by omega)]; omega) (by rw [take_len (by omega)]; omega) (hr.take K) (HE8.out.take K) hT hS; rw [take_len (by omega)] at this; exact this : Calls Tryd.prog 12 #[.slice Z K z] W (DtPost (dc (el.take K)) W)))
      clear h0 hF e0 e1 e2 hdc hb8 hb1 lt
      have R := h.below B
      have zB := B.size
      go_wp2_with fail
      refine (IW.out _ r1 (HT.out.below B) (HS.out.below B)).mono ?_
      rintro e w2 ⟨rfl, b2⟩
      have z_1 := Below.size b2
      replace r1 := (r1.below b2).lt
      replace R := R.below (b2.mono (by omega))
      replace B := B.trans (b2.mono B.size)
      clear b2
      go_wp2_with fail
      refine (IE.out _ r1 (HT.out.below B)).mono ?_
      rintro e w3 ⟨Ae, ce, rfl, o3, b3⟩
      have z_2 := Below.size b3
      replace r1 := (r1.below b3).lt
      replace R := R.below (b3.mono (by omega))
      replace B := B.trans (b3.mono B.size)
      clear b3
      have re := Rd.of_own (k := .u8) o3
      have ecap := (own_capE o3).1
      clear o3 IW IE
      have e_ := (Below.refl w3.heap.size w3).alloc (Nat.le_refl _) (Obj.cells #[Value.int .i64 0, .slice Ae el.length ce] 29)
      have zz_2 : (w3.alloc (Obj.cells #[Value.int .i64 0, .slice Ae el.length ce] 29)).heap.size = w3.heap.size + 1 := by simp
      have z_3 := Below.size e_
      replace r1 := (r1.below e_).lt
      replace R := R.below (e_.mono (by omega))
      replace B := B.trans (e_.mono B.size)
      replace re := (re.below e_).lt
      clear e_
      have k5 := Bk.new w3 #[Value.int .i64 0, .slice Ae el.length ce] 29
      have q0 := (k5.cell 0).trans (rfl : _ = some (Value.int .i64 0))
      have q1 := (k5.cell 1).trans (rfl : _ = some (Value.slice Ae el.length ce))
      have hfd := field_bcode 0
      go_upto_region 6 with fail
      generalize w3.alloc (Obj.cells #[Value.int .i64 0, .slice Ae el.length ce] 29) = V at *
      refine wp_region_F 99 (fun w' => w'.cell? ⟨w3.heap.size, 0, none⟩ = some (Value.int .i64 0) ∧ w'.cell? ⟨w3.heap.size, 1, none⟩ = some (Value.slice Ae el.length ce) ∧ Below V.heap.size V w') (fun w' => True) (by kernel_rfl) ⟨⟨q0, q1, (Below.refl _ _).drew⟩, trivial⟩ (fun hHeld => ?_)
      try simp only [Act.put, List.setIfInBounds_toArray, List.set_cons_zero, List.set_cons_succ]
      refine wpAnyF_take (i := 0) (v := ?_) (by (simp only [List.getElem?_toArray, List.getElem?_cons_zero]; rfl)) (by kernel_rfl) (by kernel_rfl) (by kernel_rfl) (by decide) (by exact fun _ _ _ h => h) ⟨hHeld.1, .inr hHeld.2⟩ (Or.inl ⟨by rfl, ?_⟩) ?_
      rotate_left
      · (intro w' _; go_simp <;> with_reducible rfl)
      try simp only [Act.put, List.setIfInBounds_toArray, List.set_cons_zero, List.set_cons_succ]
      refine wpAnyF_take (i := 1) (v := ?_) (by (simp only [List.getElem?_toArray, List.getElem?_cons_succ, List.getElem?_cons_zero]; rfl)) (by kernel_rfl) (by kernel_rfl) (by kernel_rfl) (by decide) (by exact fun _ _ _ h => h) ⟨hHeld.1, .inr hHeld.2⟩ (Or.inl ⟨by rfl, ?_⟩) ?_
      rotate_left
      · (intro w' _; go_simp <;> with_reducible rfl)
      try simp only [Act.put, List.setIfInBounds_toArray, List.set_cons_zero, List.set_cons_succ]
      refine wpAnyF_take (i := 2) (v := ?_) (by (simp only [List.getElem?_toArray, List.getElem?_cons_succ, List.getElem?_cons_zero]; rfl)) (by kernel_rfl) (by kernel_rfl) (by kernel_rfl) (by decide) (by exact fun _ _ _ h => h) ⟨hHeld.1, .inr hHeld.2⟩ (Or.inl ⟨by rfl, ?_⟩) ?_
      rotate_left
      · (intro w' _; go_simp <;> with_reducible rfl)
      try simp only [Act.put, List.setIfInBounds_toArray, List.set_cons_zero, List.set_cons_succ]
      refine wpAnyF_ready (rs := [3]) (by kernel_rfl) (by simp) ?_
      refine AllReadyF.cons (by (simp only [List.getElem?_toArray, List.getElem?_cons_succ, List.getElem?_cons_zero]; rfl)) (fun K hK => ?_) AllReadyF.nil
      go_simp
      go_at_call 10
      refine (SW.out _ (r1.below hHeld.1.2.2).lt).mono ?_
      rintro e wa ⟨rfl, ba⟩
      refine hK.out _ _ ⟨⟨cell_kept ba hHeld.1.1, cell_kept ba hHeld.1.2.1, hHeld.1.2.2.trans (ba.mono hHeld.1.2.2.size)⟩, trivial⟩ (fun hNew => ?_)
      clear hK K hHeld
      have hHeld := hNew
      clear hNew
      try simp only [Act.put, List.setIfInBounds_toArray, List.set_cons_zero, List.set_cons_succ]
      refine wpAnyF_take (i := 4) (v := ?_) (by (simp only [List.getElem?_toArray, List.getElem?_cons_succ, List.getElem?_cons_zero]; rfl)) (by kernel_rfl) (by kernel_rfl) (by kernel_rfl) (by decide) (by exact fun _ _ _ h => h) ⟨hHeld.1, .inr hHeld.2⟩ (Or.inl ⟨by rfl, ?_⟩) ?_
      rotate_left
      · (intro w' _; go_simp <;> with_reducible rfl)
      try simp only [Act.put, List.setIfInBounds_toArray, List.set_cons_zero, List.set_cons_succ]
      refine wpAnyF_take (i := 5) (v := ?_) (by (simp only [List.getElem?_toArray, List.getElem?_cons_succ, List.getElem?_cons_zero]; rfl)) (by kernel_rfl) (by kernel_rfl) (by kernel_rfl) (by decide) (by exact fun _ _ _ h => h) ⟨hHeld.1, .inr hHeld.2⟩ (Or.inl ⟨by rfl, ?_⟩) ?_
      rotate_left
      · (intro w' _; go_simp <;> with_reducible rfl)
      try simp only [Act.put, List.setIfInBounds_toArray, List.set_cons_zero, List.set_cons_succ]
      refine wpAnyF_take (i := 6) (v := ?_) (by (simp only [List.getElem?_toArray, List.getElem?_cons_succ, List.getElem?_cons_zero]; rfl)) (by kernel_rfl) (by kernel_rfl) (by kernel_rfl) (by decide) (by exact fun _ _ _ h => h) ⟨hHeld.1, .inr hHeld.2⟩ (Or.inl ⟨by rfl, ?_⟩) ?_
      rotate_left
      · (intro w' _; go_simp <;> with_reducible rfl)
      try simp only [Act.put, List.setIfInBounds_toArray, List.set_cons_zero, List.set_cons_succ]
      refine wpAnyF_keep (i := 7) (v := ?_) (by (simp only [List.getElem?_toArray, List.getElem?_cons_succ, List.getElem?_cons_zero]; rfl)) (by kernel_rfl) (by kernel_rfl) (by kernel_rfl) (by decide) (by exact fun _ _ _ h => h) ⟨hHeld.1, .inr hHeld.2⟩ (Or.inl ⟨by rfl, ?_⟩) ?_
      rotate_left
      · (intro w' hSw; (try dsimp only at hSw); obtain ⟨hSa0, hSa1, hSa2⟩ := hSw; go_simp <;> with_reducible rfl)
      try simp only [Act.put, List.setIfInBounds_toArray, List.set_cons_zero, List.set_cons_succ]
      refine wpAnyF_take (i := 8) (v := ?_) (by (simp only [List.getElem?_toArray, List.getElem?_cons_succ, List.getElem?_cons_zero]; rfl)) (by kernel_rfl) (by kernel_rfl) (by kernel_rfl) (by decide) (by exact fun _ _ _ h => h) ⟨hHeld.1, .inr hHeld.2⟩ (Or.inl ⟨by rfl, ?_⟩) ?_
      rotate_left
      · (intro w' _; go_simp <;> with_reducible rfl)
      try simp only [Act.put, List.setIfInBounds_toArray, List.set_cons_zero, List.set_cons_succ]
      refine wpAnyF_take (i := 9) (v := ?_) (by (simp only [List.getElem?_toArray, List.getElem?_cons_succ, List.getElem?_cons_zero]; rfl)) (by kernel_rfl) (by kernel_rfl) (by kernel_rfl) (by decide) (by exact fun _ _ _ h => h) ⟨hHeld.1, .inr hHeld.2⟩ (Or.inl ⟨by rfl, ?_⟩) ?_
      rotate_left
      · (intro w' _; go_simp <;> with_reducible rfl)
      try simp only [Act.put, List.setIfInBounds_toArray, List.set_cons_zero, List.set_cons_succ]
      refine wpAnyF_ready (rs := [10]) (by kernel_rfl) (by simp) ?_
      refine AllReadyF.cons (by (simp only [List.getElem?_toArray, List.getElem?_cons_succ, List.getElem?_cons_zero]; rfl)) (fun K hK => ?_) AllReadyF.nil
      go_simp
      go_at_call 11
      refine (SE.out _ (r1.below hHeld.1.2.2).lt).mono ?_
      rintro e wb ⟨Ab, cb, rfl, ob, bb⟩
      clear ob
      refine hK.out _ _ ⟨⟨cell_kept bb hHeld.1.1, cell_kept bb hHeld.1.2.1, hHeld.1.2.2.trans (bb.mono hHeld.1.2.2.size)⟩, trivial⟩ (fun hNew => ?_)
      clear hK K hHeld
      have hHeld := hNew
      clear hNew
      try simp only [Act.put, List.setIfInBounds_toArray, List.set_cons_zero, List.set_cons_succ]
      refine wpAnyF_take (i := 11) (v := ?_) (by (simp only [List.getElem?_toArray, List.getElem?_cons_succ, List.getElem?_cons_zero]; rfl)) (by kernel_rfl) (by kernel_rfl) (by kernel_rfl) (by decide) (by exact fun _ _ _ h => h) ⟨hHeld.1, .inr hHeld.2⟩ (Or.inl ⟨by rfl, ?_⟩) ?_
      rotate_left
      · (intro w' _; go_simp <;> with_reducible rfl)
      try simp only [Act.put, List.setIfInBounds_toArray, List.set_cons_zero, List.set_cons_succ]
      refine wpAnyF_take (i := 12) (v := ?_) (by (simp only [List.getElem?_toArray, List.getElem?_cons_succ, List.getElem?_cons_zero]; rfl)) (by kernel_rfl) (by kernel_rfl) (by kernel_rfl) (by decide) (by exact fun _ _ _ h => h) ⟨hHeld.1, .inr hHeld.2⟩ (Or.inl ⟨by rfl, ?_⟩) ?_
      rotate_left
      · (intro w' _; go_simp <;> with_reducible rfl)
      try simp only [Act.put, List.setIfInBounds_toArray, List.set_cons_zero, List.set_cons_succ]
      refine wpAnyF_take (i := 13) (v := ?_) (by (simp only [List.getElem?_toArray, List.getElem?_cons_succ, List.getElem?_cons_zero]; rfl)) (by kernel_rfl) (by kernel_rfl) (by kernel_rfl) (by decide) (by exact fun _ _ _ h => h) ⟨hHeld.1, .inr hHeld.2⟩ (Or.inl ⟨by rfl, ?_⟩) ?_
      rotate_left
      · (intro w' _; go_simp <;> with_reducible rfl)
      try simp only [Act.put, List.setIfInBounds_toArray, List.set_cons_zero, List.set_cons_succ]
      refine wpAnyF_take (i := 14) (v := ?_) (by (simp only [List.getElem?_toArray, List.getElem?_cons_succ, List.getElem?_cons_zero]; rfl)) (by kernel_rfl) (by kernel_rfl) (by kernel_rfl) (by decide) (by exact fun _ _ _ h => h) ⟨hHeld.1, .inr hHeld.2⟩ (Or.inl ⟨by rfl, ?_⟩) ?_
      rotate_left
      · (intro w' _; go_simp <;> with_reducible rfl)
      try simp only [Act.put, List.setIfInBounds_toArray, List.set_cons_zero, List.set_cons_succ]
      refine wpAnyF_take (i := 15) (v := ?_) (by (simp only [List.getElem?_toArray, List.getElem?_cons_succ, List.getElem?_cons_zero]; rfl)) (by kernel_rfl) (by kernel_rfl) (by kernel_rfl) (by decide) (by exact fun _ _ _ h => h) ⟨hHeld.1, .inr hHeld.2⟩ (Or.inl ⟨by rfl, ?_⟩) ?_
      rotate_left
      · (intro w' _; go_simp <;> with_reducible rfl)
      try simp only [Act.put, List.setIfInBounds_toArray, List.set_cons_zero, List.set_cons_succ]
      refine wpAnyF_take (i := 16) (v := ?_) (by (simp only [List.getElem?_toArray, List.getElem?_cons_succ, List.getElem?_cons_zero]; rfl)) (by kernel_rfl) (by kernel_rfl) (by kernel_rfl) (by decide) (by exact fun _ _ _ h => h) ⟨hHeld.1, .inr hHeld.2⟩ (Or.inl ⟨by rfl, ?_⟩) ?_
      rotate_left
      · (intro w' _; go_simp <;> with_reducible rfl)
      try simp only [Act.put, List.setIfInBounds_toArray, List.set_cons_zero, List.set_cons_succ]
      refine wpAnyF_keep (i := 17) (v := ?_) (by (simp only [List.getElem?_toArray, List.getElem?_cons_succ, List.getElem?_cons_zero]; rfl)) (by kernel_rfl) (by kernel_rfl) (by kernel_rfl) (by decide) (by exact fun _ _ _ h => h) ⟨hHeld.1, .inr hHeld.2⟩ (Or.inl ⟨by rfl, ?_⟩) ?_
      rotate_left
      · (intro w' hSw; (try dsimp only at hSw); obtain ⟨hSa0, hSa1, hSa2⟩ := hSw; go_simp <;> with_reducible rfl)
      try simp only [Act.put, List.setIfInBounds_toArray, List.set_cons_zero, List.set_cons_succ]
      refine wpAnyF_take (i := 18) (v := ?_) (by (simp only [List.getElem?_toArray, List.getElem?_cons_succ, List.getElem?_cons_zero]; rfl)) (by kernel_rfl) (by kernel_rfl) (by kernel_rfl) (by decide) (by exact fun _ _ _ h => h) ⟨hHeld.1, .inr hHeld.2⟩ (Or.inl ⟨by rfl, ?_⟩) ?_
      rotate_left
      · (intro w' _; go_simp <;> with_reducible rfl)
      try simp only [Act.put, List.setIfInBounds_toArray, List.set_cons_zero, List.set_cons_succ]
      refine wpAnyF_take (i := 19) (v := ?_) (by (simp only [List.getElem?_toArray, List.getElem?_cons_succ, List.getElem?_cons_zero]; rfl)) (by kernel_rfl) (by kernel_rfl) (by kernel_rfl) (by decide) (by exact fun _ _ _ h => h) ⟨hHeld.1, .inr hHeld.2⟩ (Or.inl ⟨by rfl, ?_⟩) ?_
      rotate_left
      · (intro w' _; go_simp <;> with_reducible rfl)
      try simp only [Act.put, List.setIfInBounds_toArray, List.set_cons_zero, List.set_cons_succ]
      refine wpAnyF_take (i := 20) (v := ?_) (by (simp only [List.getElem?_toArray, List.getElem?_cons_succ, List.getElem?_cons_zero]; rfl)) (by kernel_rfl) (by kernel_rfl) (by kernel_rfl) (by decide) (by exact fun _ _ _ h => h) ⟨hHeld.1, .inr hHeld.2⟩ (Or.inl ⟨by rfl, ?_⟩) ?_
      rotate_left
      · (intro w' _; go_simp <;> with_reducible rfl)
      try simp only [Act.put, List.setIfInBounds_toArray, List.set_cons_zero, List.set_cons_succ]
      refine wpAnyF_done (by kernel_rfl) ?_ _
      have hb6 := hHeld.1.2.2
      have k5' := hHeld.1
      clear hHeld hfd ba bb q0 q1
      obtain ⟨p0, p1, _⟩ := k5'
      have hel0 : ((el.length : Int) == 0) = false := beq_eq_false_iff_ne.2 (by omega)
      have z_4 := Below.size hb6
      replace r1 := (r1.below hb6).lt
      replace R := R.below (hb6.mono (by omega))
      replace B := B.trans (hb6.mono B.size)
      replace re := (re.below hb6).lt
      clear hb6
      go_upto_region 10 with fail
      refine wp_region_F 99 (fun w' => w'.cell? ⟨w3.heap.size, 1, none⟩ = some (Value.slice Ae el.length ce) ∧ Below wb.heap.size wb w') (fun w' => True) (by kernel_rfl) ⟨⟨p1, (Below.refl _ _).drew⟩, trivial⟩ (fun hHeld => ?_)
      try simp only [Act.put, List.setIfInBounds_toArray, List.set_cons_zero, List.set_cons_succ]
      refine wpAnyF_take (i := 0) (v := ?_) (by (simp only [List.getElem?_toArray, List.getElem?_cons_zero]; rfl)) (by kernel_rfl) (by kernel_rfl) (by kernel_rfl) (by decide) (by exact fun _ _ _ h => h) ⟨hHeld.1, .inr hHeld.2⟩ (Or.inl ⟨by rfl, ?_⟩) ?_
      rotate_left
      · (intro w' _; go_simp <;> with_reducible rfl)
      try simp only [Act.put, List.setIfInBounds_toArray, List.set_cons_zero, List.set_cons_succ]
      refine wpAnyF_keep (i := 1) (v := ?_) (by (simp only [List.getElem?_toArray, List.getElem?_cons_succ, List.getElem?_cons_zero]; rfl)) (by kernel_rfl) (by kernel_rfl) (by kernel_rfl) (by decide) (by exact fun _ _ _ h => h) ⟨hHeld.1, .inr hHeld.2⟩ (Or.inl ⟨by rfl, ?_⟩) ?_
      rotate_left
      · (intro w' hSw; (try dsimp only at hSw); obtain ⟨hSa0, hSa1⟩ := hSw; go_simp <;> with_reducible rfl)
      try simp only [Act.put, List.setIfInBounds_toArray, List.set_cons_zero, List.set_cons_succ]
      refine wpAnyF_take (i := 2) (v := ?_) (by (simp only [List.getElem?_toArray, List.getElem?_cons_succ, List.getElem?_cons_zero]; rfl)) (by kernel_rfl) (by kernel_rfl) (by kernel_rfl) (by decide) (by exact fun _ _ _ h => h) ⟨hHeld.1, .inr hHeld.2⟩ (Or.inl ⟨by rfl, ?_⟩) ?_
      rotate_left
      · (intro w' _; go_simp <;> with_reducible rfl)
      try simp only [Act.put, List.setIfInBounds_toArray, List.set_cons_zero, List.set_cons_succ]
      refine wpAnyF_take (i := 3) (v := ?_) (by (simp only [List.getElem?_toArray, List.getElem?_cons_succ, List.getElem?_cons_zero]; rfl)) (by kernel_rfl) (by kernel_rfl) (by kernel_rfl) (by decide) (by exact fun _ _ _ h => h) ⟨hHeld.1, .inr hHeld.2⟩ (Or.inl ⟨by rfl, ?_⟩) ?_
      rotate_left
      · (intro w' _; go_simp <;> with_reducible rfl)
      try simp only [Act.put, List.setIfInBounds_toArray, List.set_cons_zero, List.set_cons_succ]
      refine wpAnyF_keep (i := 4) (v := ?_) (by (simp only [List.getElem?_toArray, List.getElem?_cons_succ, List.getElem?_cons_zero]; rfl)) (by kernel_rfl) (by kernel_rfl) (by kernel_rfl) (by decide) (by exact fun _ _ _ h => h) ⟨hHeld.1, .inr hHeld.2⟩ (Or.inl ⟨by rfl, ?_⟩) ?_
      rotate_left
      · (intro w' hSw; (try dsimp only at hSw); obtain ⟨hSa0, hSa1⟩ := hSw; go_simp <;> with_reducible rfl)
      try simp only [Act.put, List.setIfInBounds_toArray, List.set_cons_zero, List.set_cons_succ]
      refine wpAnyF_take (i := 5) (v := ?_) (by (simp only [List.getElem?_toArray, List.getElem?_cons_succ, List.getElem?_cons_zero]; rfl)) (by kernel_rfl) (by kernel_rfl) (by kernel_rfl) (by decide) (by exact fun _ _ _ h => h) ⟨hHeld.1, .inr hHeld.2⟩ (Or.inl ⟨by rfl, ?_⟩) ?_
      rotate_left
      · (intro w' _; go_simp <;> with_reducible rfl)
      try simp only [Act.put, List.setIfInBounds_toArray, List.set_cons_zero, List.set_cons_succ]
      refine wpAnyF_ready (rs := [6]) (by kernel_rfl) (by simp) ?_
      refine AllReadyF.cons (by (simp only [List.getElem?_toArray, List.getElem?_cons_succ, List.getElem?_cons_zero]; rfl)) (fun K hK => ?_) AllReadyF.nil
      go_simp
      go_at_call 13
      refine (lwAtW_any 2 el.length l A c _ (by omega) hL ((R.below (hHeld.1.2.mono (by omega))).more (by have := hHeld.1.2.size; omega)) b8).mono ?_
      rintro e wc ⟨kx, rfl, hkx, bc⟩
      have hhd : ∀ w : World, (Instr.slice 22 (.slice Ae el.length ce) none (some (.int .i64 (kx : Nat))) none).run Tryd.prog w = .ok (.slice Ae kx ce) w := fun w => run_head Ae el.length kx ce kx w rfl (by omega)
      have hbad := cut_take HE8.out HD.out hkx
      obtain ⟨E, hE⟩ : ∃ E, E = (dc (el.take kx)).1 := ⟨_, rfl⟩
      rw [← hE] at hbad
      have hfe := field_trc E
      have hgE : (E != 0) = true := bne_iff_ne.2 hbad
      have HEE := hide hE
      clear hE hbad
      refine hK.out _ _ ⟨⟨cell_kept bc hHeld.1.1, hHeld.1.2.trans (bc.mono hHeld.1.2.size)⟩, trivial⟩ (fun hNew => ?_)
      clear hK K hHeld
      have hHeld := hNew
      clear hNew
      try simp only [Act.put, List.setIfInBounds_toArray, List.set_cons_zero, List.set_cons_succ]
      refine wpAnyF_take (i := 7) (v := ?_) (by (simp only [List.getElem?_toArray, List.getElem?_cons_succ, List.getElem?_cons_zero]; rfl)) (by kernel_rfl) (by kernel_rfl) (by kernel_rfl) (by decide) (by exact fun _ _ _ h => h) ⟨hHeld.1, .inr hHeld.2⟩ (Or.inl ⟨by rfl, ?_⟩) ?_
      rotate_left
      · (intro w' _; go_simp <;> with_reducible rfl)
      try simp only [Act.put, List.setIfInBounds_toArray, List.set_cons_zero, List.set_cons_succ]
      refine wpAnyF_ready (rs := [8]) (by kernel_rfl) (by simp) ?_
      refine AllReadyF.cons (by (simp only [List.getElem?_toArray, List.getElem?_cons_succ, List.getElem?_cons_zero]; rfl)) (fun K hK => ?_) AllReadyF.nil
      go_simp
      go_at_call 12
      have DT := ID.out Ae ce kx hkx _ ((re.below hHeld.1.2).lt) (HT.out.below (B.trans (hHeld.1.2.mono (by omega)))) (HS.out.below (B.trans (hHeld.1.2.mono (by omega)))) ecap
      unfold DtPost at DT
      rw [← HEE.out] at DT
      refine DT.mono ?_
      rintro e wd ⟨Ad, cd, ud, rfl, od, bd⟩
      clear od DT
      refine hK.out _ _ ⟨⟨cell_kept bd hHeld.1.1, hHeld.1.2.trans (bd.mono hHeld.1.2.size)⟩, trivial⟩ (fun hNew => ?_)
      clear hK K hHeld
      have hHeld := hNew
      clear hNew
      try simp only [Act.put, List.setIfInBounds_toArray, List.set_cons_zero, List.set_cons_succ]
      refine wpAnyF_take (i := 9) (v := ?_) (by (simp only [List.getElem?_toArray, List.getElem?_cons_succ, List.getElem?_cons_zero]; rfl)) (by kernel_rfl) (by kernel_rfl) (by kernel_rfl) (by decide) (by exact fun _ _ _ h => h) ⟨hHeld.1, .inr hHeld.2⟩ (Or.inl ⟨by rfl, ?_⟩) ?_
      rotate_left
      · (intro w' _; go_simp <;> with_reducible rfl)
      try simp only [Act.put, List.setIfInBounds_toArray, List.set_cons_zero, List.set_cons_succ]
      refine wpAnyF_take (i := 10) (v := ?_) (by (simp only [List.getElem?_toArray, List.getElem?_cons_succ, List.getElem?_cons_zero]; rfl)) (by kernel_rfl) (by kernel_rfl) (by kernel_rfl) (by decide) (by exact fun _ _ _ h => h) ⟨hHeld.1, .inr hHeld.2⟩ (Or.inl ⟨by rfl, ?_⟩) ?_
      rotate_left
      · (intro w' _; go_simp <;> with_reducible rfl)
      try simp only [Act.put, List.setIfInBounds_toArray, List.set_cons_zero, List.set_cons_succ]
      refine wpAnyF_take (i := 11) (v := ?_) (by (simp only [List.getElem?_toArray, List.getElem?_cons_succ, List.getElem?_cons_zero]; rfl)) (by kernel_rfl) (by kernel_rfl) (by kernel_rfl) (by decide) (by exact fun _ _ _ h => h) ⟨hHeld.1, .inr hHeld.2⟩ (Or.inl ⟨by rfl, ?_⟩) ?_
      rotate_left
      · (intro w' _; go_simp <;> with_reducible rfl)
      try simp only [Act.put, List.setIfInBounds_toArray, List.set_cons_zero, List.set_cons_succ]
      refine wpAnyF_done (by kernel_rfl) ?_ _
      have hb10 := hHeld.1.2
      clear hHeld
      go_wp2
      go_ret
      exact ⟨rfl, B.trans (hb10.mono B.size)⟩
    · have HC := hide h0
      obtain ⟨C, hC⟩ : ∃ C, C = fcC t b := ⟨_, rfl⟩
      rw [← hC] at IE SE IW SW HC
      have g1 : (C == 0) = false := beq_eq_false_iff_ne.2 HC.out
      rw [g1] at IW SW
      generalize fcB t b = el at *
      clear hC h0 lt
      have R := h.below B
      have zB := B.size
      go_wp2_with fail
      refine (IW.out _ r1 (HT.out.below B) (HS.out.below B)).mono ?_
      rintro e w2 ⟨rfl, b2⟩
      have z_1 := Below.size b2
      replace r1 := (r1.below b2).lt
      replace R := R.below (b2.mono (by omega))
      replace B := B.trans (b2.mono B.size)
      clear b2
      go_wp2_with fail
      refine (IE.out _ r1 (HT.out.below B)).mono ?_
      rintro e w3 ⟨Ae, ce, rfl, o3, b3⟩
      have z_2 := Below.size b3
      replace r1 := (r1.below b3).lt
      replace R := R.below (b3.mono (by omega))
      replace B := B.trans (b3.mono B.size)
      clear b3
      have re := Rd.of_own (k := .u8) o3
      have ecap := (own_capE o3).1
      clear o3 IW IE
      have e_ := (Below.refl w3.heap.size w3).alloc (Nat.le_refl _) (Obj.cells #[Value.int .i64 C, .slice Ae el.length ce] 29)
      have zz_2 : (w3.alloc (Obj.cells #[Value.int .i64 C, .slice Ae el.length ce] 29)).heap.size = w3.heap.size + 1 := by simp
      have z_3 := Below.size e_
      replace r1 := (r1.below e_).lt
      replace R := R.below (e_.mono (by omega))
      replace B := B.trans (e_.mono B.size)
      replace re := (re.below e_).lt
      clear e_
      have k5 := Bk.new w3 #[Value.int .i64 C, .slice Ae el.length ce] 29
      have q0 := (k5.cell 0).trans (rfl : _ = some (Value.int .i64 C))
      have q1 := (k5.cell 1).trans (rfl : _ = some (Value.slice Ae el.length ce))
      have hfd := field_bcode C
      have hcc : (C != C) = false := by simp
      go_upto_region 6 with fail
      generalize w3.alloc (Obj.cells #[Value.int .i64 C, .slice Ae el.length ce] 29) = V at *
      refine wp_region_F 99 (fun w' => w'.cell? ⟨w3.heap.size, 0, none⟩ = some (Value.int .i64 C) ∧ w'.cell? ⟨w3.heap.size, 1, none⟩ = some (Value.slice Ae el.length ce) ∧ Below V.heap.size V w') (fun w' => True) (by kernel_rfl) ⟨⟨q0, q1, (Below.refl _ _).drew⟩, trivial⟩ (fun hHeld => ?_)
      try simp only [Act.put, List.setIfInBounds_toArray, List.set_cons_zero, List.set_cons_succ]
      refine wpAnyF_take (i := 0) (v := ?_) (by (simp only [List.getElem?_toArray, List.getElem?_cons_zero]; rfl)) (by kernel_rfl) (by kernel_rfl) (by kernel_rfl) (by decide) (by exact fun _ _ _ h => h) ⟨hHeld.1, .inr hHeld.2⟩ (Or.inl ⟨by rfl, ?_⟩) ?_
      rotate_left
      · (intro w' _; go_simp <;> with_reducible rfl)
      try simp only [Act.put, List.setIfInBounds_toArray, List.set_cons_zero, List.set_cons_succ]
      refine wpAnyF_take (i := 1) (v := ?_) (by (simp only [List.getElem?_toArray, List.getElem?_cons_succ, List.getElem?_cons_zero]; rfl)) (by kernel_rfl) (by kernel_rfl) (by kernel_rfl) (by decide) (by exact fun _ _ _ h => h) ⟨hHeld.1, .inr hHeld.2⟩ (Or.inl ⟨by rfl, ?_⟩) ?_
      rotate_left
      · (intro w' _; go_simp <;> with_reducible rfl)
      try simp only [Act.put, List.setIfInBounds_toArray, List.set_cons_zero, List.set_cons_succ]
      refine wpAnyF_take (i := 2) (v := ?_) (by (simp only [List.getElem?_toArray, List.getElem?_cons_succ, List.getElem?_cons_zero]; rfl)) (by kernel_rfl) (by kernel_rfl) (by kernel_rfl) (by decide) (by exact fun _ _ _ h => h) ⟨hHeld.1, .inr hHeld.2⟩ (Or.inl ⟨by rfl, ?_⟩) ?_
      rotate_left
      · (intro w' _; go_simp <;> with_reducible rfl)
      try simp only [Act.put, List.setIfInBounds_toArray, List.set_cons_zero, List.set_cons_succ]
      refine wpAnyF_ready (rs := [3]) (by kernel_rfl) (by simp) ?_
      refine AllReadyF.cons (by (simp only [List.getElem?_toArray, List.getElem?_cons_succ, List.getElem?_cons_zero]; rfl)) (fun K hK => ?_) AllReadyF.nil
      go_simp
      go_at_call 10
      refine (SW.out _ (r1.below hHeld.1.2.2).lt).mono ?_
      rintro e wa ⟨rfl, ba⟩
      refine hK.out _ _ ⟨⟨cell_kept ba hHeld.1.1, cell_kept ba hHeld.1.2.1, hHeld.1.2.2.trans (ba.mono hHeld.1.2.2.size)⟩, trivial⟩ (fun hNew => ?_)
      clear hK K hHeld
      have hHeld := hNew
      clear hNew
      try simp only [Act.put, List.setIfInBounds_toArray, List.set_cons_zero, List.set_cons_succ]
      refine wpAnyF_take (i := 4) (v := ?_) (by (simp only [List.getElem?_toArray, List.getElem?_cons_succ, List.getElem?_cons_zero]; rfl)) (by kernel_rfl) (by kernel_rfl) (by kernel_rfl) (by decide) (by exact fun _ _ _ h => h) ⟨hHeld.1, .inr hHeld.2⟩ (Or.inl ⟨by rfl, ?_⟩) ?_
      rotate_left
      · (intro w' _; go_simp <;> with_reducible rfl)
      try simp only [Act.put, List.setIfInBounds_toArray, List.set_cons_zero, List.set_cons_succ]
      refine wpAnyF_take (i := 5) (v := ?_) (by (simp only [List.getElem?_toArray, List.getElem?_cons_succ, List.getElem?_cons_zero]; rfl)) (by kernel_rfl) (by kernel_rfl) (by kernel_rfl) (by decide) (by exact fun _ _ _ h => h) ⟨hHeld.1, .inr hHeld.2⟩ (Or.inl ⟨by rfl, ?_⟩) ?_
      rotate_left
      · (intro w' _; go_simp <;> with_reducible rfl)
      try simp only [Act.put, List.setIfInBounds_toArray, List.set_cons_zero, List.set_cons_succ]
      refine wpAnyF_take (i := 6) (v := ?_) (by (simp only [List.getElem?_toArray, List.getElem?_cons_succ, List.getElem?_cons_zero]; rfl)) (by kernel_rfl) (by kernel_rfl) (by kernel_rfl) (by decide) (by exact fun _ _ _ h => h) ⟨hHeld.1, .inr hHeld.2⟩ (Or.inl ⟨by rfl, ?_⟩) ?_
      rotate_left
      · (intro w' _; go_simp <;> with_reducible rfl)
      try simp only [Act.put, List.setIfInBounds_toArray, List.set_cons_zero, List.set_cons_succ]
      refine wpAnyF_keep (i := 7) (v := ?_) (by (simp only [List.getElem?_toArray, List.getElem?_cons_succ, List.getElem?_cons_zero]; rfl)) (by kernel_rfl) (by kernel_rfl) (by kernel_rfl) (by decide) (by exact fun _ _ _ h => h) ⟨hHeld.1, .inr hHeld.2⟩ (Or.inl ⟨by rfl, ?_⟩) ?_
      rotate_left
      · (intro w' hSw; (try dsimp only at hSw); obtain ⟨hSa0, hSa1, hSa2⟩ := hSw; go_simp <;> with_reducible rfl)
      try simp only [Act.put, List.setIfInBounds_toArray, List.set_cons_zero, List.set_cons_succ]
      refine wpAnyF_take (i := 8) (v := ?_) (by (simp only [List.getElem?_toArray, List.getElem?_cons_succ, List.getElem?_cons_zero]; rfl)) (by kernel_rfl) (by kernel_rfl) (by kernel_rfl) (by decide) (by exact fun _ _ _ h => h) ⟨hHeld.1, .inr hHeld.2⟩ (Or.inl ⟨by rfl, ?_⟩) ?_
      rotate_left
      · (intro w' _; go_simp <;> with_reducible rfl)
      try simp only [Act.put, List.setIfInBounds_toArray, List.set_cons_zero, List.set_cons_succ]
      refine wpAnyF_take (i := 9) (v := ?_) (by (simp only [List.getElem?_toArray, List.getElem?_cons_succ, List.getElem?_cons_zero]; rfl)) (by kernel_rfl) (by kernel_rfl) (by kernel_rfl) (by decide) (by exact fun _ _ _ h => h) ⟨hHeld.1, .inr hHeld.2⟩ (Or.inl ⟨by rfl, ?_⟩) ?_
      rotate_left
      · (intro w' _; go_simp <;> with_reducible rfl)
      try simp only [Act.put, List.setIfInBounds_toArray, List.set_cons_zero, List.set_cons_succ]
      refine wpAnyF_ready (rs := [10]) (by kernel_rfl) (by simp) ?_
      refine AllReadyF.cons (by (simp only [List.getElem?_toArray, List.getElem?_cons_succ, List.getElem?_cons_zero]; rfl)) (fun K hK => ?_) AllReadyF.nil
      go_simp
      go_at_call 11
      refine (SE.out _ (r1.below hHeld.1.2.2).lt).mono ?_
      rintro e wb ⟨Ab, cb, rfl, ob, bb⟩
      clear ob
      refine hK.out _ _ ⟨⟨cell_kept bb hHeld.1.1, cell_kept bb hHeld.1.2.1, hHeld.1.2.2.trans (bb.mono hHeld.1.2.2.size)⟩, trivial⟩ (fun hNew => ?_)
      clear hK K hHeld
      have hHeld := hNew
      clear hNew
      try simp only [Act.put, List.setIfInBounds_toArray, List.set_cons_zero, List.set_cons_succ]
      refine wpAnyF_take (i := 11) (v := ?_) (by (simp only [List.getElem?_toArray, List.getElem?_cons_succ, List.getElem?_cons_zero]; rfl)) (by kernel_rfl) (by kernel_rfl) (by kernel_rfl) (by decide) (by exact fun _ _ _ h => h) ⟨hHeld.1, .inr hHeld.2⟩ (Or.inl ⟨by rfl, ?_⟩) ?_
      rotate_left
      · (intro w' _; go_simp <;> with_reducible rfl)
      try simp only [Act.put, List.setIfInBounds_toArray, List.set_cons_zero, List.set_cons_succ]
      refine wpAnyF_take (i := 12) (v := ?_) (by (simp only [List.getElem?_toArray, List.getElem?_cons_succ, List.getElem?_cons_zero]; rfl)) (by kernel_rfl) (by kernel_rfl) (by kernel_rfl) (by decide) (by exact fun _ _ _ h => h) ⟨hHeld.1, .inr hHeld.2⟩ (Or.inl ⟨by rfl, ?_⟩) ?_
      rotate_left
      · (intro w' _; go_simp <;> with_reducible rfl)
      try simp only [Act.put, List.setIfInBounds_toArray, List.set_cons_zero, List.set_cons_succ]
      refine wpAnyF_take (i := 13) (v := ?_) (by (simp only [List.getElem?_toArray, List.getElem?_cons_succ, List.getElem?_cons_zero]; rfl)) (by kernel_rfl) (by kernel_rfl) (by kernel_rfl) (by decide) (by exact fun _ _ _ h => h) ⟨hHeld.1, .inr hHeld.2⟩ (Or.inl ⟨by rfl, ?_⟩) ?_
      rotate_left
      · (intro w' _; go_simp <;> with_reducible rfl)
      try simp only [Act.put, List.setIfInBounds_toArray, List.set_cons_zero, List.set_cons_succ]
      refine wpAnyF_take (i := 14) (v := ?_) (by (simp only [List.getElem?_toArray, List.getElem?_cons_succ, List.getElem?_cons_zero]; rfl)) (by kernel_rfl) (by kernel_rfl) (by kernel_rfl) (by decide) (by exact fun _ _ _ h => h) ⟨hHeld.1, .inr hHeld.2⟩ (Or.inl ⟨by rfl, ?_⟩) ?_
      rotate_left
      · (intro w' _; go_simp <;> with_reducible rfl)
      try simp only [Act.put, List.setIfInBounds_toArray, List.set_cons_zero, List.set_cons_succ]
      refine wpAnyF_take (i := 15) (v := ?_) (by (simp only [List.getElem?_toArray, List.getElem?_cons_succ, List.getElem?_cons_zero]; rfl)) (by kernel_rfl) (by kernel_rfl) (by kernel_rfl) (by decide) (by exact fun _ _ _ h => h) ⟨hHeld.1, .inr hHeld.2⟩ (Or.inl ⟨by rfl, ?_⟩) ?_
      rotate_left
      · (intro w' _; go_simp <;> with_reducible rfl)
      try simp only [Act.put, List.setIfInBounds_toArray, List.set_cons_zero, List.set_cons_succ]
      refine wpAnyF_take (i := 16) (v := ?_) (by (simp only [List.getElem?_toArray, List.getElem?_cons_succ, List.getElem?_cons_zero]; rfl)) (by kernel_rfl) (by kernel_rfl) (by kernel_rfl) (by decide) (by exact fun _ _ _ h => h) ⟨hHeld.1, .inr hHeld.2⟩ (Or.inl ⟨by rfl, ?_⟩) ?_
      rotate_left
      · (intro w' _; go_simp <;> with_reducible rfl)
      try simp only [Act.put, List.setIfInBounds_toArray, List.set_cons_zero, List.set_cons_succ]
      refine wpAnyF_keep (i := 17) (v := ?_) (by (simp only [List.getElem?_toArray, List.getElem?_cons_succ, List.getElem?_cons_zero]; rfl)) (by kernel_rfl) (by kernel_rfl) (by kernel_rfl) (by decide) (by exact fun _ _ _ h => h) ⟨hHeld.1, .inr hHeld.2⟩ (Or.inl ⟨by rfl, ?_⟩) ?_
      rotate_left
      · (intro w' hSw; (try dsimp only at hSw); obtain ⟨hSa0, hSa1, hSa2⟩ := hSw; go_simp <;> with_reducible rfl)
      try simp only [Act.put, List.setIfInBounds_toArray, List.set_cons_zero, List.set_cons_succ]
      refine wpAnyF_take (i := 18) (v := ?_) (by (simp only [List.getElem?_toArray, List.getElem?_cons_succ, List.getElem?_cons_zero]; rfl)) (by kernel_rfl) (by kernel_rfl) (by kernel_rfl) (by decide) (by exact fun _ _ _ h => h) ⟨hHeld.1, .inr hHeld.2⟩ (Or.inl ⟨by rfl, ?_⟩) ?_
      rotate_left
      · (intro w' _; go_simp <;> with_reducible rfl)
      try simp only [Act.put, List.setIfInBounds_toArray, List.set_cons_zero, List.set_cons_succ]
      refine wpAnyF_take (i := 19) (v := ?_) (by (simp only [List.getElem?_toArray, List.getElem?_cons_succ, List.getElem?_cons_zero]; rfl)) (by kernel_rfl) (by kernel_rfl) (by kernel_rfl) (by decide) (by exact fun _ _ _ h => h) ⟨hHeld.1, .inr hHeld.2⟩ (Or.inl ⟨by rfl, ?_⟩) ?_
      rotate_left
      · (intro w' _; go_simp <;> with_reducible rfl)
      try simp only [Act.put, List.setIfInBounds_toArray, List.set_cons_zero, List.set_cons_succ]
      refine wpAnyF_take (i := 20) (v := ?_) (by (simp only [List.getElem?_toArray, List.getElem?_cons_succ, List.getElem?_cons_zero]; rfl)) (by kernel_rfl) (by kernel_rfl) (by kernel_rfl) (by decide) (by exact fun _ _ _ h => h) ⟨hHeld.1, .inr hHeld.2⟩ (Or.inl ⟨by rfl, ?_⟩) ?_
      rotate_left
      · (intro w' _; go_simp <;> with_reducible rfl)
      try simp only [Act.put, List.setIfInBounds_toArray, List.set_cons_zero, List.set_cons_succ]
      refine wpAnyF_done (by kernel_rfl) ?_ _
      have hb6 := hHeld.1.2.2
      have k5' := hHeld.1
      clear hHeld hfd ba bb q0 q1
      obtain ⟨p0, p1, _⟩ := k5'
      have hne : (C != 0) = true := bne_iff_ne.2 HC.out
      go_wp2
      go_ret
      exact ⟨rfl, B.trans (hb6.mono B.size)⟩
  · go_enter Tryd.func3, Tryd.ntmps3
    go_wp2_with fail
    refine (lwBig_yes l A c w hL hl).mono ?_
    rintro e w0 ⟨rfl, rfl⟩
    go_wp2
    go_ret
    exact ⟨rfl, Below.refl _ _⟩
end Go.Proofs.YtldepledinolmaaDoor
