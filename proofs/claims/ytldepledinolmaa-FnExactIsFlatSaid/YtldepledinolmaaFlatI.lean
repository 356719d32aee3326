/- The contract of IsFlat in the program. -/
import Derived.Test.YtldepledinolmaaFlatM
import Derived.Test.YtldepledinolmaaLogI
import Derived.Test.YtldepledinolmaaMapL
import Derived.Deep.Cut
import Derived.BigQuiet
namespace Go.Proofs.Ytldepledinolmaa
open Go.RowKit Go.Maps

theorem zeroI64 (w : World) : (zeroValue 2).run Try.prog w = .ok (.int .i64 0) w := by kernel_rfl
abbrev zN : DataW Value := .held (.int .i64 0)
/-- What was stored last lies in the map in block M. -/
def StoM (w : World) (M n : Nat) (r : List Stp) : Prop := ∃ D : DataW Value, w.ownsMap Try.prog 2 rdH M n D ∧ ∀ a : Int, I64 a → D.atKey (.int .i64 a) zN = .held (.int .i64 (valR a r))
theorem key_i64 {a : Int} (h : I64 a) : keyOf Try.prog 2 (.int .i64 a) = some (.int .i64 a) := keyOf_int_mk Try.underlying2 (WalkArith.wf_i64 h)
section
variable {w w' : World} {M n : Nat} {r : List Stp}
theorem StoM.other {row : Option Nat} (h : StoM w M n r) (hg : w.grownBy w' row) (hne : some M ≠ row) : StoM w' M n r := by
  obtain ⟨D, h1, h2⟩ := h
  exact ⟨D, h1.kept hg hne, h2⟩
theorem StoM.below (h : StoM w M n r) (hb : Below w.heap.size w w') : StoM w' M n r := h.other (row := none) ⟨hb.os, hb.tape, hb.output, hb.size, fun k hk _ => hb.block k hk⟩ (by simp)
theorem StoM.look (h : StoM w M n r) {a : Int} (ha : I64 a) : (Instr.lookup 136 (.map (some M)) (.int .i64 a) false).run Try.prog w = .ok (.int .i64 (valR a r)) w := by
  obtain ⟨D, h1, h2⟩ := h
  obtain ⟨v, ps, hrun, hv⟩ := h1.lookup (t := 136) lawK Try.underlying136 (zeroI64 w) (zd := zN) (zp := []) rfl (key_i64 ha)
  rw [h2 a ha] at hv
  simp only [rdH, Option.some.injEq, Prod.mk.injEq] at hv
  rw [hrun, DataW.held.inj hv.1]
theorem StoM.same (h : StoM w M n r) {r' : List Stp} (he : ∀ a, valR a r' = valR a r) {n' : Nat} (hn : n ≤ n') : StoM w M n' r' := by
  obtain ⟨D, h1, h2⟩ := h
  exact ⟨D, h1.mono hn, fun a ha => by rw [he a]; exact h2 a ha⟩
theorem StoM.made (w : World) : StoM (w.alloc (.map #[] 0)) w.heap.size 0 [] := ⟨.map [], World.ownsMap_made _ _ _ _, fun a _ => by simp [DataW.atKey, valR]⟩
end
theorem sto_put {D : DataW Value} (hD : IsMap D) {a0 v0 : Int} {r r' : List Stp} (h : ∀ a : Int, I64 a → D.atKey (.int .i64 a) zN = .held (.int .i64 (valR a r))) (he : ∀ a, valR a r' = if a0 = a then v0 else valR a r) :
    ∀ a : Int, I64 a → (D.put (.int .i64 a0) (.held (.int .i64 v0))).atKey (.int .i64 a) zN = .held (.int .i64 (valR a r')) := by
  intro a ha
  rw [he a]
  by_cases e : a = a0
  · subst e
    rw [atKey_put_same hD (keyI _), if_pos rfl]
  · rw [atKey_put_other (lit_ne e), if_neg (fun h => e h.symm), h a ha]

set_option maxRecDepth 100000 in
set_option maxHeartbeats 1600000 in
theorem implFlat_any (ss : List Stp) (n : Int) (A : Option Addr) (c : Nat) (w : World) (hm : ss.length ≤ maxLen) (h : RdP w w.heap.size A ss) :
    Calls Try.prog 41 #[.slice A ss.length c, .int .i64 n] w fun e w' => e = .returned (.bool (flatB ss n)) ∧ Below w.heap.size w w' := by
  have LF := hide (implLogF_any ss n A c w hm h)
  by_cases h0 : logF ss n = 0
  · rw [h0] at LF
    obtain ⟨_, hl32, hG, _⟩ := logF_zero h0
    have HK := hide (fun s hs => (evF_zero (logG_all hG s hs).2))
    have H0 := hide h0
    clear h0 hG
    have hmm := @run_makeMap Try.prog
    go_enter Try.func41, Try.ntmps41
    go_wp2_with fail
    refine LF.out.mono ?_
    rintro e w1 ⟨rfl, b1⟩
    have sm := StoM.made w1
    have bm := b1.alloc b1.size (.map #[] 0)
    have hM : w.heap.size ≤ w1.heap.size := b1.size
    go_upto_region 4 with fail
    generalize w1.alloc (.map #[] 0) = V1 at *
    obtain ⟨M, hMM⟩ : ∃ M, M = w1.heap.size := ⟨_, rfl⟩
    rw [← hMM] at sm hM ⊢
    clear hMM b1
    go_wp2
    go_loopw [16] (fun i wr => ∃ k : Nat, k ≤ ss.length ∧ i = .int .i64 k ∧ StoM wr M k (ss.take k).reverse ∧ Below w.heap.size w wr ∧ Hid (flatR (ss.take k).reverse)) (fun i _ => ss.length - (intOf i).toNat)
    case atStart => exact ⟨0, Nat.zero_le _, rfl, sm, bm, hide trivial⟩
    case round =>
      clear sm bm
      obtain ⟨k, hk, rfl, hS, hb, HF⟩ := hrel
      by_cases hlt : k < ss.length
      · obtain ⟨b, off, rfl, hbb, hc0, hc1, hc2, hc3⟩ := (h.below hb).get hlt
        obtain ⟨hkk, ha0, ha1, hv0, hv1⟩ := HK.out _ (List.getElem_mem hlt)
        have HNO := hide (fun h1 => flatB_no (n := n) hlt h1)
        have HYE := hide (fun h1 => flat_step hlt HF.out h1)
        have HVS := hide (fun a => val_step hlt a)
        unfold fitR at HNO HYE
        obtain ⟨s, hs⟩ : ∃ s, s = ss[k] := ⟨_, rfl⟩
        rw [← hs] at hc0 hc1 hc2 hc3 hkk HNO HYE HVS ha0 ha1 hv0 hv1
        obtain ⟨R, hR⟩ : ∃ R, R = (ss.take k).reverse := ⟨_, rfl⟩
        rw [← hR] at HNO HYE HVS hS
        have hA : I64 s.e.a := by unfold I64; omega
        obtain ⟨W1, hW1⟩ : ∃ W1, W1 = (wr.alloc (Obj.cells #[.int .i64 s.c, .int .i64 s.e.k, .int .i64 s.e.a, .int .i64 s.e.v] 102)).alloc (Obj.cells #[.int .i64 s.e.k, .int .i64 s.e.a, .int .i64 s.e.v] 98) := ⟨_, rfl⟩
        have ez : (wr.alloc (Obj.cells #[.int .i64 s.c, .int .i64 s.e.k, .int .i64 s.e.a, .int .i64 s.e.v] 102)).heap.size = wr.heap.size + 1 := World.size_alloc _ _
        have kp : Bk W1 (wr.heap.size + 1) #[.int .i64 s.e.k, .int .i64 s.e.a, .int .i64 s.e.v] 98 := by rw [hW1, ← ez]; exact Bk.new _ _ _
        have bW : Below wr.heap.size wr W1 := by rw [hW1]; exact ((Below.refl _ _).alloc (Nat.le_refl _) _).alloc (by rw [ez]; omega) _
        have hS1 := hS.below bW
        have hb1 : Below w.heap.size w W1 := hb.trans (bW.mono hb.size)
        have HW1 := hide hW1
        have HEZ := hide ez
        clear hs hR hW1 hS bW ez
        go_upto_region 8 with fail
        rw [← HW1.out]
        have q0 := (kp.cell 0).trans (rfl : _ = some (Value.int .i64 s.e.k))
        have q1 := (kp.cell 1).trans (rfl : _ = some (Value.int .i64 s.e.a))
        have q2 := (kp.cell 2).trans (rfl : _ = some (Value.int .i64 s.e.v))
        by_cases h1 : s.e.k = 1
        · rw [h1] at q0 kp HW1
          have HY := hide (HYE.out (.inl h1))
          have HV := hide (fun a => (by have := HVS.out a; simp only [h1, true_and] at this; exact this : valR a (ss.take (k + 1)).reverse = if s.e.a = a then s.e.v else valR a R))
          clear h1 HYE HNO HVS kp
          obtain ⟨D, hown, hD⟩ := hS1
          have HP := hide (sto_put hown.isMap hD HV.out)
          have hkey := key_i64 hA
          have hkm : k < maxLen := by unfold maxLen; omega
          clear hD
          go_wp2_with (first | (at_mapUpdate; refine wpList_mapUpdate_own _ rfl _ _ _ 136 rfl 2 2 lawK Try.underlying136 rdH M k D rfl hown hkm _ _ _ rfl rfl hkey (.held (.int .i64 s.e.v)) [] rfl ?_; intro w5 hown1 hgrow1) | go_in)
          have hb5 : Below w.heap.size w w5 := hb1.grown hgrow1 hb1.size (fun z e => by cases e; exact hM)
          go_roundw
          case rel => exact ⟨k + 1, by omega, by go_num, ⟨_, hown1, HP.out⟩, hb5, HY⟩
          case measure => simp [intOf]; omega
        · have h0 : s.e.k = 0 := by omega
          rw [h0] at q0 kp HW1
          have HV := hide (fun a => (by have := HVS.out a; rw [if_neg (fun hh => h1 hh.1)] at this; exact this : valR a (ss.take (k + 1)).reverse = valR a R))
          have look := hS1.look hA
          by_cases hf : s.e.v = valR s.e.a R
          · have HY := hide (HYE.out (.inr hf))
            have g1 : (s.e.v != valR s.e.a R) = false := by rw [← hf]; simp
            have HS2 := hide (hS1.same HV.out (Nat.le_succ k))
            clear hf h0 h1 HYE HNO HVS kp hS1
            go_wp2
            go_roundw
            case rel => exact ⟨k + 1, by omega, by go_num, HS2.out, hb1, HY⟩
            case measure => simp [intOf]; omega
          · have HE := hide (HNO.out (by rintro (h | h); exact h1 h; exact hf h))
            have g1 : (s.e.v != valR s.e.a R) = true := bne_iff_ne.2 hf
            clear hf h0 h1 HYE HNO HVS kp hS1
            go_wp2
            go_ret
            exact ⟨ret_bool HE.out.symm, hb1⟩
      · obtain rfl : k = ss.length := by omega
        have HE := hide (flatB_yes H0.out HF.out)
        go_wp2
        go_ret
        exact ⟨ret_bool HE.out.symm, hb⟩
  · have HE := hide (flatB_log h0)
    obtain ⟨F, hF⟩ : ∃ F, F = logF ss n := ⟨_, rfl⟩
    rw [← hF] at LF h0
    have g0 : (F != 0) = true := bne_iff_ne.2 h0
    have g1 : (F == 0) = false := beq_eq_false_iff_ne.2 h0
    clear hF h0
    go_enter Try.func41, Try.ntmps41
    go_wp2_with fail
    refine LF.out.mono ?_
    rintro e w1 ⟨rfl, b1⟩
    go_wp2
    go_ret
    exact ⟨ret_bool HE.out.symm, b1⟩
end Go.Proofs.Ytldepledinolmaa
