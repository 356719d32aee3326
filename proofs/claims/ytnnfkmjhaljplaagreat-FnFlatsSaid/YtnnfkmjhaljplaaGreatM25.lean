/- What the laws' walks rest upon, part 25. -/
import Derived.Test.YtnnfkmjhaljplaaGreatM24
import Derived.Test.YtnnfkmjhaljplaaGreatM03
import Derived.Test.YtnnfkmjhaljplaaGreatM07
import Derived.Test.YtnnfkmjhaljplaaGreatM19
import Derived.Test.YtnnfkmjhaljplaaGreatM04
import Derived.Test.YtnnfkmjhaljplaaGreatM10
import Derived.Deep.Cut
import Derived.BigQuiet
import Derived.Test.YtnnfkmjhaljplaaGreatM17
import Derived.Test.YtnnfkmjhaljplaaGreatM15
import Derived.Test.YtnnfkmjhaljplaaGreatM05
import Derived.Test.YtnnfkmjhaljplaaGreatM01
import Derived.Test.YtnnfkmjhaljplaaGreatM08
namespace Go.Proofs.YtnnfkmjhaljplaaGreat
open Classical in
noncomputable def flatB (ss : List Stp) (n : Int) : Bool := decide (logF ss n = 0 ∧ flatR ss.reverse)
/-- A step fits behind these (the newest first). -/
def fitR (s : Stp) (r : List Stp) : Prop := s.e.k = 1 ∨ s.e.v = valR s.e.a r
theorem flatR_tail : ∀ (m r : List Stp), flatR (m ++ r) → flatR r
  | [], _, h => h
  | _ :: m, r, h => flatR_tail m r h.2
theorem flat_at {ss : List Stp} {k : Nat} (hk : k < ss.length) (h : flatR ss.reverse) : fitR ss[k] (ss.take k).reverse := by
  have e : ss.reverse = (ss.drop (k + 1)).reverse ++ ss[k] :: (ss.take k).reverse := by
    conv => lhs; rw [← List.take_append_drop k ss, List.drop_eq_getElem_cons hk]
    simp
  rw [e] at h
  exact (flatR_tail _ _ h).1
theorem flat_step {ss : List Stp} {k : Nat} (hk : k < ss.length) (h : flatR (ss.take k).reverse) (hf : fitR ss[k] (ss.take k).reverse) : flatR (ss.take (k + 1)).reverse := by
  rw [List.take_succ_eq_append_getElem hk, List.reverse_append]
  exact ⟨hf, h⟩
theorem val_step {ss : List Stp} {k : Nat} (hk : k < ss.length) (a : Int) : valR a (ss.take (k + 1)).reverse = if ss[k].e.k = 1 ∧ ss[k].e.a = a then ss[k].e.v else valR a (ss.take k).reverse := by
  rw [List.take_succ_eq_append_getElem hk, List.reverse_append]
  rfl
open Classical in
theorem flatB_log {ss : List Stp} {n : Int} (h : ¬ logF ss n = 0) : flatB ss n = false := decide_eq_false fun hh => h hh.1
open Classical in
theorem flatB_no {ss : List Stp} {n : Int} {k : Nat} (hk : k < ss.length) (h : ¬ fitR ss[k] (ss.take k).reverse) : flatB ss n = false := decide_eq_false fun hh => h (flat_at hk hh.2)
open Classical in
theorem flatB_yes {ss : List Stp} {n : Int} (h0 : logF ss n = 0) (h : flatR (ss.take ss.length).reverse) : flatB ss n = true := by
  rw [List.take_length] at h
  exact decide_eq_true ⟨h0, h⟩
open Classical in
theorem flatB_true {ss : List Stp} {n : Int} (h : flatB ss n = true) : logF ss n = 0 ∧ flatR ss.reverse := of_decide_eq_true h
/-- What the model's memory has, the newest first. -/
def memC : List Stp → List Cel
  | [] => []
  | s :: r => if s.e.k = 1 then ⟨s.e.a, s.e.v⟩ :: memC r else memC r
theorem read_memC (a : Int) : ∀ r : List Stp, readM (memC r) a = valR a r
  | [] => rfl
  | s :: r => by
    unfold memC valR
    by_cases hk : s.e.k = 1
    · rw [if_pos hk, readM]
      by_cases ha : s.e.a = a
      · rw [if_pos ha, if_pos ⟨hk, ha⟩]
      · rw [if_neg ha, if_neg (fun h => ha h.2), read_memC a r]
    · rw [if_neg hk, if_neg (fun h => hk h.1), read_memC a r]
theorem memC_len : ∀ r : List Stp, (memC r).length ≤ r.length
  | [] => Nat.le_refl _
  | s :: r => by
    unfold memC
    have := memC_len r
    by_cases hk : s.e.k = 1
    · rw [if_pos hk]; simp only [List.length_cons]; omega
    · rw [if_neg hk]; simp only [List.length_cons]; omega
theorem memC_store {ss : List Stp} {k : Nat} (hk : k < ss.length) (h1 : ss[k].e.k = 1) : memC (ss.take (k + 1)).reverse = ⟨ss[k].e.a, ss[k].e.v⟩ :: memC (ss.take k).reverse := by
  rw [List.take_succ_eq_append_getElem hk, List.reverse_append]
  show memC (ss[k] :: (ss.take k).reverse) = _
  rw [memC, if_pos h1]
theorem memC_load {ss : List Stp} {k : Nat} (hk : k < ss.length) (h1 : ¬ ss[k].e.k = 1) : memC (ss.take (k + 1)).reverse = memC (ss.take k).reverse := by
  rw [List.take_succ_eq_append_getElem hk, List.reverse_append]
  show memC (ss[k] :: (ss.take k).reverse) = _
  rw [memC, if_neg h1]
end Go.Proofs.YtnnfkmjhaljplaaGreat
namespace Go.Proofs.YtnnfkmjhaljplaaGreat
theorem flat_go : ∀ (l : List Stp) (V : Int → Int) (r : List Stp), flatR r → (∀ a, V a = valR a r) → flatR ((flatL V l).reverse ++ r)
  | [], _, _, h, _ => h
  | s :: l, V, r, h, hV => by
    rw [flatL]
    by_cases hk : s.e.k = 1
    · rw [if_pos hk, List.reverse_cons, List.append_assoc, List.singleton_append]
      refine flat_go l _ (s :: r) ⟨.inl hk, h⟩ fun a => ?_
      show (if a = s.e.a then s.e.v else V a) = if s.e.k = 1 ∧ s.e.a = a then s.e.v else valR a r
      by_cases ha : a = s.e.a
      · rw [if_pos ha, if_pos ⟨hk, ha.symm⟩]
      · rw [if_neg ha, if_neg (fun hh => ha hh.2.symm), hV a]
    · rw [if_neg hk, List.reverse_cons, List.append_assoc, List.singleton_append]
      refine flat_go l V (⟨s.c, ⟨s.e.k, s.e.a, V s.e.a⟩⟩ :: r) ⟨.inr (hV _), h⟩ fun a => ?_
      show V a = if s.e.k = 1 ∧ s.e.a = a then V s.e.a else valR a r
      rw [if_neg (fun hh => hk hh.1), hV a]
theorem flat_flat (l : List Stp) : flatR (flatL (fun _ => 0) l).reverse := by
  have := flat_go l (fun _ => 0) [] trivial (fun a => rfl)
  rwa [List.append_nil] at this
open Classical in
/-- A simulation without a code logs a flat log. -/
theorem sim_flat {t : List (List Ev)} {L : Int} {picks : List Int} (h : (simR t L picks).1 = 0) : flatB (simR t L picks).2.1 (t.length : Int) = true := by
  by_cases h0 : simC t L picks = 0
  · rw [simR_ok h0]
    obtain ⟨hg, hL, hk⟩ := simC_zero h0
    obtain ⟨h1, _, _, hl⟩ := sim_ok (picks := picks) hg hL
    refine decide_eq_true ⟨hl, ?_⟩
    show flatR (simL t L picks).1.reverse
    rw [h1]
    exact flat_flat _
  · rw [simR_no h0] at h
    exact absurd h h0
end Go.Proofs.YtnnfkmjhaljplaaGreat
namespace Go.Proofs.YtnnfkmjhaljplaaGreat
open Go.RowKit Go.Maps
theorem zeroI64 (w : World) : (zeroValue 2).run Tryz.prog w = .ok (.int .i64 0) w := by kernel_rfl
abbrev zN : DataW Value := .held (.int .i64 0)
/-- What was stored last lies in the map in block M. -/
def StoM (w : World) (M n : Nat) (r : List Stp) : Prop := ∃ D : DataW Value, w.ownsMap Tryz.prog 2 rdH M n D ∧ ∀ a : Int, I64 a → D.atKey (.int .i64 a) zN = .held (.int .i64 (valR a r))
theorem key_i64 {a : Int} (h : I64 a) : keyOf Tryz.prog 2 (.int .i64 a) = some (.int .i64 a) := keyOf_int_mk Tryz.underlying2 (WalkArith.wf_i64 h)
section
variable {w w' : World} {M n : Nat} {r : List Stp}
theorem StoM.other {row : Option Nat} (h : StoM w M n r) (hg : w.grownBy w' row) (hne : some M ≠ row) : StoM w' M n r := by
  obtain ⟨D, h1, h2⟩ := h
  exact ⟨D, h1.kept hg hne, h2⟩
theorem StoM.below (h : StoM w M n r) (hb : Below w.heap.size w w') : StoM w' M n r := h.other (row := none) ⟨hb.os, hb.tape, hb.output, hb.size, fun k hk _ => hb.block k hk⟩ (by simp)
theorem StoM.look (h : StoM w M n r) {a : Int} (ha : I64 a) : (Instr.lookup 69 (.map (some M)) (.int .i64 a) false).run Tryz.prog w = .ok (.int .i64 (valR a r)) w := by
  obtain ⟨D, h1, h2⟩ := h
  obtain ⟨v, ps, hrun, hv⟩ := h1.lookup (t := 69) lawK Tryz.underlying69 (zeroI64 w) (zd := zN) (zp := []) rfl (key_i64 ha)
  rw [h2 a ha] at hv
  simp only [rdH, Option.some.injEq, Prod.mk.injEq] at hv
  rw [hrun, DataW.held.inj hv.1]
theorem StoM.same (h : StoM w M n r) {r' : List Stp} (he : ∀ a, valR a r' = valR a r) {n' : Nat} (hn : n ≤ n') : StoM w M n' r' := by
  obtain ⟨D, h1, h2⟩ := h
  exact ⟨D, h1.mono hn, fun a ha => by rw [he a]; exact h2 a ha⟩
theorem StoM.made (w : World) : StoM (w.alloc (.map #[] 0)) w.heap.size 0 [] := ⟨.map [], World.ownsMap_made _ _ _ _, fun a _ => by simp [DataW.atKey, valR]⟩
end
theorem sto_put {D : DataW Value} (hD : IsMap D) {a0 v0 : Int} {r r' : List Stp} (h : ∀ a : Int, I64 a → D.atKey (.int .i64 a) zN = .held (.int .i64 (valR a r))) (he : ∀ a, valR a r' = if a0 = a then v0 else valR a r) :
    ∀ a : Int, I64 a → (D.put (.int .i64 a0) (.held (.int .i64 v0))).atKey (.int .i64 a) zN = .held (.int .i64 (valR a r')) := by
  intro a ha
  rw [he a]
  by_cases e : a = a0
  · subst e
    rw [atKey_put_same hD (keyI _), if_pos rfl]
  · rw [atKey_put_other (lit_ne e), if_neg (fun h => e h.symm), h a ha]
set_option maxRecDepth 100000 in
set_option maxHeartbeats 1600000 in
theorem implFlat_any (ss : List Stp) (n : Int) (A : Option Addr) (c : Nat) (w : World) (hm : ss.length ≤ maxLen) (h : RdP w w.heap.size A ss) :
    Calls Tryz.prog 6 #[.slice A ss.length c, .int .i64 n] w fun e w' => e = .returned (.bool (flatB ss n)) ∧ Below w.heap.size w w' := by
  have LF := hide (implLogF_any ss n A c w hm h)
  by_cases h0 : logF ss n = 0
  · rw [h0] at LF
    obtain ⟨_, hl32, hG, _⟩ := logF_zero h0
    have HK := hide (fun s hs => (evF_zero (logG_all hG s hs).2))
    have H0 := hide h0
    clear h0 hG
    have hmm := @run_makeMap Tryz.prog
    go_enter Tryz.func6, Tryz.ntmps6
    go_wp2_with fail
    refine LF.out.mono ?_
    rintro e w1 ⟨rfl, b1⟩
    have sm := StoM.made w1
    have bm := b1.alloc b1.size (.map #[] 0)
    have hM : w.heap.size ≤ w1.heap.size := b1.size
    go_upto_region 4 with fail
    generalize w1.alloc (.map #[] 0) = V1 at *
    obtain ⟨M, hMM⟩ : ∃ M, M = w1.heap.size := ⟨_, rfl⟩
    rw [← hMM] at sm hM ⊢
    clear hMM b1
    go_wp2
    go_loopw [16] (fun i wr => ∃ k : Nat, k ≤ ss.length ∧ i = .int .i64 k ∧ StoM wr M k (ss.take k).reverse ∧ Below w.heap.size w wr ∧ Hid (flatR (ss.take k).reverse)) (fun i _ => ss.length - (intOf i).toNat)
    case atStart => exact ⟨0, Nat.zero_le _, rfl, sm, bm, hide trivial⟩
    case round =>
      clear sm bm
      obtain ⟨k, hk, rfl, hS, hb, HF⟩ := hrel
      by_cases hlt : k < ss.length
      · obtain ⟨b, off, rfl, hbb, hc0, hc1, hc2, hc3⟩ := (h.below hb).get hlt
        obtain ⟨hkk, ha0, ha1, hv0, hv1⟩ := HK.out _ (List.getElem_mem hlt)
        have HNO := hide (fun h1 => flatB_no (n := n) hlt h1)
        have HYE := hide (fun h1 => flat_step hlt HF.out h1)
        have HVS := hide (fun a => val_step hlt a)
        unfold fitR at HNO HYE
        obtain ⟨s, hs⟩ : ∃ s, s = ss[k] := ⟨_, rfl⟩
        rw [← hs] at hc0 hc1 hc2 hc3 hkk HNO HYE HVS ha0 ha1 hv0 hv1
        obtain ⟨R, hR⟩ : ∃ R, R = (ss.take k).reverse := ⟨_, rfl⟩
        rw [← hR] at HNO HYE HVS hS
        have hA : I64 s.e.a := by unfold I64; omega
        obtain ⟨W1, hW1⟩ : ∃ W1, W1 = (wr.alloc (Obj.cells #[.int .i64 s.c, .int .i64 s.e.k, .int .i64 s.e.a, .int .i64 s.e.v] 66)).alloc (Obj.cells #[.int .i64 s.e.k, .int .i64 s.e.a, .int .i64 s.e.v] 64) := ⟨_, rfl⟩
        have ez : (wr.alloc (Obj.cells #[.int .i64 s.c, .int .i64 s.e.k, .int .i64 s.e.a, .int .i64 s.e.v] 66)).heap.size = wr.heap.size + 1 := World.size_alloc _ _
        have kp : Bk W1 (wr.heap.size + 1) #[.int .i64 s.e.k, .int .i64 s.e.a, .int .i64 s.e.v] 64 := by rw [hW1, ← ez]; exact Bk.new _ _ _
        have bW : Below wr.heap.size wr W1 := by rw [hW1]; exact ((Below.refl _ _).alloc (Nat.le_refl _) _).alloc (by rw [ez]; omega) _
        have hS1 := hS.below bW
        have hb1 : Below w.heap.size w W1 := hb.trans (bW.mono hb.size)
        have HW1 := hide hW1
        have HEZ := hide ez
        clear hs hR hW1 hS bW ez
        go_upto_region 8 with fail
        rw [← HW1.out]
        have q0 := (kp.cell 0).trans (rfl : _ = some (Value.int .i64 s.e.k))
        have q1 := (kp.cell 1).trans (rfl : _ = some (Value.int .i64 s.e.a))
        have q2 := (kp.cell 2).trans (rfl : _ = some (Value.int .i64 s.e.v))
        by_cases h1 : s.e.k = 1
        · rw [h1] at q0 kp HW1
          have HY := hide (HYE.out (.inl h1))
          have HV := hide (fun a => (by have := HVS.out a; simp only [h1, true_and] at this; exact this : valR a (ss.take (k + 1)).reverse = if s.e.a = a then s.e.v else valR a R))
          clear h1 HYE HNO HVS kp
          obtain ⟨D, hown, hD⟩ := hS1
          have HP := hide (sto_put hown.isMap hD HV.out)
          have hkey := key_i64 hA
          have hkm : k < maxLen := by unfold maxLen; omega
          clear hD
          go_wp2_with (first | (at_mapUpdate; refine wpList_mapUpdate_own _ rfl _ _ _ 69 rfl 2 2 lawK Tryz.underlying69 rdH M k D rfl hown hkm _ _ _ rfl rfl hkey (.held (.int .i64 s.e.v)) [] rfl ?_; intro w5 hown1 hgrow1) | go_in)
          have hb5 : Below w.heap.size w w5 := hb1.grown hgrow1 hb1.size (fun z e => by cases e; exact hM)
          go_roundw
          case rel => exact ⟨k + 1, by omega, by go_num, ⟨_, hown1, HP.out⟩, hb5, HY⟩
          case measure => simp [intOf]; omega
        · have h0 : s.e.k = 0 := by omega
          rw [h0] at q0 kp HW1
          have HV := hide (fun a => (by have := HVS.out a; rw [if_neg (fun hh => h1 hh.1)] at this; exact this : valR a (ss.take (k + 1)).reverse = valR a R))
          have look := hS1.look hA
          by_cases hf : s.e.v = valR s.e.a R
          · have HY := hide (HYE.out (.inr hf))
            have g1 : (s.e.v != valR s.e.a R) = false := by rw [← hf]; simp
            have HS2 := hide (hS1.same HV.out (Nat.le_succ k))
            clear hf h0 h1 HYE HNO HVS kp hS1
            go_wp2
            go_roundw
            case rel => exact ⟨k + 1, by omega, by go_num, HS2.out, hb1, HY⟩
            case measure => simp [intOf]; omega
          · have HE := hide (HNO.out (by rintro (h | h); exact h1 h; exact hf h))
            have g1 : (s.e.v != valR s.e.a R) = true := bne_iff_ne.2 hf
            clear hf h0 h1 HYE HNO HVS kp hS1
            go_wp2
            go_ret
            exact ⟨ret_bool HE.out.symm, hb1⟩
      · obtain rfl : k = ss.length := by omega
        have HE := hide (flatB_yes H0.out HF.out)
        go_wp2
        go_ret
        exact ⟨ret_bool HE.out.symm, hb⟩
  · have HE := hide (flatB_log h0)
    obtain ⟨F, hF⟩ : ∃ F, F = logF ss n := ⟨_, rfl⟩
    rw [← hF] at LF h0
    have g0 : (F != 0) = true := bne_iff_ne.2 h0
    have g1 : (F == 0) = false := beq_eq_false_iff_ne.2 h0
    clear hF h0
    go_enter Tryz.func6, Tryz.ntmps6
    go_wp2_with fail
    refine LF.out.mono ?_
    rintro e w1 ⟨rfl, b1⟩
    go_wp2
    go_ret
    exact ⟨ret_bool HE.out.symm, b1⟩
end Go.Proofs.YtnnfkmjhaljplaaGreat
namespace Go.Proofs.YtnnfkmjhaljplaaGreat
open Go.RowKit
set_option maxRecDepth 100000 in
set_option maxHeartbeats 1600000 in
theorem l9Flat_any (ss : List Stp) (n : Int) (A : Option Addr) (c : Nat) (w : World) (h0 : logF ss n = 0) (h : RdP w w.heap.size A ss) :
    Calls Tryz.prog 34 #[.slice A ss.length c] w fun e w' => e = .returned (.bool (flatB ss n)) ∧ Below w.heap.size w w' := by
  obtain ⟨i0, hi, hz0, hz1, hz2⟩ := info_parts info_cell
  obtain ⟨_, hl32, hG, _⟩ := logF_zero h0
  have HK := hide (fun s hs => (evF_zero (logG_all hG s hs).2))
  have H0 := hide h0
  obtain ⟨W, hW⟩ : ∃ W, W = w.alloc (Obj.cells #[] 139) := ⟨_, rfl⟩
  have B0 : Below w.heap.size w W := by rw [hW]; exact (Below.refl _ _).alloc (Nat.le_refl _) _
  have o0 : W.ownsRow w.heap.size 139 2 (.slice (some ⟨w.heap.size, 0, none⟩) 0 0) 0 (cels []) := by
    rw [hW]; exact World.ownsRow_lit (base := w.heap.size) (e := 139) (size := 2) w #[] 0 (Nat.le_refl _) (by unfold maxLen; omega) rfl
  have HW := hide hW
  clear hW hG h0
  go_enter Tryz.func34, Tryz.ntmps34
  go_upto_region 2 with fail
  rw [← HW.out]
  go_wp2
  go_loopw [3, 9] (fun v i wr => ∃ (k : Nat) (M : List Cel), k ≤ ss.length ∧ i = .int .i64 k ∧ wr.ownsRow w.heap.size 139 2 v M.length (cels M) ∧ Below w.heap.size w wr ∧ Hid (M = memC (ss.take k).reverse) ∧ Hid (flatR (ss.take k).reverse)) (fun _ i _ => ss.length - (intOf i).toNat)
  case atStart => exact ⟨0, [], Nat.zero_le _, rfl, o0, B0, hide rfl, hide trivial⟩
  case round =>
    clear o0 B0
    obtain ⟨k, M, hk, rfl, ho, hb, HM, HF⟩ := hrel
    obtain ⟨Av, cv, hv⟩ := own_shape ho
    subst hv
    by_cases hlt : k < ss.length
    · obtain ⟨b, off, rfl, hbb, hc0, hc1, hc2, hc3⟩ := (h.below hb).get hlt
      have hkk := (HK.out _ (List.getElem_mem hlt)).1
      have HST := hide (fun h1 => memC_store hlt h1)
      have HLD := hide (fun h1 => memC_load hlt h1)
      have HNO := hide (fun h1 => flatB_no (n := n) hlt h1)
      have HYE := hide (fun h1 => flat_step hlt HF.out h1)
      have HRM := hide (fun a => read_memC a (ss.take k).reverse)
      have hml : M.length ≤ 32 := by have := memC_len (ss.take k).reverse; rw [HM.out]; rw [List.length_reverse, List.length_take] at this; omega
      unfold fitR at HNO HYE
      rw [← HM.out] at HRM HLD HST
      obtain ⟨s, hs⟩ : ∃ s, s = ss[k] := ⟨_, rfl⟩
      rw [← hs] at hc1 hc2 hc3 hkk HST HLD HNO HYE
      obtain ⟨R, hR⟩ : ∃ R, R = (ss.take k).reverse := ⟨_, rfl⟩
      rw [← hR] at HNO HYE HRM HM
      obtain ⟨W1, hW1⟩ : ∃ W1, W1 = wr.alloc (Obj.cells #[.int .i64 s.e.k, .int .i64 s.e.a, .int .i64 s.e.v] 64) := ⟨_, rfl⟩
      have kp : Bk W1 wr.heap.size #[.int .i64 s.e.k, .int .i64 s.e.a, .int .i64 s.e.v] 64 := by rw [hW1]; exact Bk.new wr _ _
      have ho1 : W1.ownsRow w.heap.size 139 2 (.slice Av M.length cv) M.length (cels M) := by rw [hW1]; exact ho.alloc _
      have hb1 : Below w.heap.size w W1 := by rw [hW1]; exact hb.alloc hb.size _
      have HW1 := hide hW1
      clear hs hR hW1 ho hb hc0
      go_upto_region 6 with fail
      rw [← HW1.out]
      have q0 := (kp.cell 0).trans (rfl : _ = some (Value.int .i64 s.e.k))
      have q1 := (kp.cell 1).trans (rfl : _ = some (Value.int .i64 s.e.a))
      have q2 := (kp.cell 2).trans (rfl : _ = some (Value.int .i64 s.e.v))
      rcases hkk with h0 | h1
      · have hne : ¬ s.e.k = 1 := by omega
        have HC := hide (fun V (hV : RdC V V.heap.size Av M) => l7Read_any M Av cv s.e.a V (by unfold maxLen; omega) hV)
        have rC := RdC.of_own ho1
        rw [HRM.out] at HC
        rw [h0] at q0 kp HW1
        by_cases hf : s.e.v = valR s.e.a R
        · have HY := hide (HYE.out (.inr hf))
          have HL := hide (HLD.out hne)
          have g1 : (s.e.v != valR s.e.a R) = false := by rw [← hf]; simp
          have HT := hide (And.intro ho1 hb1)
          clear hf h0 hne HYE HNO HLD HST HRM ho1 hb1 kp
          go_quiet ((go_at_call 64; exact Calls.quiet_of_same (Calls.mono (HC.out (World.drewN W1 _) (RdC.drewN rC _)) (fun _ _ h => ⟨h.1, h.2.symm⟩))))
          go_wp2
          go_roundw
          case rel => exact ⟨k + 1, M, by omega, by go_num, own_below HT.out.1 (below_drewN (Below.refl _ _) _) (Nat.le_refl _), below_drewN HT.out.2 _, hide HL.out.symm, HY⟩
          case measure => simp [intOf]; omega
        · have HE := hide (HNO.out (by rintro (h | h); exact hne h; exact hf h))
          have g1 : (s.e.v != valR s.e.a R) = true := bne_iff_ne.2 hf
          clear hf h0 hne HYE HNO HLD HST HRM
          go_quiet ((go_at_call 64; exact Calls.quiet_of_same (Calls.mono (HC.out (World.drewN W1 _) (RdC.drewN rC _)) (fun _ _ h => ⟨h.1, h.2.symm⟩))))
          go_wp2
          go_ret
          exact ⟨ret_bool HE.out.symm, below_drewN hb1 _⟩
      · rw [h1] at q0 kp HW1
        have HY := hide (HYE.out (.inl h1))
        have HL := hide (HST.out h1)
        clear h1 HYE HNO HLD HST HRM
        go_quiet (fail)
        generalize hV : W1.drewN nq = V at *
        have kV : Bk V wr.heap.size #[.int .i64 1, .int .i64 s.e.a, .int .i64 s.e.v] 64 := by rw [← hV]; exact kp.drewN _
        have hbV : Below w.heap.size w V := by rw [← hV]; exact below_drewN hb1 _
        have hoV : V.ownsRow w.heap.size 139 2 (.slice Av M.length cv) M.length (cels M) := by rw [← hV]; exact own_below ho1 (below_drewN (Below.refl _ _) _) (Nat.le_refl _)
        clear hV kp hb1 ho1 q0 q1 q2 HW1
        have q0 := (kV.cell 0).trans (rfl : _ = some (Value.int .i64 1))
        have q1 := (kV.cell 1).trans (rfl : _ = some (Value.int .i64 s.e.a))
        have q2 := (kV.cell 2).trans (rfl : _ = some (Value.int .i64 s.e.v))
        have rC := (RdC.of_own hoV).below ((Below.refl V.heap.size V).alloc (Nat.le_refl _) (Obj.cells #[.int .i64 s.e.a, .int .i64 s.e.v] 139))
        have oL := World.ownsRow_lit (base := w.heap.size) (e := 139) (size := 2) V #[.int .i64 s.e.a, .int .i64 s.e.v] 1 hbV.size (by unfold maxLen; omega) rfl
        have a63 : 1 + M.length ≤ maxLen := by unfold maxLen; omega
        have aby : (1 + M.length) * 16 ≤ 140737488355328 := by omega
        have bA := hbV.alloc hbV.size (Obj.cells #[.int .i64 s.e.a, .int .i64 s.e.v] 139)
        have abs := bA.size
        have HB := hide bA
        clear kV hbV hoV bA
        go_wp2_with (at_builtin; refine wpList_append_rc _ rfl _ _ 33 rfl w.heap.size 139 i0 (.agg #[.int .i64 0, .int .i64 0]) 16 Tryz.underlying33 hi hz0 hz1 hz2 rfl _ _ _ rfl oL Av M cv _ rfl rC a63 aby abs ?_; intro v5 w5 o5 g5 hat5)
        have hb5 := HB.out.trans (grown_below oL g5 abs (Nat.le_refl _))
        have o6 : w5.ownsRow w.heap.size 139 2 v5 ((⟨s.e.a, s.e.v⟩ : Cel) :: M).length (cels ((⟨s.e.a, s.e.v⟩ : Cel) :: M)) := by rw [List.length_cons, Nat.add_comm]; exact o5
        clear o5 g5 hat5 oL
        go_roundw
        case rel => exact ⟨k + 1, _, by omega, by go_num, o6, hb5, hide HL.out.symm, HY⟩
        case measure => simp [intOf]; omega
    · obtain rfl : k = ss.length := by omega
      have HE := hide (flatB_yes H0.out HF.out)
      go_wp2
      go_ret
      exact ⟨ret_bool HE.out.symm, hb⟩
set_option maxRecDepth 100000 in
set_option maxHeartbeats 800000 in
theorem specFlat_any (ss : List Stp) (n : Int) (A : Option Addr) (c : Nat) (w : World) (hm : ss.length ≤ maxLen) (h : RdP w w.heap.size A ss) :
    Calls Tryz.prog 9 #[.slice A ss.length c, .int .i64 n] w fun e w' => e = .returned (.bool (flatB ss n)) ∧ Below w.heap.size w w' := by
  have LF := hide (specLogF_any ss n A c w hm h)
  by_cases h0 : logF ss n = 0
  · have FL := hide (fun V (hV : RdP V V.heap.size A ss) => l9Flat_any ss n A c V h0 hV)
    rw [h0] at LF
    clear h0
    go_enter Tryz.func9, Tryz.ntmps9
    go_wp2_with fail
    refine LF.out.mono ?_
    rintro e w1 ⟨rfl, b1⟩
    go_wp2_with fail
    refine (FL.out w1 ((h.below b1).lt)).mono ?_
    rintro e w2 ⟨rfl, b2⟩
    go_wp2
    go_ret
    exact ⟨rfl, b1.trans (b2.mono b1.size)⟩
  · have HE := hide (flatB_log h0)
    obtain ⟨F, hF⟩ : ∃ F, F = logF ss n := ⟨_, rfl⟩
    rw [← hF] at LF h0
    have g1 : (F == 0) = false := beq_eq_false_iff_ne.2 h0
    clear hF h0
    go_enter Tryz.func9, Tryz.ntmps9
    go_wp2_with fail
    refine LF.out.mono ?_
    rintro e w1 ⟨rfl, b1⟩
    go_wp2
    go_ret
    exact ⟨ret_bool HE.out.symm, b1⟩
end Go.Proofs.YtnnfkmjhaljplaaGreat
namespace Go.Proofs.YtnnfkmjhaljplaaGreat
open Go.RowKit
/-- A split log of N cores in the call's own memory, its row in block gv. -/
structure SpAt (W : World) (base gv N : Nat) (t : List (List Ev)) (us : List Value) (w : World) : Prop where
  own : OwnT w base (.slice (some ⟨gv, 0, none⟩) N N) t us
  len : t.length = N
  old : Below W.heap.size W w
  lo : W.heap.size ≤ base
section
variable {W w w1 : World} {base gv N i : Nat} {t : List (List Ev)} {us : List Value} {u u' : Value} {es' : List Ev}
theorem SpAt.below (h : SpAt W base gv N t us w) (hb : Below w.heap.size w w1) : SpAt W base gv N t us w1 := ⟨h.own.below hb, h.len, h.old.trans (hb.mono h.old.size), h.lo⟩
theorem SpAt.alloc (h : SpAt W base gv N t us w) (o : Obj) : SpAt W base gv N t us (w.alloc o) := h.below ((Below.refl _ _).alloc (Nat.le_refl _) _)
theorem SpAt.drew (h : SpAt W base gv N t us w) : SpAt W base gv N t us w.drew := h.below (Below.refl _ _).drew
theorem SpAt.hgv (h : SpAt W base gv N t us w) : base ≤ gv ∧ gv < w.heap.size := h.own.row.lt gv rfl
theorem SpAt.at_ (h : SpAt W base gv N t us w) (hi : i < N) (hit : i < t.length) : ∃ a c, us[i]? = some (.slice a t[i].length c) ∧ w.ownsRow base 64 3 (.slice a t[i].length c) t[i].length (evs t[i]) ∧ (∀ b, (Value.slice a t[i].length c).ownBlock = some b → b ≠ gv) ∧ w.cell? ⟨gv, i, none⟩ = some (.slice a t[i].length c) := by
  have hl := h.len
  subst hl
  obtain ⟨u, h1, h2, h3⟩ := h.own.rows i hit
  obtain ⟨a, c, rfl⟩ := own_shape h2
  refine ⟨a, c, h1, h2, fun b hb e => h3 b hb (by rw [e]; rfl), ?_⟩
  rw [h.own.row.cellAt i (by have := h.own.len; omega)]
  exact h1
theorem SpAt.at2 {L : List Ev} (h : SpAt W base gv N t us w) (hui : us[i]? = some u) (hL : t[i]? = some L) : w.ownsRow base 64 3 u L.length (evs L) := by
  obtain ⟨hi, hu, _⟩ := h.own.at_ hui
  rw [List.getElem?_eq_getElem hi, Option.some.injEq] at hL
  rw [← hL]
  exact hu
theorem SpAt.store (h : SpAt W base gv N t us w) (hui : us[i]? = some u) (hg : w.grownBy w1 u.ownBlock) (hu' : w1.ownsRow base 64 3 u' es'.length (evs es')) (hat : u'.ownBlock = u.ownBlock ∨ u'.ownBlock = some w.heap.size) :
    SpAt W base gv N (t.set i es') (us.set i u') (w1.setCell ⟨gv, i, none⟩ u') := by
  have hgv := h.hgv
  have hlo := h.lo
  have hl := h.len
  subst hl
  obtain ⟨hi, hu, hu3⟩ := h.own.at_ hui
  have := h.own.swap (es' := es') hui hg (fun b e => .inl e) hu' (fun b hb => by
    rcases hat with e | e
    · exact .inl (e.symm.trans hb)
    · rw [e] at hb; simp only [Option.some.injEq] at hb; exact .inr (Nat.le_of_eq hb))
  refine ⟨this, by rw [List.length_set], (h.old.trans (grown_below hu hg h.old.size h.lo)).setCell (by simp only; omega) _, h.lo⟩
theorem SpAt.row5 (h : SpAt W base gv N t us w) (hui : us[i]? = some u) (hg : w.grownBy w1 u.ownBlock) : w1.cell? ⟨gv, i, none⟩ = some u ∧ w1.frozen? ⟨gv, i, none⟩ = false := by
  have hl := h.len
  subst hl
  obtain ⟨hi, hu, hu3⟩ := h.own.at_ hui
  have r := h.own.row.kept hg (own_sep fun b hb e => by simp only [Value.ownBlock, Option.some.injEq] at hb; subst hb; exact hu3 _ e rfl)
  refine ⟨?_, r.frozenAt i⟩
  rw [r.cellAt i (by have := h.own.len; omega)]
  exact hui
end
/-- What SplitLog tells. -/
def SlPost (ss : List Stp) (n : Int) (w : World) (e : Ending) (w' : World) : Prop :=
  ∃ A c us, e = .returned (.agg #[.int .i64 (logF ss n), .slice A (slT ss n).length c]) ∧ OwnT w' w.heap.size (.slice A (slT ss n).length c) (slT ss n) us ∧ Below w.heap.size w w'
set_option maxRecDepth 100000 in
set_option maxHeartbeats 1600000 in
theorem implSp_any (ss : List Stp) (n : Int) (A : Option Addr) (c : Nat) (w : World) (hm : ss.length ≤ maxLen) (h : RdP w w.heap.size A ss) :
    Calls Tryz.prog 11 #[.slice A ss.length c, .int .i64 n] w (SlPost ss n w) := by
  unfold SlPost
  obtain ⟨W, hW⟩ : ∃ W, W = w.alloc (Obj.cells #[Value.int .i64 0, .slice none 0 0] 41) := ⟨_, rfl⟩
  have HW := hide hW
  have hR : RdP W W.heap.size A ss := by subst hW; exact (h.alloc (Nat.le_refl _) _).lt
  clear hW h
  have LF := hide (implLogF_any ss n A c W hm hR)
  by_cases h0 : logF ss n = 0
  · rw [sl_ok h0]
    rw [h0] at LF ⊢
    obtain ⟨hn, hl, hG, _⟩ := logF_zero h0
    have HA := hide (logG_all hG)
    obtain ⟨N, rfl⟩ := Int.eq_ofNat_of_zero_le (show 0 ≤ n by omega)
    rw [Int.toNat_natCast]
    have hN4 : N ≤ 4 := by omega
    have hN1 : 1 ≤ N := by omega
    clear h0 hn hG
    go_enter Tryz.func11, Tryz.ntmps11
    go_wp2_with fail
    rw [← HW.out]
    refine LF.out.mono ?_
    rintro e w1 ⟨rfl, b1⟩
    have z1 := b1.size
    clear LF
    obtain ⟨i1, hj, hy0, hy1, hy2⟩ := info_parts info_events
    obtain ⟨i0, hi0, hz0, hz1, hz2⟩ := info_parts info_event
    go_wp2_with (at_make; refine wpList_make_full _ rfl _ _ 39 rfl W.heap.size 88 i1 (.slice none 0 0) 1 Tryz.underlying39 hj hy0 hy1 .i64 .i64 _ _ N rfl rfl rfl rfl (by rw [hy2]; omega) (by unfold maxLen; omega) z1 ?_; intro w2 hown hg)
    rw [made_slices] at hown
    have oT := ownT_made hown
    rw [← spT_nil] at oT
    obtain ⟨gv, hgv⟩ : ∃ g, g = w1.heap.size := ⟨_, rfl⟩
    obtain ⟨base, hbase⟩ : ∃ g, g = W.heap.size := ⟨_, rfl⟩
    have sp : SpAt W base gv N (spT N []) (List.replicate N (.slice none 0 0)) w2 := by
      rw [hgv, hbase]
      exact ⟨oT, spT_length N [], b1.grown hg z1 (fun k e => by cases e), Nat.le_refl _⟩
    have HGV := hide hgv
    clear hg hown oT hgv
    rw [← HGV.out]
    have HBASE := hide hbase
    clear hbase
    go_wp2_with fail
    go_loopw [20] (fun i wr => ∃ (k : Nat) (t : List (List Ev)) (us : List Value), k ≤ ss.length ∧ i = .int .i64 k ∧ SpAt W base gv N t us wr ∧ Hid (t = spT N (ss.take k))) (fun i _ => ss.length - (intOf i).toNat)
    case atStart => exact ⟨0, _, _, Nat.zero_le _, rfl, sp, hide rfl⟩
    case round =>
      obtain ⟨k, t, us, hk, rfl, hs, HX⟩ := hrel
      clear sp
      by_cases hlt : k < ss.length
      · obtain ⟨b, off, rfl, hbb, hc0, hc1, hc2, hc3⟩ := (hR.below hs.old).get hlt
        have hcr := (HA.out _ (List.getElem_mem hlt)).1
        obtain ⟨i, hi⟩ := Int.eq_ofNat_of_zero_le hcr.1
        have hiN : i < N := by omega
        have HT := hide (show t.set i (colE (i : Int) (ss.take k) ++ [ss[k].e]) = spT N (ss.take (k + 1)) by rw [HX.out, List.take_succ_eq_append_getElem hlt, spT_snoc N _ _ i hi])
        have hit : i < t.length := by rw [hs.len]; exact hiN
        have HL := hide (show t[i] = colE (i : Int) (ss.take k) by have e := HX.out; subst e; exact spT_get N _ i hit)
        have hl8 : t[i].length ≤ 32 := by rw [HL.out, colE_length]; exact Nat.le_trans (cntL_le _ _) (by rw [List.length_take]; omega)
        rw [← HL.out] at HT
        obtain ⟨ak, ck, hu, hown, hu3, hxk⟩ := hs.at_ hiN hit
        obtain ⟨L, hL⟩ : ∃ L, L = t[i] := ⟨_, rfl⟩
        rw [← hL] at HT hl8 hu hown hu3 hxk
        obtain ⟨x, hx⟩ : ∃ x, x = ss[k] := ⟨_, rfl⟩
        rw [← hx] at HT hi
        have hA2 : ¬ N ≤ i := by omega
        have hka : (0 : Int) ≤ (i : Int) := by omega
        have hkb : (i : Int) < (N : Int) := by omega
        have hgv := hs.hgv
        have hlo := hs.lo
        have hzW := hs.old.size
        have hLi : t[i]? = some L := by rw [hL]; exact List.getElem?_eq_getElem hit
        have hold : ∀ b, (Value.slice ak L.length ck).ownBlock = some b → base ≤ b ∧ b < wr.heap.size := fun b hb => hown.lt b hb
        clear hcr hit HL hL
        rw [← hx, hi] at hc0
        rw [← hx] at hc1 hc2 hc3
        clear hx hi hown hxk
        go_wp2_with fail
        generalize hwx : wr.alloc (Obj.cells #[.int .i64 i, .int .i64 x.e.k, .int .i64 x.e.a, .int .i64 x.e.v] 66) = wx
        obtain ⟨p, hp⟩ : ∃ p, p = wr.heap.size := ⟨_, rfl⟩
        rw [← hp] at hold hgv
        rw [← hp]
        have kp : Bk wx.drew p #[.int .i64 i, .int .i64 x.e.k, .int .i64 x.e.a, .int .i64 x.e.v] 66 := by rw [← hwx, hp]; exact Bk.new wr _ _
        have hsx : SpAt W base gv N t us wx.drew := by rw [← hwx]; exact (hs.alloc _).drew
        have hgp : p ≠ gv := by omega
        clear hwx hp hs hc0 hc1 hc2 hc3
        have AC : ∀ w', Bk w' p #[.int .i64 i, .int .i64 x.e.k, .int .i64 x.e.a, .int .i64 x.e.v] 66 → w'.cell? ⟨p, 0, none⟩ = some (Value.int .i64 i) ∧ w'.cell? ⟨p, 1, none⟩ = some (Value.int .i64 x.e.k) ∧ w'.cell? ⟨p, 2, none⟩ = some (Value.int .i64 x.e.a) ∧ w'.cell? ⟨p, 3, none⟩ = some (Value.int .i64 x.e.v) := fun w' h => ⟨(h.cell 0).trans rfl, (h.cell 1).trans rfl, (h.cell 2).trans rfl, (h.cell 3).trans rfl⟩
        have a0 := AC _ kp
        have s0 : wx.drew.cell? ⟨gv, i, none⟩ = some (.slice ak L.length ck) := (hsx.row5 hu (World.grownBy.refl _ _)).1
        obtain ⟨wy, hwy⟩ : ∃ wy, wy = wx.drew := ⟨_, rfl⟩
        rw [← hwy] at a0 s0 kp hsx
        have hs1 := hsx.alloc (.cells #[.int .i64 x.e.k, .int .i64 x.e.a, .int .i64 x.e.v] 64)
        have kp1 := kp.alloc (.cells #[.int .i64 x.e.k, .int .i64 x.e.a, .int .i64 x.e.v] 64)
        have a1 := AC _ kp1
        have s1 : (wy.alloc (.cells #[.int .i64 x.e.k, .int .i64 x.e.a, .int .i64 x.e.v] 64)).cell? ⟨gv, i, none⟩ = some (.slice ak L.length ck) := (hs1.row5 hu (World.grownBy.refl _ _)).1
        have hBl := RdE.one_new wy x.e 64
        have ho1 := hs1.at2 hu hLi
        have hzy : base ≤ (wy.alloc (.cells #[.int .i64 x.e.k, .int .i64 x.e.a, .int .i64 x.e.v] 64)).heap.size := by have := hs1.hgv; omega
        have hnp : some p ≠ (Value.slice ak L.length ck).ownBlock := fun e => by have := (hold p e.symm).2; omega
        subst hwy
        clear kp hsx
        refine wp_region_F 11 (fun w' => w'.cell? ⟨p, 0, none⟩ = some (Value.int .i64 i) ∧ w'.cell? ⟨p, 1, none⟩ = some (Value.int .i64 x.e.k) ∧ w'.cell? ⟨p, 2, none⟩ = some (Value.int .i64 x.e.a) ∧ w'.cell? ⟨p, 3, none⟩ = some (Value.int .i64 x.e.v)) (fun w' => w'.cell? ⟨gv, i, none⟩ = some (Value.slice ak L.length ck)) (by kernel_rfl) ⟨a0, s0⟩ (fun hHeld => ?_)
        try simp only [Act.put, List.setIfInBounds_toArray, List.set_cons_zero, List.set_cons_succ]
        refine wpAnyF_take (i := 0) (v := ?_) (by (simp only [List.getElem?_toArray, List.getElem?_cons_zero]; rfl)) (by kernel_rfl) (by kernel_rfl) (by kernel_rfl) (by decide) (by exact fun _ _ _ h => h) ⟨hHeld.1, .inr hHeld.2⟩ (Or.inl ⟨by rfl, ?_⟩) ?_
        rotate_left
        · (intro w' _; go_simp <;> with_reducible rfl)
        try simp only [Act.put, List.setIfInBounds_toArray, List.set_cons_zero, List.set_cons_succ]
        refine wpAnyF_take (i := 1) (v := ?_) (by (simp only [List.getElem?_toArray, List.getElem?_cons_succ, List.getElem?_cons_zero]; rfl)) (by kernel_rfl) (by kernel_rfl) (by kernel_rfl) (by decide) (by exact fun _ _ _ h => h) ⟨hHeld.1, .inr hHeld.2⟩ (Or.inl ⟨by rfl, ?_⟩) ?_
        rotate_left
        · (intro w' _; go_simp <;> with_reducible rfl)
        try simp only [Act.put, List.setIfInBounds_toArray, List.set_cons_zero, List.set_cons_succ]
        refine wpAnyF_keep (i := 2) (v := ?_) (by (simp only [List.getElem?_toArray, List.getElem?_cons_succ, List.getElem?_cons_zero]; rfl)) (by kernel_rfl) (by kernel_rfl) (by kernel_rfl) (by decide) (by exact fun _ _ _ h => h) ⟨hHeld.1, .inr hHeld.2⟩ (Or.inl ⟨by rfl, ?_⟩) ?_
        rotate_left
        · (intro w' hSw; (try dsimp only at hSw); obtain ⟨hSa0, hSa1, hSa2, hSa3⟩ := hSw; go_simp <;> with_reducible rfl)
        try simp only [Act.put, List.setIfInBounds_toArray, List.set_cons_zero, List.set_cons_succ]
        refine wpAnyF_take (i := 3) (v := ?_) (by (simp only [List.getElem?_toArray, List.getElem?_cons_succ, List.getElem?_cons_zero]; rfl)) (by kernel_rfl) (by kernel_rfl) (by kernel_rfl) (by decide) (by exact fun _ _ _ h => h) ⟨hHeld.1, .inr hHeld.2⟩ (Or.inl ⟨by rfl, ?_⟩) ?_
        rotate_left
        · (intro w' _; go_simp <;> with_reducible rfl)
        try simp only [Act.put, List.setIfInBounds_toArray, List.set_cons_zero, List.set_cons_succ]
        refine wpAnyF_take (i := 4) (v := ?_) (by (simp only [List.getElem?_toArray, List.getElem?_cons_succ, List.getElem?_cons_zero]; rfl)) (by kernel_rfl) (by kernel_rfl) (by kernel_rfl) (by decide) (by exact fun _ _ _ h => h) ⟨hHeld.1, .inr hHeld.2⟩ (Or.inl ⟨by rfl, ?_⟩) ?_
        rotate_left
        · (intro w' _; go_simp <;> with_reducible rfl)
        try simp only [Act.put, List.setIfInBounds_toArray, List.set_cons_zero, List.set_cons_succ]
        refine wpAnyF_keep (i := 5) (v := ?_) (by (simp only [List.getElem?_toArray, List.getElem?_cons_succ, List.getElem?_cons_zero]; rfl)) (by kernel_rfl) (by kernel_rfl) (by kernel_rfl) (by decide) (by exact fun _ _ _ h => h) ⟨hHeld.1, .inr hHeld.2⟩ (Or.inl ⟨by rfl, ?_⟩) ?_
        rotate_left
        · (intro w' hSw; (try dsimp only at hSw); obtain ⟨hSa0, hSa1, hSa2, hSa3⟩ := hSw; go_simp <;> with_reducible rfl)
        try simp only [Act.put, List.setIfInBounds_toArray, List.set_cons_zero, List.set_cons_succ]
        refine wpAnyF_take (i := 6) (v := ?_) (by (simp only [List.getElem?_toArray, List.getElem?_cons_succ, List.getElem?_cons_zero]; rfl)) (by kernel_rfl) (by kernel_rfl) (by kernel_rfl) (by decide) (by exact fun _ _ _ h => h) ⟨hHeld.1, .inr hHeld.2⟩ (Or.inl ⟨by rfl, ?_⟩) ?_
        rotate_left
        · (intro w' _; go_simp <;> with_reducible rfl)
        try simp only [Act.put, List.setIfInBounds_toArray, List.set_cons_zero, List.set_cons_succ]
        refine wpAnyF_load (i := 7) (v := ?_) (by (simp only [List.getElem?_toArray, List.getElem?_cons_succ, List.getElem?_cons_zero]; rfl)) (by kernel_rfl) (by kernel_rfl) (by kernel_rfl) (by decide) (by exact fun _ _ _ h => h) hHeld (by kernel_rfl) (by kernel_rfl) (Or.inl ⟨by rfl, ?_⟩) ?_
        rotate_left
        · (intro w' hSw; (try dsimp only at hSw); obtain hSb0 := hSw; go_simp <;> with_reducible rfl)
        try simp only [Act.put, List.setIfInBounds_toArray, List.set_cons_zero, List.set_cons_succ]
        refine wpAnyF_take (i := 8) (v := ?_) (by (simp only [List.getElem?_toArray, List.getElem?_cons_succ, List.getElem?_cons_zero]; rfl)) (by kernel_rfl) (by kernel_rfl) (by kernel_rfl) (by decide) (by exact fun _ _ _ h => h) ⟨hHeld.1, .inr hHeld.2⟩ (Or.inl ⟨by rfl, ?_⟩) ?_
        rotate_left
        · (intro w' _; go_simp <;> with_reducible rfl)
        try simp only [Act.put, List.setIfInBounds_toArray, List.set_cons_zero, List.set_cons_succ]
        refine wpAnyF_keep (i := 9) (v := ?_) (by (simp only [List.getElem?_toArray, List.getElem?_cons_succ, List.getElem?_cons_zero]; rfl)) (by kernel_rfl) (by kernel_rfl) (by kernel_rfl) (by decide) (by exact fun _ _ _ h => h) ⟨hHeld.1, .inr hHeld.2⟩ (Or.inl ⟨by rfl, ?_⟩) ?_
        rotate_left
        · (intro w' hSw; (try dsimp only at hSw); obtain ⟨hSa0, hSa1, hSa2, hSa3⟩ := hSw; go_simp <;> with_reducible rfl)
        try simp only [Act.put, List.setIfInBounds_toArray, List.set_cons_zero, List.set_cons_succ]
        refine wpAnyF_ready (rs := [10]) (by kernel_rfl) (by simp) ?_
        refine AllReadyF.cons (by (simp only [List.getElem?_toArray, List.getElem?_cons_succ, List.getElem?_cons_zero]; rfl)) (fun K hK => ?_) AllReadyF.nil
        go_simp
        refine hK.out _ _ ⟨a1, s1⟩ (fun hNew => ?_)
        clear hK K hHeld
        have hHeld := hNew
        clear hNew
        try simp only [Act.put, List.setIfInBounds_toArray, List.set_cons_zero, List.set_cons_succ]
        refine wpAnyF_ready (rs := [11]) (by kernel_rfl) (by simp) ?_
        refine AllReadyF.last (by (simp only [List.getElem?_toArray, List.getElem?_cons_succ, List.getElem?_cons_zero]; rfl)) (by kernel_rfl) (fun K hK => ?_) AllReadyF.nil
        refine step_append_re _ (by rfl) (.tmp 31) (.tmp 34) 88 (by rfl) base 64 i0 (.agg #[.int .i64 0, .int .i64 0, .int .i64 0]) 24 Tryz.underlying88 hi0 hz0 hz1 hz2 rfl (.slice ak L.length ck) L.length (evs L) (by rfl) ho1 (some ⟨wx.drew.heap.size, 0, none⟩) [x.e] 1 (wx.drew.heap.size + 1) (by rfl) hBl (by unfold maxLen; simp only [List.length_cons, List.length_nil]; omega) (by simp only [List.length_cons, List.length_nil]; omega) hzy ?_
        intro v5 w5 o5 g5 hat5
        simp only [List.length_cons, List.length_nil, Nat.zero_add] at o5
        rw [show evs L ++ evs [x.e] = evs (L ++ [x.e]) from (evs_append _ _).symm] at o5
        obtain ⟨D5, d5, hv5⟩ := own_shape o5
        subst hv5
        obtain ⟨hc5, hf5⟩ := hs1.row5 hu g5
        have H5 := hide (hs1.store (es' := L ++ [x.e]) hu g5 (by rw [List.length_append, List.length_singleton]; exact o5) hat5)
        have kp5 := kp1.grown g5 hnp
        have A5 := AC _ kp5
        have A6 := AC _ (kp5.far (p := ⟨gv, i, none⟩) hgp (.slice D5 (L.length + 1) d5))
        clear kp1 kp5
        clear o5 g5 hat5 ho1 hBl hs1
        refine hK.out _ _ A5 ?_
        clear hK K
        try simp only [Act.put, List.setIfInBounds_toArray, List.set_cons_zero, List.set_cons_succ]
        refine wpAnyF_take (i := 12) (v := ?_) (by (simp only [List.getElem?_toArray, List.getElem?_cons_succ, List.getElem?_cons_zero]; rfl)) (by kernel_rfl) (by kernel_rfl) (by kernel_rfl) (by decide) (by exact fun _ _ _ h => h) ⟨A5, .inl (by kernel_rfl)⟩ (Or.inl ⟨by rfl, ?_⟩) ?_
        rotate_left
        · (intro w' _; go_simp <;> with_reducible rfl)
        try simp only [Act.put, List.setIfInBounds_toArray, List.set_cons_zero, List.set_cons_succ]
        refine wpAnyF_ready (rs := [13]) (by kernel_rfl) (by simp) ?_
        refine AllReadyF.last (by (simp only [List.getElem?_toArray, List.getElem?_cons_succ, List.getElem?_cons_zero]; rfl)) (by kernel_rfl) (fun K hK => ?_) AllReadyF.nil
        go_simp
        refine hK.out _ _ A6 ?_
        clear hK K
        try simp only [Act.put, List.setIfInBounds_toArray, List.set_cons_zero, List.set_cons_succ]
        refine wpAnyF_done (by kernel_rfl) ?_ _
        go_wp2
        go_roundw
        case rel => exact ⟨k + 1, _, _, by omega, by go_num, H5.out, HT⟩
        case measure => simp [intOf]; omega
      · obtain rfl : k = ss.length := by omega
        rw [List.take_length] at HX
        have hb := hs.old
        have hgv := hs.hgv
        have q0 := W_cell HW.out hb 0
        have q1 := W_cell HW.out hb 1
        have f0 := W_frozen HW.out hb 0
        have f1 := W_frozen HW.out hb 1
        simp at q0 q1
        have hzz := W_size HW.out
        have O1 := hide (show OwnT ((wr.setCell ⟨w.heap.size, 0, none⟩ (.int .i64 0)).setCell ⟨w.heap.size, 1, none⟩ (.slice (some ⟨gv, 0, none⟩) N N)) base (.slice (some ⟨gv, 0, none⟩) N N) t us from (hs.own.kept (grown_set wr w.heap.size 0 (.int .i64 0)) (fun b e => by cases e; rw [HBASE.out]; omega)).kept (grown_set _ w.heap.size 1 _) (fun b e => by cases e; rw [HBASE.out]; omega))
        clear hs
        go_wp2
        refine bodyPost_ret (v := .agg #[.int .i64 0, .slice (some ⟨gv, 0, none⟩) N N]) (by simp [results, Tryz.results11, go_sem, q0, q1]) rfl ?_
        have e := HX.out
        subst e
        have hlen : (spT N ss).length = N := spT_length N ss
        rw [hlen]
        exact ⟨some ⟨gv, 0, none⟩, N, us, rfl, O1.out.mono (by rw [HBASE.out]; omega), ((W_below HW.out hb).setCell (Nat.le_refl _) _).setCell (Nat.le_refl _) _⟩
  · rw [sl_bad h0]
    obtain ⟨F, hF⟩ : ∃ F, F = logF ss n := ⟨_, rfl⟩
    rw [← hF] at LF h0 ⊢
    have g0 : (F != 0) = true := bne_iff_ne.2 h0
    have g1 : (F == 0) = false := beq_eq_false_iff_ne.2 h0
    clear hF h0
    go_enter Tryz.func11, Tryz.ntmps11
    go_wp2_with fail
    rw [← HW.out]
    refine LF.out.mono ?_
    rintro e w1 ⟨rfl, hb⟩
    have q0 := W_cell HW.out hb 0
    have q1 := W_cell HW.out hb 1
    have f0 := W_frozen HW.out hb 0
    have f1 := W_frozen HW.out hb 1
    simp at q0 q1
    go_wp2
    refine bodyPost_ret (v := .agg #[.int .i64 F, .slice none 0 0]) (by simp [results, Tryz.results11, go_sem, q0, q1]) rfl ?_
    exact ⟨none, 0, [], rfl, ⟨World.ownsRow_nil _ _ _ _, fun i hi => by simp at hi, fun i j u u' _ hu => by simp at hu⟩, ((W_below HW.out hb).setCell (Nat.le_refl _) _).setCell (Nat.le_refl _) _⟩
end Go.Proofs.YtnnfkmjhaljplaaGreat
