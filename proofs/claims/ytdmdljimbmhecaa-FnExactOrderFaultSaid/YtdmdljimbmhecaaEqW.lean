/- Contracts of SameOrders, in the program and in its model; of slices.Equal at ids, and of slices.EqualFunc at write lists with whatever function. -/
import Derived.Test.YtdmdljimbmhecaaWlsT
import Derived.BigQuiet
namespace Go.Proofs.Ytdmdljimbmhecaa
open Go.RowKit

open Classical in
noncomputable def relB (f : Wls → Wls → Bool) (os O : List Wls) : Bool := if os.length = O.length ∧ ∀ i (h : i < os.length) (h' : i < O.length), f os[i] O[i] = true then true else false
theorem relB_len {f : Wls → Wls → Bool} {os O : List Wls} (h : ¬ os.length = O.length) : relB f os O = false := if_neg fun e => h e.1
theorem relB_not {f : Wls → Wls → Bool} {os O : List Wls} {k : Nat} (hk : k < os.length) (hk' : k < O.length) (h : f os[k] O[k] = false) : relB f os O = false := if_neg fun e => by have := e.2 k hk hk'; rw [h] at this; cases this
def UpF (f : Wls → Wls → Bool) (os O : List Wls) (k : Nat) : Prop := ∀ i (h : i < os.length) (h' : i < O.length), i < k → f os[i] O[i] = true
theorem UpF.step {f : Wls → Wls → Bool} {os O : List Wls} {k : Nat} (h : UpF f os O k) (he : ∀ (h : k < os.length) (h' : k < O.length), f os[k] O[k] = true) : UpF f os O (k + 1) := fun i h1 h2 hi => by
  by_cases e : i = k
  · subst e; exact he h1 h2
  · exact h i h1 h2 (by omega)
theorem relB_all {f : Wls → Wls → Bool} {os O : List Wls} (hl : os.length = O.length) (h : UpF f os O os.length) : relB f os O = true := if_pos ⟨hl, fun i h1 h2 => h i h1 h2 h1⟩
open Classical in
noncomputable def sameI (l m : List Wid) : Bool := if l = m then true else false
open Classical in
noncomputable def sameO (l m : List Wls) : Bool := if l = m then true else false
def Upt {α : Type} (l m : List α) (k : Nat) : Prop := ∀ i, i < k → l[i]? = m[i]?
theorem Upt.zero {α : Type} (l m : List α) : Upt l m 0 := fun i h => by omega
theorem Upt.step {α : Type} {l m : List α} {k : Nat} (h : Upt l m k) (hk : k < l.length) {hk' : k < m.length} (he : l[k] = m[k]) : Upt l m (k + 1) := fun i hi => by
  by_cases e : i = k
  · subst e
    rw [List.getElem?_eq_getElem hk, List.getElem?_eq_getElem hk', he]
  · exact h i (by omega)
theorem Upt.all {α : Type} {l m : List α} (hl : l.length = m.length) (h : Upt l m l.length) : l = m := List.ext_getElem? fun i => by
  by_cases hi : i < l.length
  · exact h i hi
  · rw [List.getElem?_eq_none (by omega), List.getElem?_eq_none (by omega)]
theorem wid_ne {e f : Wid} (h : ¬ e = f) : ¬ e.c = f.c ∨ (e.c = f.c ∧ ¬ e.i = f.i) := by
  obtain ⟨a, v⟩ := e
  obtain ⟨a', v'⟩ := f
  by_cases h1 : a = a'
  · by_cases h2 : v = v'
    · exact absurd (by rw [h1, h2]) h
    · exact .inr ⟨h1, h2⟩
  · exact .inl h1
theorem ids_get {w : World} {B : Nat} {A : Option Addr} {l : List Wid} (h : RdC w B A (wids l)) {i : Nat} (hi : i < l.length) : ∃ b off, A = some ⟨b, off, none⟩ ∧ b < B ∧ w.cell? ⟨b, off + i * 2, none⟩ = some (.int .i64 l[i].c) ∧ w.cell? ⟨b, off + i * 2 + 1, none⟩ = some (.int .i64 l[i].i) := by
  obtain ⟨b, off, e, hb, h0, h1⟩ := h.get (i := i) (by rw [wids_length]; exact hi)
  exact ⟨b, off, e, hb, by rw [h0]; simp [wids, wid], by rw [h1]; simp [wids, wid]⟩
/-- As the program compares two lists. -/
noncomputable def sameV (x y : Wls) : Bool := (x.a == y.a) && sameI x.ids y.ids
theorem sameV_true {x y : Wls} : sameV x y = true ↔ x = y := by
  unfold sameV sameI
  rw [Bool.and_eq_true, beq_iff_eq]
  obtain ⟨a, l⟩ := x
  obtain ⟨b, m⟩ := y
  simp only [Wls.mk.injEq]
  constructor
  · rintro ⟨h1, h2⟩
    refine ⟨h1, ?_⟩
    by_cases h : l = m
    · exact h
    · rw [if_neg h] at h2; cases h2
  · rintro ⟨h1, h2⟩
    exact ⟨h1, if_pos h2⟩
theorem relB_same (os O : List Wls) : relB sameV os O = sameO os O := by
  unfold relB sameO
  by_cases h : os = O
  · subst h
    rw [if_pos rfl, if_pos ⟨rfl, fun i h _ => sameV_true.2 rfl⟩]
  · rw [if_neg h, if_neg]
    rintro ⟨h1, h2⟩
    exact h (List.ext_getElem h1 fun i a b => sameV_true.1 (h2 i a b))

set_option maxRecDepth 100000 in
set_option maxHeartbeats 400000 in
theorem idsEq_any (es fs : List Wid) (A A' : Option Addr) (c c' : Nat) (w : World) (hm : es.length ≤ maxLen) (h : RdC w w.heap.size A (wids es)) (h' : RdC w w.heap.size A' (wids fs)) :
    Calls Try.prog 101 #[.slice A es.length c, .slice A' fs.length c'] w fun e w' => e = .returned (.bool (sameI es fs)) ∧ Below w.heap.size w w' := by
  unfold maxLen at hm
  by_cases hlen : fs.length = es.length
  · have HS := hide (fun (h : Upt es fs es.length) => (if_pos (h.all hlen.symm) : sameI es fs = true))
    rw [hlen]
    have hfl : ∀ k : Nat, k < es.length → k < fs.length := fun k h => by omega
    have HF := hide hfl
    clear hfl hlen
    go_enter Try.func101, Try.ntmps101
    go_wp2
    go_loopw [13] (fun i wr => ∃ k : Nat, k ≤ es.length ∧ i = .int .i64 k ∧ Below w.heap.size w wr ∧ Hid (Upt es fs k)) (fun i _ => es.length - (intOf i).toNat)
    case atStart => exact ⟨0, Nat.zero_le _, rfl, Below.refl _ _, hide (Upt.zero es fs)⟩
    case round =>
      obtain ⟨k, hk, rfl, hb, HR⟩ := hrel
      by_cases hlt : k < es.length
      · obtain ⟨b, off, rfl, hbb, hc0, hc1⟩ := ids_get (h.below hb) hlt
        obtain ⟨b', off', rfl, hbb', hd0, hd1⟩ := ids_get (h'.below hb) (HF.out _ hlt)
        by_cases he : es[k] = fs[k]'(HF.out _ hlt)
        · have HE := hide (HR.out.step hlt he)
          rw [← he] at hd0 hd1
          clear he
          go_wp2
          go_quiet (fail)
          go_wp2
          go_roundw
          case rel => exact ⟨k + 1, by omega, by go_num, below_drewN hb _, HE⟩
          case measure => simp [intOf]; omega
        · have HE := hide (show sameI es fs = false from if_neg fun e => he (by subst e; rfl))
          rcases wid_ne he with hx | ⟨hx0, hx⟩
          · have f0 := beq_eq_false_iff_ne.2 hx
            clear he hx
            go_wp2
            go_quiet (fail)
            go_wp2
            go_ret
            exact ⟨ret_bool HE.out.symm, below_drewN hb _⟩
          · rw [← hx0] at hd0
            have f0 := beq_eq_false_iff_ne.2 hx
            clear he hx hx0
            go_wp2
            go_quiet (fail)
            go_wp2
            go_ret
            exact ⟨ret_bool HE.out.symm, below_drewN hb _⟩
      · obtain rfl : k = es.length := by omega
        go_wp2
        go_ret
        exact ⟨ret_bool (HS.out HR.out).symm, hb⟩
  · rw [show sameI es fs = false from if_neg fun e => hlen (by rw [e])]
    have f0 : ((es.length : Int) == (fs.length : Int)) = false := beq_eq_false_iff_ne.2 (by omega)
    have f1 : ((es.length : Int) != (fs.length : Int)) = true := bne_iff_ne.2 (by omega)
    clear hlen
    go_enter Try.func101, Try.ntmps101
    go_wp2
    go_ret
    exact ⟨rfl, Below.refl _ _⟩

/-- A function of two write lists that tells f of them. -/
def TellsW (F : Nat) (f : Wls → Wls → Bool) : Prop := ∀ (x y : Wls) (a a' : Option Addr) (d d' : Nat) (V : World), x.ids.length ≤ maxLen → y.ids.length ≤ maxLen → RdC V V.heap.size a (wids x.ids) → RdC V V.heap.size a' (wids y.ids) →
  Calls Try.prog F #[.agg #[.int .i64 x.a, .slice a x.ids.length d], .agg #[.int .i64 y.a, .slice a' y.ids.length d']] V fun e w' => e = .returned (.bool (f x y)) ∧ Below V.heap.size V w'

theorem sameList_any : TellsW 59 sameV := by
  intro x y a a' d d' w hx hy hr hr'
  obtain ⟨W, hW⟩ : ∃ W, W = (w.alloc (Obj.cells #[.int .i64 x.a, .slice a x.ids.length d] 82)).alloc (Obj.cells #[.int .i64 y.a, .slice a' y.ids.length d'] 82) := ⟨_, rfl⟩
  obtain ⟨k1, k2, hz, B0⟩ := two_new _ _ _ _ _ W hW
  have HW := hide hW
  have SV := hide (show sameV x y = ((x.a == y.a) && sameI x.ids y.ids) from rfl)
  obtain ⟨z, hzz⟩ : ∃ z, z = sameI x.ids y.ids := ⟨_, rfl⟩
  have SP := hide (fun W => idsEq_any x.ids y.ids a a' d d' W hx)
  rw [← hzz] at SV SP
  have hR := (hr.below B0).lt
  have hR' := (hr'.below B0).lt
  clear hW hzz
  go_enter Try.func59, Try.ntmps59
  by_cases he : x.a = y.a
  · have f0 : (x.a == y.a) = true := beq_iff_eq.2 he
    clear he
    go_wp2_with fail
    rw [← HW.out]
    refine (SP.out _ hR hR').mono ?_
    rintro e w1 ⟨rfl, hb⟩
    go_wp2
    go_ret
    exact ⟨ret_bool (by rw [SV.out, f0]; rfl), B0.trans (hb.mono B0.size)⟩
  · have f0 : (x.a == y.a) = false := beq_eq_false_iff_ne.2 he
    clear he
    go_wp2
    go_ret
    exact ⟨ret_bool (by rw [SV.out, f0]; rfl), by go_grown⟩

set_option maxRecDepth 100000 in
set_option maxHeartbeats 800000 in
theorem eqFuncL_any (os O : List Wls) (A A' : Option Addr) (c c' : Nat) (w : World) (hm : os.length ≤ maxLen) (h : RdW w w.heap.size A os) (h' : RdW w w.heap.size A' O) :
    Calls Try.prog 58 #[.slice A os.length c, .slice A' O.length c', .func (.func 59) #[] #[]] w fun e w' => e = .returned (.bool (relB sameV os O)) ∧ Below w.heap.size w w' := by
  unfold maxLen at hm
  by_cases hlen : O.length = os.length
  · have HS := hide (fun (h : UpF sameV os O os.length) => relB_all hlen.symm h)
    rw [hlen]
    have hfl : ∀ k : Nat, k < os.length → k < O.length := fun k h => by omega
    have HL := hide hfl
    clear hfl hlen
    go_enter Try.func58, Try.ntmps58
    go_wp2
    go_loopw [17] (fun i wr => ∃ k : Nat, k ≤ os.length ∧ i = .int .i64 k ∧ Below w.heap.size w wr ∧ Hid (UpF sameV os O k)) (fun i _ => os.length - (intOf i).toNat)
    case atStart => exact ⟨0, Nat.zero_le _, rfl, Below.refl _ _, hide fun i _ _ h => by omega⟩
    case round =>
      obtain ⟨k, hk, rfl, hb, HR⟩ := hrel
      by_cases hlt : k < os.length
      · obtain ⟨b, off, a, d, rfl, hbb, hc0, hc1, hle, hcm, hr⟩ := (h.below hb).get hlt
        obtain ⟨b', off', a', d', rfl, hbb', hd0, hd1, hle', hdm, hr'⟩ := (h'.below hb).get (HL.out _ hlt)
        obtain ⟨x, hx⟩ : ∃ x, x = os[k] := ⟨_, rfl⟩
        obtain ⟨y, hy⟩ : ∃ y, y = O[k]'(HL.out _ hlt) := ⟨_, rfl⟩
        rw [← hx] at hc0 hc1 hle hr
        rw [← hy] at hd0 hd1 hle' hr'
        obtain ⟨W, hW⟩ : ∃ W, W = (wr.alloc (Obj.cells #[.int .i64 x.a, .slice a x.ids.length d] 82)).alloc (Obj.cells #[.int .i64 y.a, .slice a' y.ids.length d'] 82) := ⟨_, rfl⟩
        obtain ⟨k1, k2, hz, B0⟩ := two_new _ _ _ _ _ W hW
        have HW := hide hW
        have e0 := (World.cell?_alloc_lt wr (Obj.cells #[.int .i64 x.a, .slice a x.ids.length d] 82) ⟨b', off' + k * 2, none⟩ (block_lt_of_cell hd0)).trans hd0
        have e1 := (World.cell?_alloc_lt wr (Obj.cells #[.int .i64 x.a, .slice a x.ids.length d] 82) ⟨b', off' + k * 2 + 1, none⟩ (block_lt_of_cell hd1)).trans hd1
        have q0 := (k1.cell 0).trans (rfl : _ = some (Value.int .i64 x.a))
        have q1 := (k1.cell 1).trans (rfl : _ = some (Value.slice a x.ids.length d))
        have p0 := (k2.cell 0).trans (rfl : _ = some (Value.int .i64 y.a))
        have p1 := (k2.cell 1).trans (rfl : _ = some (Value.slice a' y.ids.length d'))
        have B1 := hb.trans (B0.mono hb.size)
        have SP := hide (sameList_any x y a a' d d' W (by omega) (by omega) ((hr.lt.below B0).lt) ((hr'.lt.below B0).lt))
        have HX := hide hx
        have HY := hide hy
        clear hW hx hy hr hr' k1 k2 hz B0
        cases hf : sameV x y
        · have HE := hide (show relB sameV os O = false from relB_not hlt (HL.out _ hlt) (by rw [← HX.out, ← HY.out]; exact hf))
          rw [hf] at SP
          clear hf
          go_upto_region 7 with fail
          rw [← HW.out]
          go_wp2_with fail
          refine SP.out.mono ?_
          rintro e w3 ⟨rfl, hb3⟩
          have hb4 := B1.trans (hb3.mono B1.size)
          go_wp2
          go_ret
          exact ⟨ret_bool HE.out.symm, hb4⟩
        · have HE := hide (HR.out.step (k := k) fun h1 h2 => by rw [← HX.out, ← HY.out]; exact hf)
          rw [hf] at SP
          clear hf
          go_upto_region 7 with fail
          rw [← HW.out]
          go_wp2_with fail
          refine SP.out.mono ?_
          rintro e w3 ⟨rfl, hb3⟩
          have hb4 := B1.trans (hb3.mono B1.size)
          go_wp2
          go_roundw
          case rel => exact ⟨k + 1, by omega, by go_num, hb4, HE⟩
          case measure => simp [intOf]; omega
      · obtain rfl : k = os.length := by omega
        go_wp2
        go_ret
        exact ⟨ret_bool (HS.out HR.out).symm, hb⟩
  · rw [relB_len (fun e => hlen e.symm)]
    have f0 : ((os.length : Int) == (O.length : Int)) = false := beq_eq_false_iff_ne.2 (by omega)
    have f1 : ((os.length : Int) != (O.length : Int)) = true := bne_iff_ne.2 (by omega)
    clear hlen
    go_enter Try.func58, Try.ntmps58
    go_wp2
    go_ret
    exact ⟨rfl, Below.refl _ _⟩
theorem implSO_any (os O : List Wls) (A A' : Option Addr) (c c' : Nat) (w : World) (hm : os.length ≤ maxLen) (h : RdW w w.heap.size A os) (h' : RdW w w.heap.size A' O) :
    Calls Try.prog 16 #[.slice A os.length c, .slice A' O.length c'] w fun e w' => e = .returned (.bool (sameO os O)) ∧ Below w.heap.size w w' := by
  have EF := hide (eqFuncL_any os O A A' c c' w hm h h')
  rw [relB_same] at EF
  go_enter Try.func16, Try.ntmps16
  go_wp2_with fail
  refine EF.out.mono ?_
  rintro e w1 ⟨rfl, hb⟩
  go_wp2
  go_ret
  exact ⟨rfl, hb⟩

set_option maxRecDepth 100000 in
set_option maxHeartbeats 1000000 in
theorem specSO_any (os O : List Wls) (A A' : Option Addr) (c c' : Nat) (w : World) (hm : os.length ≤ maxLen) (h : RdW w w.heap.size A os) (h' : RdW w w.heap.size A' O) :
    Calls Try.prog 19 #[.slice A os.length c, .slice A' O.length c'] w fun e w' => e = .returned (.bool (sameO os O)) ∧ Below w.heap.size w w' := by
  unfold maxLen at hm
  by_cases hlen : O.length = os.length
  · have HS := hide (fun (h : Upt os O os.length) => (if_pos (h.all hlen.symm) : sameO os O = true))
    have HN := hide (show ∀ (i : Nat) (h1 : i < os.length) (h2 : i < O.length), ¬ os[i] = O[i] → sameO os O = false from fun i h1 h2 e => if_neg fun e2 => e (by subst e2; rfl))
    rw [hlen]
    have hfl : ∀ k : Nat, k < os.length → k < O.length := fun k h => by omega
    have HL := hide hfl
    clear hfl hlen
    go_enter Try.func19, Try.ntmps19
    go_wp2
    go_loopw [14] (fun i wr => ∃ k : Nat, k ≤ os.length ∧ i = .int .i64 k ∧ Below w.heap.size w wr ∧ Hid (Upt os O k)) (fun i _ => os.length - (intOf i).toNat)
    case atStart => exact ⟨0, Nat.zero_le _, rfl, Below.refl _ _, hide (Upt.zero os O)⟩
    case round =>
      obtain ⟨k, hk, rfl, hb, HR⟩ := hrel
      by_cases hlt : k < os.length
      · obtain ⟨b, off, a, d, rfl, hbb, hc0, hc1, hle, hcm, hr⟩ := (h.below hb).get hlt
        obtain ⟨b', off', a', d', rfl, hbb', hd0, hd1, hle', hdm, hr'⟩ := (h'.below hb).get (HL.out _ hlt)
        unfold maxLen at hcm hdm
        by_cases ha : os[k].a = (O[k]'(HL.out _ hlt)).a
        · rw [← ha] at hd0
          by_cases hrow : (O[k]'(HL.out _ hlt)).ids.length = os[k].ids.length
          · rw [hrow] at hd1 hle'
            have HRow := hide hrow
            have HA := hide ha
            clear hrow ha
            go_wp2
            go_quiet (fail)
            go_wp2
            clear hc0 hc1 hd0 hd1 hr hr'
            go_loopw [49] (fun q w2 => ∃ j : Nat, j ≤ os[k].ids.length ∧ q = .int .i64 j ∧ Below w.heap.size w w2 ∧ Hid (Upt os[k].ids (O[k]'(HL.out _ hlt)).ids j)) (fun q _ => os[k].ids.length - (intOf q).toNat)
            case atStart => exact ⟨0, Nat.zero_le _, rfl, below_drewN hb _, hide (Upt.zero _ _)⟩
            case round =>
              clear hb
              obtain ⟨j, hjk, rfl, hb2, HJ⟩ := hrel
              by_cases hj : j < os[k].ids.length
              · obtain ⟨b3, off3, a3, e3, hA, _, hc0, hc1, hle3, _, hr⟩ := (h.below hb2).get hlt
                cases hA
                obtain ⟨b4, off4, a4, e4, hA, _, hd0, hd1, hle4, _, hr'⟩ := (h'.below hb2).get (HL.out _ hlt)
                cases hA
                rw [HRow.out] at hd1 hle4
                obtain ⟨b5, off5, rfl, _, c0, c1⟩ := ids_get hr hj
                obtain ⟨b6, off6, rfl, _, d0, d1⟩ := ids_get hr' (i := j) (by rw [HRow.out]; exact hj)
                by_cases he : os[k].ids[j] = (O[k]'(HL.out _ hlt)).ids[j]'(by rw [HRow.out]; exact hj)
                · have HE := hide (HJ.out.step hj he)
                  rw [← he] at d0 d1
                  clear he
                  go_wp2
                  go_quiet (fail)
                  go_wp2
                  go_roundw
                  case rel => exact ⟨j + 1, by omega, by go_num, below_drewN hb2 _, HE⟩
                  case measure => simp [intOf]; omega
                · have HE := hide (HN.out k hlt (HL.out _ hlt) fun e => he (by simp [e]))
                  rcases wid_ne he with hx | ⟨hx0, hx⟩
                  · have f0 := beq_eq_false_iff_ne.2 hx
                    clear he hx
                    go_wp2
                    go_quiet (fail)
                    go_wp2
                    go_ret
                    exact ⟨ret_bool (by rw [HE.out]), below_drewN hb2 _⟩
                  · have f0 := beq_eq_false_iff_ne.2 hx
                    rw [← hx0] at d0
                    clear he hx hx0
                    go_wp2
                    go_quiet (fail)
                    go_wp2
                    go_ret
                    exact ⟨ret_bool (by rw [HE.out]), below_drewN hb2 _⟩
              · have hjl : j = os[k].ids.length := by omega
                have hrw : os[k].ids = (O[k]'(HL.out _ hlt)).ids := Upt.all HRow.out.symm (by rw [← hjl]; exact HJ.out)
                have hrx : os[k] = O[k]'(HL.out _ hlt) := by
                  have h1 := HA.out
                  revert hrw h1
                  generalize os[k] = x
                  generalize O[k]'(HL.out _ hlt) = y
                  intro hrw h1
                  obtain ⟨_, _⟩ := x
                  obtain ⟨_, _⟩ := y
                  simp only at hrw h1
                  rw [hrw, h1]
                have HE := hide (HR.out.step hlt hrx)
                clear hrw hjl hrx
                go_wp2
                go_roundw
                case rel => exact ⟨k + 1, by omega, by go_num, hb2, HE⟩
                case measure => simp [intOf]; omega
          · have HE := hide (HN.out k hlt (HL.out _ hlt) fun e => hrow (by rw [e]))
            obtain ⟨R, hR⟩ : ∃ R, R = (O[k]'(HL.out _ hlt)).ids.length := ⟨_, rfl⟩
            rw [← hR] at hd1 hrow hle'
            have f0 : ((os[k].ids.length : Int) == (R : Int)) = false := beq_eq_false_iff_ne.2 (by omega)
            have f1 : ((os[k].ids.length : Int) != (R : Int)) = true := bne_iff_ne.2 (by omega)
            clear hR hrow ha
            go_wp2
            go_quiet (fail)
            go_wp2
            go_ret
            exact ⟨ret_bool (by rw [HE.out]), below_drewN hb _⟩
        · have HE := hide (HN.out k hlt (HL.out _ hlt) fun e => ha (by rw [e]))
          have f0 := beq_eq_false_iff_ne.2 ha
          have f1 := bne_iff_ne.2 ha
          clear ha
          go_wp2
          go_quiet (fail)
          go_wp2
          go_ret
          exact ⟨ret_bool (by rw [HE.out]), below_drewN hb _⟩
      · obtain rfl : k = os.length := by omega
        go_wp2
        go_ret
        exact ⟨ret_bool (HS.out HR.out).symm, hb⟩
  · rw [show sameO os O = false from if_neg fun e => hlen (by rw [e])]
    have f0 : ((os.length : Int) == (O.length : Int)) = false := beq_eq_false_iff_ne.2 (by omega)
    have f1 : ((os.length : Int) != (O.length : Int)) = true := bne_iff_ne.2 (by omega)
    clear hlen
    go_enter Try.func19, Try.ntmps19
    go_wp2
    go_ret
    exact ⟨rfl, Below.refl _ _⟩
end Go.Proofs.Ytdmdljimbmhecaa
