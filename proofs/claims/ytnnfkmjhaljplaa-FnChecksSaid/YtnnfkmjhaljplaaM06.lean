/- What the laws' walks rest upon, part 6. -/
import Derived.Test.YtnnfkmjhaljplaaM02
import Derived.Test.YtnnfkmjhaljplaaM01
import Derived.Test.YtnnfkmjhaljplaaM04
import Derived.StillTailTactics
import Derived.Lib.Hide
import Derived.Test.YtnnfkmjhaljplaaM05
import Derived.Deep.DeepCutAuto
import Derived.BigQuiet
namespace Go.Proofs.Ytnnfkmjhaljplaa
open Go.RowKit
theorem info_events : (Try.prog.info? 79).map (fun i => (i.zero, i.size, i.bytes)) = some (some (.slice none 0 0), 1, 24) := by kernel_rfl
end Go.Proofs.Ytnnfkmjhaljplaa
namespace Go.Proofs.Ytnnfkmjhaljplaa
open Go.RowKit
theorem trF_few {t : List (List Ev)} (h : 1 ≤ t.length ∧ t.length ≤ 4) : trF t = stsF t := if_pos h
theorem trF_many {t : List (List Ev)} (h : ¬ (1 ≤ t.length ∧ t.length ≤ 4)) : trF t = 2 := if_neg h
set_option maxRecDepth 100000 in
set_option maxHeartbeats 400000 in
theorem implTrF_any (t : List (List Ev)) (A : Option Addr) (c : Nat) (w : World) (hm : t.length ≤ maxLen) (h : RdT w w.heap.size A t) :
  Calls Try.prog 41 #[.slice A t.length c] w fun e w' => e = .returned (.int .i64 (trF t)) ∧ Below w.heap.size w w' := by
 unfold maxLen at hm
 by_cases h14 : 1 ≤ (t.length : Int) ∧ (t.length : Int) ≤ 4
 ·have HF := hide (trF_few (t := t) (by omega))
  go_enter Try.func41, Try.ntmps41
  go_wp2_with fail
  refine (allWithin_one _ _ _ _ _ _ (by simp [go_sem]) h14).mono ?_
  rintro e w' ⟨rfl, rfl⟩
  go_wp2
  go_loopw [13] (fun i wr => ∃ k : Nat, k ≤ t.length ∧ i = .int .i64 k ∧ Below w.heap.size w wr ∧ Hid (stsF t = stsF (t.drop k))) (fun i _ => t.length - (intOf i).toNat)
  case atStart => exact ⟨0, Nat.zero_le _, rfl, (Below.refl _ _).alloc (Nat.le_refl _) _, hide rfl⟩
  case round =>
   obtain ⟨k, hk, rfl, hb, HR⟩ := hrel
   by_cases hlt : k < t.length
   ·obtain ⟨b, off, a, d, rfl, hbb, hc0, hle, hcm, hr⟩ := (h.below hb).get hlt
    have IM := hide (fun W => implStF_any t[k] a d W (by omega))
    by_cases h0 : stF t[k] = 0
    ·have HN := hide (stsF_next hlt h0)
     rw [h0] at IM
     clear h0
     go_wp2_with fail
     refine (IM.out _ hr.lt).mono ?_
     rintro e w2 ⟨rfl, hb2⟩
     have hb3 := hb.trans (hb2.mono hb.size)
     go_wp2
     go_roundw
     case rel => exact ⟨k + 1, by omega, by go_num, hb3, hide (HR.out.trans HN.out)⟩
     case measure => simp [intOf]; omega
    ·have HN := hide (stsF_stop hlt h0)
     obtain ⟨F, hF⟩ : ∃ F, F = stF t[k] := ⟨_, rfl⟩
     rw [← hF] at h0 HN IM
     have f0 : (F != 0) = true := bne_iff_ne.2 h0
     have f1 : (F == 0) = false := beq_eq_false_iff_ne.2 h0
     clear h0 hF
     go_wp2_with fail
     refine (IM.out _ hr.lt).mono ?_
     rintro e w2 ⟨rfl, hb2⟩
     have hb3 := hb.trans (hb2.mono hb.size)
     go_wp2
     go_ret
     exact ⟨ret_int (by rw [HF.out, HR.out, HN.out]), hb3⟩
   ·have HN := hide (stsF_end hlt)
    go_wp2
    go_ret
    exact ⟨ret_int (by rw [HF.out, HR.out, HN.out]), hb⟩
 ·rw [trF_many (by omega)]
  have h14' : (t.length : Int) < 1 ∨ 4 < (t.length : Int) := by omega
  clear h14
  go_enter Try.func41, Try.ntmps41
  go_wp2_with fail
  refine (allWithin_not _ _ _ _ _ _ (by simp [go_sem]) h14').mono ?_
  rintro e w' ⟨rfl, rfl⟩
  go_wp2
  go_ret
  exact ⟨rfl, by go_grown⟩
set_option maxRecDepth 100000 in
set_option maxHeartbeats 400000 in
theorem specTrF_any (t : List (List Ev)) (A : Option Addr) (c : Nat) (w : World) (hm : t.length ≤ maxLen) (h : RdT w w.heap.size A t) :
  Calls Try.prog 44 #[.slice A t.length c] w fun e w' => e = .returned (.int .i64 (trF t)) ∧ Below w.heap.size w w' := by
 unfold maxLen at hm
 by_cases h14 : 1 ≤ (t.length : Int) ∧ (t.length : Int) ≤ 4
 ·have HF := hide (trF_few (t := t) (by omega))
  obtain ⟨h1, h4⟩ := h14
  go_enter Try.func44, Try.ntmps44
  go_wp2
  go_loopw [15] (fun i wr => ∃ k : Nat, k ≤ t.length ∧ i = .int .i64 k ∧ Below w.heap.size w wr ∧ Hid (stsF t = stsF (t.drop k))) (fun i _ => t.length - (intOf i).toNat)
  case atStart => exact ⟨0, Nat.zero_le _, rfl, Below.refl _ _, hide rfl⟩
  case round =>
   obtain ⟨k, hk, rfl, hb, HR⟩ := hrel
   by_cases hlt : k < t.length
   ·obtain ⟨b, off, a, d, rfl, hbb, hc0, hle, hcm, hr⟩ := (h.below hb).get hlt
    have IM := hide (fun W => specStF_any t[k] a d W (by omega))
    by_cases h0 : stF t[k] = 0
    ·have HN := hide (stsF_next hlt h0)
     rw [h0] at IM
     clear h0
     go_wp2_with fail
     refine (IM.out _ hr.lt).mono ?_
     rintro e w2 ⟨rfl, hb2⟩
     have hb3 := hb.trans (hb2.mono hb.size)
     go_wp2
     go_roundw
     case rel => exact ⟨k + 1, by omega, by go_num, hb3, hide (HR.out.trans HN.out)⟩
     case measure => simp [intOf]; omega
    ·have HN := hide (stsF_stop hlt h0)
     obtain ⟨F, hF⟩ : ∃ F, F = stF t[k] := ⟨_, rfl⟩
     rw [← hF] at h0 HN IM
     have f0 : (F != 0) = true := bne_iff_ne.2 h0
     have f1 : (F == 0) = false := beq_eq_false_iff_ne.2 h0
     clear h0 hF
     go_wp2_with fail
     refine (IM.out _ hr.lt).mono ?_
     rintro e w2 ⟨rfl, hb2⟩
     have hb3 := hb.trans (hb2.mono hb.size)
     go_wp2
     go_ret
     exact ⟨ret_int (by rw [HF.out, HR.out, HN.out]), hb3⟩
   ·have HN := hide (stsF_end hlt)
    go_wp2
    go_ret
    exact ⟨ret_int (by rw [HF.out, HR.out, HN.out]), hb⟩
 ·rw [trF_many (by omega)]
  by_cases h1 : 1 ≤ t.length
  ·have h4 : 4 < t.length := by omega
   clear h14
   go_enter Try.func44, Try.ntmps44
   go_wp2
   go_ret
   exact ⟨rfl, Below.refl _ _⟩
  ·have h4 : t.length < 1 := by omega
   clear h14
   go_enter Try.func44, Try.ntmps44
   go_wp2
   go_ret
   exact ⟨rfl, Below.refl _ _⟩
end Go.Proofs.Ytnnfkmjhaljplaa
namespace Go.Proofs.Ytnnfkmjhaljplaa
open Go.RowKit
theorem two_new (w : World) (c0 c1 : Array Value) (t0 t1 : TypeId) (W : World) (hW : W = (w.alloc (Obj.cells c0 t0)).alloc (Obj.cells c1 t1)) :
  Bk W w.heap.size c0 t0 ∧ Bk W (w.heap.size + 1) c1 t1 ∧ W.heap.size = w.heap.size + 1 + 1 ∧ Below w.heap.size w W := by
 have e1 : (w.alloc (Obj.cells c0 t0)).heap.size = w.heap.size + 1 := by simp
 have k0 := (Bk.new w c0 t0).alloc (Obj.cells c1 t1)
 have k1 := Bk.new (w.alloc (Obj.cells c0 t0)) c1 t1
 rw [e1] at k1
 subst hW
 exact ⟨k0, k1, by simp, ((Below.refl w.heap.size w).alloc (Nat.le_refl _) _).alloc (by omega) _⟩
end Go.Proofs.Ytnnfkmjhaljplaa
namespace Go.Proofs.Ytnnfkmjhaljplaa
open Go.RowKit
theorem info_wid : (Try.prog.info? 83).map (fun i => (i.zero, i.size, i.bytes)) = some (some (.agg #[.int .i64 0, .int .i64 0]), 2, 16) := by kernel_rfl
end Go.Proofs.Ytnnfkmjhaljplaa
namespace Go.Proofs.Ytnnfkmjhaljplaa
open Go.RowKit
def wid (x : Wid) : Cel := ⟨x.c, x.i⟩
def wids (l : List Wid) : List Cel := l.map wid
theorem wids_length (l : List Wid) : (wids l).length = l.length := by simp [wids]
/-- The slice address A leads to the write lists os. -/
def RdW (w : World) (B : Nat) (A : Option Addr) (os : List Wls) : Prop :=
 0 < os.length → ∃ b off, A = some ⟨b, off, none⟩ ∧ b < B ∧ ∀ i, (h : i < os.length) → w.cell? ⟨b, off + i * 2, none⟩ = some (.int .i64 os[i].a) ∧ ∃ a c, w.cell? ⟨b, off + i * 2 + 1, none⟩ = some (.slice a os[i].ids.length c) ∧ os[i].ids.length ≤ c ∧ c ≤ maxLen ∧ RdC w B a (wids os[i].ids)
section
variable {w w' : World} {B B' : Nat} {A : Option Addr} {os : List Wls}
theorem RdW.nil_ : RdW w B A [] := fun h => absurd h (by simp)
theorem RdW.keep (h : RdW w B A os) (hk : ∀ p : Addr, p.block < B → w'.cell? p = w.cell? p) : RdW w' B A os := by
 intro h0
 obtain ⟨b, off, e, hb, hc⟩ := h h0
 refine ⟨b, off, e, hb, fun i hi => ?_⟩
 obtain ⟨h0, a, c, h1, h2, h3, h4⟩ := hc i hi
 exact ⟨(hk _ hb).trans h0, a, c, (hk _ hb).trans h1, h2, h3, h4.keep hk⟩
theorem RdW.more (h : RdW w B A os) (hB : B ≤ B') : RdW w B' A os := by
 intro h0
 obtain ⟨b, off, e, hb, hc⟩ := h h0
 refine ⟨b, off, e, by omega, fun i hi => ?_⟩
 obtain ⟨h0, a, c, h1, h2, h3, h4⟩ := hc i hi
 exact ⟨h0, a, c, h1, h2, h3, h4.more hB⟩
theorem RdW.below (h : RdW w B A os) (hb : Below B w w') : RdW w' B A os := h.keep fun _ hp => hb.cell hp
theorem RdW.drew (h : RdW w B A os) : RdW w.drew B A os := h
theorem RdW.alloc (h : RdW w B A os) (hB : B ≤ w.heap.size) (o : Obj) : RdW (w.alloc o) B A os := h.keep fun p hp => World.cell?_alloc_lt w o p (by omega)
theorem RdW.lt (h : RdW w B A os) : RdW w w.heap.size A os := by
 intro h0
 obtain ⟨b, off, e, hb, hc⟩ := h h0
 refine ⟨b, off, e, ?_, fun i hi => ?_⟩
 ·obtain ⟨h1, _⟩ := hc 0 h0
  exact block_lt_of_cell h1
 ·obtain ⟨h0, a, c, h1, h2, h3, h4⟩ := hc i hi
  exact ⟨h0, a, c, h1, h2, h3, h4.lt⟩
theorem RdW.get (h : RdW w B A os) {i : Nat} (hi : i < os.length) : ∃ b off a c, A = some ⟨b, off, none⟩ ∧ b < B ∧ w.cell? ⟨b, off + i * 2, none⟩ = some (.int .i64 os[i].a) ∧ w.cell? ⟨b, off + i * 2 + 1, none⟩ = some (.slice a os[i].ids.length c) ∧ os[i].ids.length ≤ c ∧ c ≤ maxLen ∧ RdC w B a (wids os[i].ids) := by
 obtain ⟨b, off, e, hb, hc⟩ := h (by omega)
 obtain ⟨h0, a, c, h1, h2, h3, h4⟩ := hc i hi
 exact ⟨b, off, a, c, e, hb, h0, h1, h2, h3, h4⟩
end
/-- The cells of a row of write lists whose ids lie in us. -/
def wlR : List Wls → List Value → List Value
 | x :: r, u :: us => .int .i64 x.a :: u :: wlR r us
 | _, _ => []
theorem wlR_length : ∀ {os : List Wls} {us : List Value}, us.length = os.length → (wlR os us).length = os.length * 2
 | [], [], _ => rfl
 | [], _ :: _, h => by simp at h
 | _ :: _, [], h => by simp at h
 | x :: r, u :: us, h => by
  have := wlR_length (os := r) (us := us) (by simpa using h)
  simp only [wlR, List.length_cons, this]
  omega
theorem wlR_get : ∀ {os : List Wls} {us : List Value}, us.length = os.length → ∀ (i : Nat) (h : i < os.length), (wlR os us)[i * 2]? = some (.int .i64 os[i].a) ∧ (wlR os us)[i * 2 + 1]? = us[i]?
 | [], _, _, i, h => by simp at h
 | _ :: _, [], h, _, _ => by simp at h
 | x :: r, u :: us, h, 0, _ => ⟨rfl, rfl⟩
 | x :: r, u :: us, h, i + 1, hi => by
  have := wlR_get (os := r) (us := us) (by simpa using h) i (by simpa using hi)
  rw [show (i + 1) * 2 = i * 2 + 1 + 1 by omega, wlR]
  simp only [List.getElem?_cons_succ, List.getElem_cons_succ]
  exact this
theorem wlR_append : ∀ {os : List Wls} {us : List Value}, us.length = os.length → ∀ (x : Wls) (u : Value), wlR (os ++ [x]) (us ++ [u]) = wlR os us ++ [.int .i64 x.a, u]
 | [], [], _, _, _ => rfl
 | [], _ :: _, h, _, _ => by simp at h
 | _ :: _, [], h, _, _ => by simp at h
 | y :: r, v :: us, h, x, u => by
  have := wlR_append (os := r) (us := us) (by simpa using h) x u
  simp only [List.cons_append, wlR, this]
/-- Write lists in a row of the call's own, the ids of each in one of their own, apart from the others'. -/
structure OwnW (w : World) (base : Nat) (v : Value) (os : List Wls) (us : List Value) : Prop where
 row : w.ownsRow base 69 2 v os.length (wlR os us)
 len : us.length = os.length
 rows : ∀ i, (hi : i < os.length) → ∃ u, us[i]? = some u ∧ w.ownsRow base 83 2 u os[i].ids.length (cels (wids os[i].ids))
 apart : ∀ (i j : Nat) (u u' : Value), i ≠ j → us[i]? = some u → us[j]? = some u' → ∀ b, u.ownBlock = some b → u'.ownBlock ≠ some b
section
variable {w w' : World} {base : Nat} {v : Value} {os : List Wls} {us : List Value}
theorem OwnW.kept {row : Option Nat} (h : OwnW w base v os us) (hg : w.grownBy w' row) (hr : ∀ b, row = some b → b < base) : OwnW w' base v os us :=
 ⟨h.row.kept hg (own_sep fun b hb e => by have := (h.row.lt b hb).1; have := hr b e; omega), h.len, fun i hi => by
  obtain ⟨u, h1, h2⟩ := h.rows i hi
  exact ⟨u, h1, h2.kept hg (own_sep fun b hb e => by have := (h2.lt b hb).1; have := hr b e; omega)⟩, h.apart⟩
theorem OwnW.below (h : OwnW w base v os us) (hb : Below w.heap.size w w') : OwnW w' base v os us := h.kept (row := none) ⟨hb.os, hb.tape, hb.output, hb.size, fun k hk _ => hb.block k hk⟩ (fun b e => by cases e)
theorem OwnW.alloc (h : OwnW w base v os us) (o : Obj) : OwnW (w.alloc o) base v os us := h.below ((Below.refl _ _).alloc (Nat.le_refl _) _)
theorem OwnW.mono (h : OwnW w base v os us) {b' : Nat} (hb : b' ≤ base) : OwnW w b' v os us :=
 ⟨own_mono h.row hb, h.len, fun i hi => by
  obtain ⟨u, h1, h2⟩ := h.rows i hi
  exact ⟨u, h1, own_mono h2 hb⟩, h.apart⟩
theorem OwnW.nil_ (w : World) (base : Nat) : OwnW w base (.slice none 0 0) [] [] := ⟨World.ownsRow_nil _ _ _ _, rfl, fun i hi => by simp at hi, fun i j u u' _ hu => by simp at hu⟩
theorem OwnW.rd {A : Option Addr} {n c : Nat} (h : OwnW w base (.slice A n c) os us) : RdW w w.heap.size A os := by
 intro h0
 rcases h.row.2 with ⟨h', h''⟩ | ⟨g, cap, cur, h', _⟩
 ·omega
 ·have hr := h.row
  simp only [Value.slice.injEq] at h'
  obtain ⟨rfl, rfl, rfl⟩ := h'
  refine ⟨g, 0, rfl, (hr.lt g rfl).2, fun i hi => ?_⟩
  obtain ⟨u, h1, h2⟩ := h.rows i hi
  obtain ⟨g1, g2⟩ := wlR_get h.len i hi
  obtain ⟨a, c, rfl⟩ := own_shape h2
  have hcp := own_capE h2
  rw [Nat.zero_add]
  refine ⟨by rw [hr.cellAt _ (by omega)]; exact g1, a, c, by rw [hr.cellAt _ (by omega), g2]; exact h1, hcp.1, hcp.2, ?_⟩
  exact RdC.of_own h2
end
end Go.Proofs.Ytnnfkmjhaljplaa
namespace Go.Proofs.Ytnnfkmjhaljplaa
open Go.RowKit
theorem info_wls : (Try.prog.info? 69).map (fun i => (i.zero, i.size, i.bytes)) = some (some (.agg #[.int .i64 0, .slice none 0 0]), 2, 32) := by kernel_rfl
end Go.Proofs.Ytnnfkmjhaljplaa
namespace Go.Proofs.Ytnnfkmjhaljplaa
open Go.RowKit
end Go.Proofs.Ytnnfkmjhaljplaa
namespace Go.Proofs.Ytnnfkmjhaljplaa
open Go.RowKit
open Classical in
noncomputable def relB (f : Wls → Wls → Bool) (os O : List Wls) : Bool := if os.length = O.length ∧ ∀ i (h : i < os.length) (h' : i < O.length), f os[i] O[i] = true then true else false
theorem relB_len {f : Wls → Wls → Bool} {os O : List Wls} (h : ¬ os.length = O.length) : relB f os O = false := if_neg fun e => h e.1
theorem relB_not {f : Wls → Wls → Bool} {os O : List Wls} {k : Nat} (hk : k < os.length) (hk' : k < O.length) (h : f os[k] O[k] = false) : relB f os O = false := if_neg fun e => by have := e.2 k hk hk'; rw [h] at this; cases this
def UpF (f : Wls → Wls → Bool) (os O : List Wls) (k : Nat) : Prop := ∀ i (h : i < os.length) (h' : i < O.length), i < k → f os[i] O[i] = true
theorem UpF.step {f : Wls → Wls → Bool} {os O : List Wls} {k : Nat} (h : UpF f os O k) (he : ∀ (h : k < os.length) (h' : k < O.length), f os[k] O[k] = true) : UpF f os O (k + 1) := fun i h1 h2 hi => by
 by_cases e : i = k
 ·subst e; exact he h1 h2
 ·exact h i h1 h2 (by omega)
theorem relB_all {f : Wls → Wls → Bool} {os O : List Wls} (hl : os.length = O.length) (h : UpF f os O os.length) : relB f os O = true := if_pos ⟨hl, fun i h1 h2 => h i h1 h2 h1⟩
open Classical in
noncomputable def sameI (l m : List Wid) : Bool := if l = m then true else false
open Classical in
noncomputable def sameO (l m : List Wls) : Bool := if l = m then true else false
def Upt {α : Type} (l m : List α) (k : Nat) : Prop := ∀ i, i < k → l[i]? = m[i]?
theorem Upt.zero {α : Type} (l m : List α) : Upt l m 0 := fun i h => by omega
theorem Upt.step {α : Type} {l m : List α} {k : Nat} (h : Upt l m k) (hk : k < l.length) {hk' : k < m.length} (he : l[k] = m[k]) : Upt l m (k + 1) := fun i hi => by
 by_cases e : i = k
 ·subst e
  rw [List.getElem?_eq_getElem hk, List.getElem?_eq_getElem hk', he]
 ·exact h i (by omega)
theorem Upt.all {α : Type} {l m : List α} (hl : l.length = m.length) (h : Upt l m l.length) : l = m := List.ext_getElem? fun i => by
 by_cases hi : i < l.length
 ·exact h i hi
 ·rw [List.getElem?_eq_none (by omega), List.getElem?_eq_none (by omega)]
theorem wid_ne {e f : Wid} (h : ¬ e = f) : ¬ e.c = f.c ∨ (e.c = f.c ∧ ¬ e.i = f.i) := by
 obtain ⟨a, v⟩ := e
 obtain ⟨a', v'⟩ := f
 by_cases h1 : a = a'
 ·by_cases h2 : v = v'
  ·exact absurd (by rw [h1, h2]) h
  ·exact .inr ⟨h1, h2⟩
 ·exact .inl h1
theorem ids_get {w : World} {B : Nat} {A : Option Addr} {l : List Wid} (h : RdC w B A (wids l)) {i : Nat} (hi : i < l.length) : ∃ b off, A = some ⟨b, off, none⟩ ∧ b < B ∧ w.cell? ⟨b, off + i * 2, none⟩ = some (.int .i64 l[i].c) ∧ w.cell? ⟨b, off + i * 2 + 1, none⟩ = some (.int .i64 l[i].i) := by
 obtain ⟨b, off, e, hb, h0, h1⟩ := h.get (i := i) (by rw [wids_length]; exact hi)
 exact ⟨b, off, e, hb, by rw [h0]; simp [wids, wid], by rw [h1]; simp [wids, wid]⟩
/-- As the program compares two lists. -/
noncomputable def sameV (x y : Wls) : Bool := (x.a == y.a) && sameI x.ids y.ids
theorem sameV_true {x y : Wls} : sameV x y = true ↔ x = y := by
 unfold sameV sameI
 rw [Bool.and_eq_true, beq_iff_eq]
 obtain ⟨a, l⟩ := x
 obtain ⟨b, m⟩ := y
 simp only [Wls.mk.injEq]
 constructor
 ·rintro ⟨h1, h2⟩
  refine ⟨h1, ?_⟩
  by_cases h : l = m
  ·exact h
  ·rw [if_neg h] at h2; cases h2
 ·rintro ⟨h1, h2⟩
  exact ⟨h1, if_pos h2⟩
theorem relB_same (os O : List Wls) : relB sameV os O = sameO os O := by
 unfold relB sameO
 by_cases h : os = O
 ·subst h
  rw [if_pos rfl, if_pos ⟨rfl, fun i h _ => sameV_true.2 rfl⟩]
 ·rw [if_neg h, if_neg]
  rintro ⟨h1, h2⟩
  exact h (List.ext_getElem h1 fun i a b => sameV_true.1 (h2 i a b))
set_option maxRecDepth 100000 in
set_option maxHeartbeats 400000 in
theorem idsEq_any (es fs : List Wid) (A A' : Option Addr) (c c' : Nat) (w : World) (hm : es.length ≤ maxLen) (h : RdC w w.heap.size A (wids es)) (h' : RdC w w.heap.size A' (wids fs)) :
  Calls Try.prog 85 #[.slice A es.length c, .slice A' fs.length c'] w fun e w' => e = .returned (.bool (sameI es fs)) ∧ Below w.heap.size w w' := by
 unfold maxLen at hm
 by_cases hlen : fs.length = es.length
 ·have HS := hide (fun (h : Upt es fs es.length) => (if_pos (h.all hlen.symm) : sameI es fs = true))
  rw [hlen]
  have hfl : ∀ k : Nat, k < es.length → k < fs.length := fun k h => by omega
  have HF := hide hfl
  clear hfl hlen
  go_enter Try.func85, Try.ntmps85
  go_wp2
  go_loopw [13] (fun i wr => ∃ k : Nat, k ≤ es.length ∧ i = .int .i64 k ∧ Below w.heap.size w wr ∧ Hid (Upt es fs k)) (fun i _ => es.length - (intOf i).toNat)
  case atStart => exact ⟨0, Nat.zero_le _, rfl, Below.refl _ _, hide (Upt.zero es fs)⟩
  case round =>
   obtain ⟨k, hk, rfl, hb, HR⟩ := hrel
   by_cases hlt : k < es.length
   ·obtain ⟨b, off, rfl, hbb, hc0, hc1⟩ := ids_get (h.below hb) hlt
    obtain ⟨b', off', rfl, hbb', hd0, hd1⟩ := ids_get (h'.below hb) (HF.out _ hlt)
    by_cases he : es[k] = fs[k]'(HF.out _ hlt)
    ·have HE := hide (HR.out.step hlt he)
     rw [← he] at hd0 hd1
     clear he
     go_wp2
     go_quiet (fail)
     go_wp2
     go_roundw
     case rel => exact ⟨k + 1, by omega, by go_num, below_drewN hb _, HE⟩
     case measure => simp [intOf]; omega
    ·have HE := hide (show sameI es fs = false from if_neg fun e => he (by subst e; rfl))
     rcases wid_ne he with hx | ⟨hx0, hx⟩
     ·have f0 := beq_eq_false_iff_ne.2 hx
      clear he hx
      go_wp2
      go_quiet (fail)
      go_wp2
      go_ret
      exact ⟨ret_bool HE.out.symm, below_drewN hb _⟩
     ·rw [← hx0] at hd0
      have f0 := beq_eq_false_iff_ne.2 hx
      clear he hx hx0
      go_wp2
      go_quiet (fail)
      go_wp2
      go_ret
      exact ⟨ret_bool HE.out.symm, below_drewN hb _⟩
   ·obtain rfl : k = es.length := by omega
    go_wp2
    go_ret
    exact ⟨ret_bool (HS.out HR.out).symm, hb⟩
 ·rw [show sameI es fs = false from if_neg fun e => hlen (by rw [e])]
  have f0 : ((es.length : Int) == (fs.length : Int)) = false := beq_eq_false_iff_ne.2 (by omega)
  have f1 : ((es.length : Int) != (fs.length : Int)) = true := bne_iff_ne.2 (by omega)
  clear hlen
  go_enter Try.func85, Try.ntmps85
  go_wp2
  go_ret
  exact ⟨rfl, Below.refl _ _⟩
/-- A function of two write lists that tells f of them. -/
def TellsW (F : Nat) (f : Wls → Wls → Bool) : Prop := ∀ (x y : Wls) (a a' : Option Addr) (d d' : Nat) (V : World), x.ids.length ≤ maxLen → y.ids.length ≤ maxLen → RdC V V.heap.size a (wids x.ids) → RdC V V.heap.size a' (wids y.ids) →
 Calls Try.prog F #[.agg #[.int .i64 x.a, .slice a x.ids.length d], .agg #[.int .i64 y.a, .slice a' y.ids.length d']] V fun e w' => e = .returned (.bool (f x y)) ∧ Below V.heap.size V w'
theorem sameList_any : TellsW 40 sameV := by
 intro x y a a' d d' w hx hy hr hr'
 obtain ⟨W, hW⟩ : ∃ W, W = (w.alloc (Obj.cells #[.int .i64 x.a, .slice a x.ids.length d] 69)).alloc (Obj.cells #[.int .i64 y.a, .slice a' y.ids.length d'] 69) := ⟨_, rfl⟩
 obtain ⟨k1, k2, hz, B0⟩ := two_new _ _ _ _ _ W hW
 have HW := hide hW
 have SV := hide (show sameV x y = ((x.a == y.a) && sameI x.ids y.ids) from rfl)
 obtain ⟨z, hzz⟩ : ∃ z, z = sameI x.ids y.ids := ⟨_, rfl⟩
 have SP := hide (fun W => idsEq_any x.ids y.ids a a' d d' W hx)
 rw [← hzz] at SV SP
 have hR := (hr.below B0).lt
 have hR' := (hr'.below B0).lt
 clear hW hzz
 go_enter Try.func40, Try.ntmps40
 by_cases he : x.a = y.a
 ·have f0 : (x.a == y.a) = true := beq_iff_eq.2 he
  clear he
  go_wp2_with fail
  rw [← HW.out]
  refine (SP.out _ hR hR').mono ?_
  rintro e w1 ⟨rfl, hb⟩
  go_wp2
  go_ret
  exact ⟨ret_bool (by rw [SV.out, f0]; rfl), B0.trans (hb.mono B0.size)⟩
 ·have f0 : (x.a == y.a) = false := beq_eq_false_iff_ne.2 he
  clear he
  go_wp2
  go_ret
  exact ⟨ret_bool (by rw [SV.out, f0]; rfl), by go_grown⟩
set_option maxRecDepth 100000 in
set_option maxHeartbeats 800000 in
theorem eqFuncV_any (os O : List Wls) (A A' : Option Addr) (c c' : Nat) (w : World) (hm : os.length ≤ maxLen) (h : RdW w w.heap.size A os) (h' : RdW w w.heap.size A' O) :
  Calls Try.prog 39 #[.slice A os.length c, .slice A' O.length c', .func (.func 40) #[] #[]] w fun e w' => e = .returned (.bool (relB sameV os O)) ∧ Below w.heap.size w w' := by
 unfold maxLen at hm
 by_cases hlen : O.length = os.length
 ·have HS := hide (fun (h : UpF sameV os O os.length) => relB_all hlen.symm h)
  rw [hlen]
  have hfl : ∀ k : Nat, k < os.length → k < O.length := fun k h => by omega
  have HL := hide hfl
  clear hfl hlen
  go_enter Try.func39, Try.ntmps39
  go_wp2
  go_loopw [17] (fun i wr => ∃ k : Nat, k ≤ os.length ∧ i = .int .i64 k ∧ Below w.heap.size w wr ∧ Hid (UpF sameV os O k)) (fun i _ => os.length - (intOf i).toNat)
  case atStart => exact ⟨0, Nat.zero_le _, rfl, Below.refl _ _, hide fun i _ _ h => by omega⟩
  case round =>
   obtain ⟨k, hk, rfl, hb, HR⟩ := hrel
   by_cases hlt : k < os.length
   ·obtain ⟨b, off, a, d, rfl, hbb, hc0, hc1, hle, hcm, hr⟩ := (h.below hb).get hlt
    obtain ⟨b', off', a', d', rfl, hbb', hd0, hd1, hle', hdm, hr'⟩ := (h'.below hb).get (HL.out _ hlt)
    obtain ⟨x, hx⟩ : ∃ x, x = os[k] := ⟨_, rfl⟩
    obtain ⟨y, hy⟩ : ∃ y, y = O[k]'(HL.out _ hlt) := ⟨_, rfl⟩
    rw [← hx] at hc0 hc1 hle hr
    rw [← hy] at hd0 hd1 hle' hr'
    obtain ⟨W, hW⟩ : ∃ W, W = (wr.alloc (Obj.cells #[.int .i64 x.a, .slice a x.ids.length d] 69)).alloc (Obj.cells #[.int .i64 y.a, .slice a' y.ids.length d'] 69) := ⟨_, rfl⟩
    obtain ⟨k1, k2, hz, B0⟩ := two_new _ _ _ _ _ W hW
    have HW := hide hW
    have e0 := (World.cell?_alloc_lt wr (Obj.cells #[.int .i64 x.a, .slice a x.ids.length d] 69) ⟨b', off' + k * 2, none⟩ (block_lt_of_cell hd0)).trans hd0
    have e1 := (World.cell?_alloc_lt wr (Obj.cells #[.int .i64 x.a, .slice a x.ids.length d] 69) ⟨b', off' + k * 2 + 1, none⟩ (block_lt_of_cell hd1)).trans hd1
    have q0 := (k1.cell 0).trans (rfl : _ = some (Value.int .i64 x.a))
    have q1 := (k1.cell 1).trans (rfl : _ = some (Value.slice a x.ids.length d))
    have p0 := (k2.cell 0).trans (rfl : _ = some (Value.int .i64 y.a))
    have p1 := (k2.cell 1).trans (rfl : _ = some (Value.slice a' y.ids.length d'))
    have B1 := hb.trans (B0.mono hb.size)
    have SP := hide (sameList_any x y a a' d d' W (by omega) (by omega) ((hr.lt.below B0).lt) ((hr'.lt.below B0).lt))
    have HX := hide hx
    have HY := hide hy
    clear hW hx hy hr hr' k1 k2 hz B0
    cases hf : sameV x y
    ·have HE := hide (show relB sameV os O = false from relB_not hlt (HL.out _ hlt) (by rw [← HX.out, ← HY.out]; exact hf))
     rw [hf] at SP
     clear hf
     go_upto_region 7 with fail
     rw [← HW.out]
     go_wp2_with fail
     refine SP.out.mono ?_
     rintro e w3 ⟨rfl, hb3⟩
     have hb4 := B1.trans (hb3.mono B1.size)
     go_wp2
     go_ret
     exact ⟨ret_bool HE.out.symm, hb4⟩
    ·have HE := hide (HR.out.step (k := k) fun h1 h2 => by rw [← HX.out, ← HY.out]; exact hf)
     rw [hf] at SP
     clear hf
     go_upto_region 7 with fail
     rw [← HW.out]
     go_wp2_with fail
     refine SP.out.mono ?_
     rintro e w3 ⟨rfl, hb3⟩
     have hb4 := B1.trans (hb3.mono B1.size)
     go_wp2
     go_roundw
     case rel => exact ⟨k + 1, by omega, by go_num, hb4, HE⟩
     case measure => simp [intOf]; omega
   ·obtain rfl : k = os.length := by omega
    go_wp2
    go_ret
    exact ⟨ret_bool (HS.out HR.out).symm, hb⟩
 ·rw [relB_len (fun e => hlen e.symm)]
  have f0 : ((os.length : Int) == (O.length : Int)) = false := beq_eq_false_iff_ne.2 (by omega)
  have f1 : ((os.length : Int) != (O.length : Int)) = true := bne_iff_ne.2 (by omega)
  clear hlen
  go_enter Try.func39, Try.ntmps39
  go_wp2
  go_ret
  exact ⟨rfl, Below.refl _ _⟩
theorem implSO_any (os O : List Wls) (A A' : Option Addr) (c c' : Nat) (w : World) (hm : os.length ≤ maxLen) (h : RdW w w.heap.size A os) (h' : RdW w w.heap.size A' O) :
  Calls Try.prog 12 #[.slice A os.length c, .slice A' O.length c'] w fun e w' => e = .returned (.bool (sameO os O)) ∧ Below w.heap.size w w' := by
 have EF := hide (eqFuncV_any os O A A' c c' w hm h h')
 rw [relB_same] at EF
 go_enter Try.func12, Try.ntmps12
 go_wp2_with fail
 refine EF.out.mono ?_
 rintro e w1 ⟨rfl, hb⟩
 go_wp2
 go_ret
 exact ⟨rfl, hb⟩
set_option maxRecDepth 100000 in
set_option maxHeartbeats 1000000 in
theorem specSO_any (os O : List Wls) (A A' : Option Addr) (c c' : Nat) (w : World) (hm : os.length ≤ maxLen) (h : RdW w w.heap.size A os) (h' : RdW w w.heap.size A' O) :
  Calls Try.prog 15 #[.slice A os.length c, .slice A' O.length c'] w fun e w' => e = .returned (.bool (sameO os O)) ∧ Below w.heap.size w w' := by
 unfold maxLen at hm
 by_cases hlen : O.length = os.length
 ·have HS := hide (fun (h : Upt os O os.length) => (if_pos (h.all hlen.symm) : sameO os O = true))
  have HN := hide (show ∀ (i : Nat) (h1 : i < os.length) (h2 : i < O.length), ¬ os[i] = O[i] → sameO os O = false from fun i h1 h2 e => if_neg fun e2 => e (by subst e2; rfl))
  rw [hlen]
  have hfl : ∀ k : Nat, k < os.length → k < O.length := fun k h => by omega
  have HL := hide hfl
  clear hfl hlen
  go_enter Try.func15, Try.ntmps15
  go_wp2
  go_loopw [14] (fun i wr => ∃ k : Nat, k ≤ os.length ∧ i = .int .i64 k ∧ Below w.heap.size w wr ∧ Hid (Upt os O k)) (fun i _ => os.length - (intOf i).toNat)
  case atStart => exact ⟨0, Nat.zero_le _, rfl, Below.refl _ _, hide (Upt.zero os O)⟩
  case round =>
   obtain ⟨k, hk, rfl, hb, HR⟩ := hrel
   by_cases hlt : k < os.length
   ·obtain ⟨b, off, a, d, rfl, hbb, hc0, hc1, hle, hcm, hr⟩ := (h.below hb).get hlt
    obtain ⟨b', off', a', d', rfl, hbb', hd0, hd1, hle', hdm, hr'⟩ := (h'.below hb).get (HL.out _ hlt)
    unfold maxLen at hcm hdm
    by_cases ha : os[k].a = (O[k]'(HL.out _ hlt)).a
    ·rw [← ha] at hd0
     by_cases hrow : (O[k]'(HL.out _ hlt)).ids.length = os[k].ids.length
     ·rw [hrow] at hd1 hle'
      have HRow := hide hrow
      have HA := hide ha
      clear hrow ha
      go_wp2
      go_quiet (fail)
      go_wp2
      clear hc0 hc1 hd0 hd1 hr hr'
      go_loopw [49] (fun q w2 => ∃ j : Nat, j ≤ os[k].ids.length ∧ q = .int .i64 j ∧ Below w.heap.size w w2 ∧ Hid (Upt os[k].ids (O[k]'(HL.out _ hlt)).ids j)) (fun q _ => os[k].ids.length - (intOf q).toNat)
      case atStart => exact ⟨0, Nat.zero_le _, rfl, below_drewN hb _, hide (Upt.zero _ _)⟩
      case round =>
       clear hb
       obtain ⟨j, hjk, rfl, hb2, HJ⟩ := hrel
       by_cases hj : j < os[k].ids.length
       ·obtain ⟨b3, off3, a3, e3, hA, _, hc0, hc1, hle3, _, hr⟩ := (h.below hb2).get hlt
        cases hA
        obtain ⟨b4, off4, a4, e4, hA, _, hd0, hd1, hle4, _, hr'⟩ := (h'.below hb2).get (HL.out _ hlt)
        cases hA
        rw [HRow.out] at hd1 hle4
        obtain ⟨b5, off5, rfl, _, c0, c1⟩ := ids_get hr hj
        obtain ⟨b6, off6, rfl, _, d0, d1⟩ := ids_get hr' (i := j) (by rw [HRow.out]; exact hj)
        by_cases he : os[k].ids[j] = (O[k]'(HL.out _ hlt)).ids[j]'(by rw [HRow.out]; exact hj)
        ·have HE := hide (HJ.out.step hj he)
         rw [← he] at d0 d1
         clear he
         go_wp2
         go_quiet (fail)
         go_wp2
         go_roundw
         case rel => exact ⟨j + 1, by omega, by go_num, below_drewN hb2 _, HE⟩
         case measure => simp [intOf]; omega
        ·have HE := hide (HN.out k hlt (HL.out _ hlt) fun e => he (by simp [e]))
         rcases wid_ne he with hx | ⟨hx0, hx⟩
         ·have f0 := beq_eq_false_iff_ne.2 hx
          clear he hx
          go_wp2
          go_quiet (fail)
          go_wp2
          go_ret
          exact ⟨ret_bool (by rw [HE.out]), below_drewN hb2 _⟩
         ·have f0 := beq_eq_false_iff_ne.2 hx
          rw [← hx0] at d0
          clear he hx hx0
          go_wp2
          go_quiet (fail)
          go_wp2
          go_ret
          exact ⟨ret_bool (by rw [HE.out]), below_drewN hb2 _⟩
       ·have hjl : j = os[k].ids.length := by omega
        have hrw : os[k].ids = (O[k]'(HL.out _ hlt)).ids := Upt.all HRow.out.symm (by rw [← hjl]; exact HJ.out)
        have hrx : os[k] = O[k]'(HL.out _ hlt) := by
         have h1 := HA.out
         revert hrw h1
         generalize os[k] = x
         generalize O[k]'(HL.out _ hlt) = y
         intro hrw h1
         obtain ⟨_, _⟩ := x
         obtain ⟨_, _⟩ := y
         simp only at hrw h1
         rw [hrw, h1]
        have HE := hide (HR.out.step hlt hrx)
        clear hrw hjl hrx
        go_wp2
        go_roundw
        case rel => exact ⟨k + 1, by omega, by go_num, hb2, HE⟩
        case measure => simp [intOf]; omega
     ·have HE := hide (HN.out k hlt (HL.out _ hlt) fun e => hrow (by rw [e]))
      obtain ⟨R, hR⟩ : ∃ R, R = (O[k]'(HL.out _ hlt)).ids.length := ⟨_, rfl⟩
      rw [← hR] at hd1 hrow hle'
      have f0 : ((os[k].ids.length : Int) == (R : Int)) = false := beq_eq_false_iff_ne.2 (by omega)
      have f1 : ((os[k].ids.length : Int) != (R : Int)) = true := bne_iff_ne.2 (by omega)
      clear hR hrow ha
      go_wp2
      go_quiet (fail)
      go_wp2
      go_ret
      exact ⟨ret_bool (by rw [HE.out]), below_drewN hb _⟩
    ·have HE := hide (HN.out k hlt (HL.out _ hlt) fun e => ha (by rw [e]))
     have f0 := beq_eq_false_iff_ne.2 ha
     have f1 := bne_iff_ne.2 ha
     clear ha
     go_wp2
     go_quiet (fail)
     go_wp2
     go_ret
     exact ⟨ret_bool (by rw [HE.out]), below_drewN hb _⟩
   ·obtain rfl : k = os.length := by omega
    go_wp2
    go_ret
    exact ⟨ret_bool (HS.out HR.out).symm, hb⟩
 ·rw [show sameO os O = false from if_neg fun e => hlen (by rw [e])]
  have f0 : ((os.length : Int) == (O.length : Int)) = false := beq_eq_false_iff_ne.2 (by omega)
  have f1 : ((os.length : Int) != (O.length : Int)) = true := bne_iff_ne.2 (by omega)
  clear hlen
  go_enter Try.func15, Try.ntmps15
  go_wp2
  go_ret
  exact ⟨rfl, Below.refl _ _⟩
end Go.Proofs.Ytnnfkmjhaljplaa
namespace Go.Proofs.Ytnnfkmjhaljplaa
open Go.RowKit
theorem RdC.src {w w' : World} {g B : Nat} {A : Option Addr} {es : List Cel} {n c : Nat} {Z : Option Addr} {k k' : Int} {T : TypeId} (h : RdC w B A es) (hs : Bk w g #[.slice Z n c, .int .i64 k] T) (hs' : Bk w' g #[.slice Z n c, .int .i64 k'] T) (hg : w.grownBy w' (some g)) : RdC w' B A es := by
 intro h0
 obtain ⟨b, off, e, hb, hc⟩ := h h0
 have hl : 2 ≤ (cels es).length := by rw [cels_length] at h0 ⊢; omega
 refine ⟨b, off, e, hb, fun i hi => cell_src hs hs' hg _ (hc i hi) ?_⟩
 intro hbg _
 subst hbg
 have c0 := hc 0 (by omega)
 have c1 := hc 1 (by omega)
 rw [hs.cell] at c0 c1
 have he : 0 < es.length := by rw [cels_length] at h0; omega
 have z0 := (cels_get es 0 he).1
 rw [Nat.zero_mul, List.getElem?_eq_getElem (by omega)] at z0
 match off, c0, c1 with
 | 0, c0, _ => simp [Option.some.inj z0] at c0
 | (o + 1), _, c1 => simp at c1
theorem RdW.src {w w' : World} {g B : Nat} {A : Option Addr} {os : List Wls} {n c : Nat} {Z : Option Addr} {k k' : Int} {T : TypeId} (h : RdW w B A os) (hs : Bk w g #[.slice Z n c, .int .i64 k] T) (hs' : Bk w' g #[.slice Z n c, .int .i64 k'] T) (hg : w.grownBy w' (some g)) : RdW w' B A os := by
 intro h0
 obtain ⟨b, off, e, hb, hc⟩ := h h0
 refine ⟨b, off, e, hb, fun i hi => ?_⟩
 obtain ⟨h1, a, c', h2, h3, h4, h5⟩ := hc i hi
 refine ⟨cell_src hs hs' hg _ h1 ?_, a, c', cell_src hs hs' hg _ h2 ?_, h3, h4, h5.src hs hs' hg⟩
 ·intro hbg hi1
  subst hbg
  rw [hs.cell, hi1] at h2
  simp at h2
 ·intro hbg hi1
  subst hbg
  rw [hs.cell, hi1] at h2
  simp at h2
end Go.Proofs.Ytnnfkmjhaljplaa
namespace Go.Proofs.Ytnnfkmjhaljplaa
open Go.RowKit
/-- What is drawn: a trace and write lists to read, and the source gone on. -/
def LdPost (w : World) (g : Nat) (A : Option Addr) (c : Nat) (l : List Int) (k : Nat) (e : Ending) (w' : World) : Prop :=
 ∃ (t : List (List Ev)) (os : List Wls) (D E : Option Addr) (d ec : Nat), e = .returned (.tuple #[.slice D t.length d, .slice E os.length ec]) ∧ t.length ≤ 5 ∧ (∀ x ∈ t, x.length ≤ 150) ∧ os.length ≤ 200 ∧ (∀ x ∈ os, x.ids.length ≤ 1000) ∧ RdT w' w'.heap.size D t ∧ RdW w' w'.heap.size E os ∧ Went w g A c l k 600 w'
/-- The contract, as what draws on it asks. -/
def LdOk : Prop := ∀ (g k : Nat) (A : Option Addr) (c : Nat) (l : List Int) (w : World), Src w g A c l k → k ≤ 10 →
  Calls Try.prog 34 #[.pointer (some ⟨g, 0, none⟩)] w (LdPost w g A c l k)
end Go.Proofs.Ytnnfkmjhaljplaa
namespace Go.Proofs.Ytnnfkmjhaljplaa
open Go.RowKit
theorem own_types {w : World} {b1 b2 s1 s2 n1 n2 : Nat} {e1 e2 : TypeId} {v1 v2 : Value} {xs1 xs2 : List Value} (h1 : w.ownsRow b1 e1 s1 v1 n1 xs1) (h2 : w.ownsRow b2 e2 s2 v2 n2 xs2) (he : e1 ≠ e2) : ∀ b, v1.ownBlock = some b → v2.ownBlock ≠ some b := fun b hb1 hb2 => by
 rcases h1.2 with ⟨rfl, _⟩ | ⟨g1, c1, cur1, rfl, _, k1, _⟩
 ·cases hb1
 ·rcases h2.2 with ⟨rfl, _⟩ | ⟨g2, c2, cur2, rfl, _, k2, _⟩
  ·cases hb2
  ·simp only [Value.ownBlock, Option.some.injEq] at hb1 hb2
   subst hb1
   subst hb2
   rw [k1] at k2
   simp only [Option.some.injEq, Obj.cells.injEq] at k2
   exact he k2.2.1
theorem own_box {w : World} {b1 s1 n1 g : Nat} {e1 e2 : TypeId} {v1 : Value} {xs1 : List Value} {cs : Array Value} (h1 : w.ownsRow b1 e1 s1 v1 n1 xs1) (h2 : Bk w g cs e2) (he : e1 ≠ e2) : v1.ownBlock ≠ some g := fun hb => by
 rcases h1.2 with ⟨rfl, _⟩ | ⟨g1, c1, cur1, rfl, _, k1, _⟩
 ·cases hb
 ·simp only [Value.ownBlock, Option.some.injEq] at hb
  subst hb
  rw [show w.heap[g1]? = some (.cells cs e2 (0, 0)) from h2] at k1
  simp only [Option.some.injEq, Obj.cells.injEq] at k1
  exact he k1.2.1.symm
end Go.Proofs.Ytnnfkmjhaljplaa
namespace Go.Proofs.Ytnnfkmjhaljplaa
open Go.RowKit
/-- A row turned in its own memory. -/
theorem OwnT.turn {w w1 : World} {base i : Nat} {v u : Value} {t : List (List Ev)} {us : List Value} {es' : List Ev} (h : OwnT w base v t us) (hui : us[i]? = some u) (hg : w.grownBy w1 u.ownBlock) (hu' : w1.ownsRow base 81 3 u es'.length (evs es')) :
  OwnT w1 base v (t.set i es') us := by
 obtain ⟨hi, hu, hu3⟩ := h.at_ hui
 refine ⟨?_, fun j hj => ?_, h.apart⟩
 ·rw [List.length_set]
  exact h.row.kept hg (own_sep fun b hb e => hu3 b e hb)
 ·have hj' : j < t.length := by rw [List.length_set] at hj; exact hj
  obtain ⟨x, h1, h2, h3⟩ := h.rows j hj'
  by_cases hji : j = i
  ·subst hji
   rw [hui] at h1
   cases h1
   refine ⟨u, hui, ?_, hu3⟩
   rw [List.getElem_set_self]
   exact hu'
  ·refine ⟨x, h1, ?_, h3⟩
   rw [List.getElem_set_ne (by omega)]
   exact h2.kept hg (own_sep fun b hb e => h.apart i j u x (by omega) hui h1 b e hb)
end Go.Proofs.Ytnnfkmjhaljplaa
namespace Go.Proofs.Ytnnfkmjhaljplaa
open Go.RowKit
/-- Only the rows us are turned; there may be more memory. -/
structure Only (us : List Value) (w w' : World) : Prop where
 size : w.heap.size ≤ w'.heap.size
 below : ∀ lo : Nat, lo ≤ w.heap.size → (∀ u ∈ us, ∀ b, u.ownBlock = some b → lo ≤ b) → Below lo w w'
 own : ∀ (base : Nat) (e : TypeId) (size n : Nat) (v : Value) (xs : List Value), w.ownsRow base e size v n xs → (∀ b, v.ownBlock = some b → ∀ u ∈ us, u.ownBlock ≠ some b) → w'.ownsRow base e size v n xs
 bk : ∀ (g : Nat) (cs : Array Value) (t : TypeId), Bk w g cs t → (∀ u ∈ us, u.ownBlock ≠ some g) → Bk w' g cs t
theorem Only.refl (us : List Value) (w : World) : Only us w w := ⟨Nat.le_refl _, fun _ _ _ => Below.refl _ _, fun _ _ _ _ _ _ h _ => h, fun _ _ _ h _ => h⟩
theorem Only.trans {us : List Value} {a b c : World} (h : Only us a b) (k : Only us b c) : Only us a c :=
 ⟨Nat.le_trans h.size k.size, fun lo hl hu => (h.below lo hl hu).trans (k.below lo (by have := h.size; omega) hu), fun _ _ _ _ _ _ x y => k.own _ _ _ _ _ _ (h.own _ _ _ _ _ _ x y) y, fun _ _ _ x y => k.bk _ _ _ (h.bk _ _ _ x y) y⟩
theorem Only.of_grown {us : List Value} {w w' : World} {u : Value} (h : w.grownBy w' u.ownBlock) (hu : u ∈ us) : Only us w w' :=
 ⟨h.size, fun _ hl hlo => (Below.refl _ _).grown h hl (fun k hk => hlo u hu k hk), fun _ _ _ _ _ _ x y => x.kept h (own_sep fun b hb => y b hb u hu), fun _ _ _ x y => x.grown h (fun e => y u hu e.symm)⟩
theorem Only.more {us us' : List Value} {w w' : World} (h : Only us w w') (hs : ∀ u ∈ us, u ∈ us') : Only us' w w' :=
 ⟨h.size, fun lo hl hu => h.below lo hl fun u x => hu u (hs u x), fun _ _ _ _ _ _ x y => h.own _ _ _ _ _ _ x fun b hb u z => y b hb u (hs u z), fun _ _ _ x y => h.bk _ _ _ x fun u z => y u (hs u z)⟩
end Go.Proofs.Ytnnfkmjhaljplaa
