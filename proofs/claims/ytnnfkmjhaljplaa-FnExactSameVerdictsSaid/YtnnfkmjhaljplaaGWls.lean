/- Contracts of the exact laws' own helpers on slices of ids: measured, copied, compared, marked, held. What a slice of write lists reads as in memory, and such a one of the call's own; plain lemmas. Contracts of the exact laws' own helpers on slices of write lists: measured, compared. Contracts of the exact laws' own helpers on slices of write lists: copied into memory of the call's own. Contracts of SameOrders, in the program and in its model; of slices.Equal at ids, and of slices.EqualFunc at write lists with whatever function. -/
import Derived.Test.YtnnfkmjhaljplaaGTb
import Derived.StillTailTactics
import Derived.Lib.Hide
import Derived.Test.YtnnfkmjhaljplaaGOdm
import Derived.Test.YtnnfkmjhaljplaaGBase
import Derived.Test.YtnnfkmjhaljplaaGTrS
import Derived.Test.YtnnfkmjhaljplaaGFr
import Derived.Deep.DeepCutAuto
import Derived.BigQuiet
namespace Go.Proofs.Ytnnfkmjhaljplaa
open Go.RowKit

theorem toWriteId_any (a v : Int) (w : World) :
    Calls Try.prog 132 #[celV a v] w fun e w' => e = .returned (celV a v) ∧ Below w.heap.size w w' := by
  go_enter Try.func132, Try.ntmps132
  go_wp2
  refine bodyPost_ret (v := celV a v) (by simp [results, Try.results132, go_sem]) rfl ?_
  exact ⟨rfl, by go_grown⟩
theorem eqWriteId_same (a v : Int) (w : World) :
    Calls Try.prog 133 #[celV a v, celV a v] w fun e w' => e = .returned (.bool true) ∧ Below w.heap.size w w' := by
  go_enter Try.func133, Try.ntmps133
  go_wp2
  go_ret
  exact ⟨rfl, by go_grown⟩
theorem info_wid : (Try.prog.info? 83).map (fun i => (i.zero, i.size, i.bytes)) = some (some (.agg #[.int .i64 0, .int .i64 0]), 2, 16) := by kernel_rfl

theorem szWriteIdS_fit (A : Option Addr) (n c m : Nat) (w : World) (hm : n ≤ m) (h : m ≤ 1048576) :
    Calls Try.prog 118 #[.slice A n c, .int .i64 m] w fun e w' => e = .returned (.int .i64 ((m - n : Nat) : Int)) ∧ w = w' := by
  go_enter Try.func118, Try.ntmps118
  go_wp2
  go_ret
  exact ⟨ret_int (by omega), rfl⟩
theorem szWriteIdS_not (A : Option Addr) (n c m : Nat) (w : World) (hm : m < n) (h : m ≤ 1048576) (hn : n ≤ maxLen) :
    Calls Try.prog 118 #[.slice A n c, .int .i64 m] w fun e w' => e = .returned (.int .i64 (-1)) ∧ w = w' := by
  unfold maxLen at hn
  go_enter Try.func118, Try.ntmps118
  go_wp2
  go_ret
  exact ⟨rfl, rfl⟩

set_option maxRecDepth 100000 in
set_option maxHeartbeats 400000 in
theorem eqWriteIdS_same (es : List Cel) (A A' : Option Addr) (c c' : Nat) (w : World) (hm : es.length ≤ maxLen) (h : RdC w w.heap.size A es) (h' : RdC w w.heap.size A' es) :
    Calls Try.prog 122 #[.slice A es.length c, .slice A' es.length c'] w fun e w' => e = .returned (.bool true) ∧ Below w.heap.size w w' := by
  unfold maxLen at hm
  go_enter Try.func122, Try.ntmps122
  go_wp2
  go_loopw [5] (fun i wr => ∃ k : Nat, k ≤ es.length ∧ i = .int .i64 k ∧ Below w.heap.size w wr) (fun i _ => es.length - (intOf i).toNat)
  case atStart => exact ⟨0, Nat.zero_le _, rfl, Below.refl _ _⟩
  case round =>
    obtain ⟨k, hk, rfl, hb⟩ := hrel
    by_cases hlt : k < es.length
    · obtain ⟨b, off, rfl, hbb, hc0, hc1⟩ := (h.below hb).get hlt
      obtain ⟨b', off', rfl, hbb', hd0, hd1⟩ := (h'.below hb).get hlt
      go_wp2
      go_still_tail 8, (by kernel_rfl)
      change wpList _ _ _ _ _ wr.drew
      generalize hw2 : wr.drew = w2
      have hb2 : Below w.heap.size w w2 := by rw [← hw2]; exact hb.drew
      clear hw2
      go_wp2_with fail
      refine (eqWriteId_same _ _ _).mono ?_
      rintro e w3 ⟨rfl, hb3⟩
      have hb4 := hb2.trans (hb3.mono hb2.size)
      go_wp2
      go_roundw
      case rel => exact ⟨k + 1, by omega, by go_num, hb4⟩
      case measure => simp [intOf]; omega
    · go_wp2
      go_ret
      exact ⟨rfl, hb⟩

set_option maxRecDepth 100000 in
set_option maxHeartbeats 400000 in
theorem toWriteIdS_any (es : List Cel) (A : Option Addr) (c : Nat) (w : World) (hm : es.length ≤ 1048576) (h : RdC w w.heap.size A es) :
    Calls Try.prog 120 #[.slice A es.length c] w fun e w' => ∃ g, e = .returned (.slice (some ⟨g, 0, none⟩) es.length es.length) ∧ w'.ownsRow w.heap.size 83 2 (.slice (some ⟨g, 0, none⟩) es.length es.length) es.length (cels es) ∧ Below w.heap.size w w' := by
  obtain ⟨i0, hi, hz0, hz1, hz2⟩ := info_parts info_wid
  go_enter Try.func120, Try.ntmps120
  go_wp2_with (at_make; refine wpList_make_full _ rfl _ _ 67 rfl w.heap.size 83 i0 (.agg #[.int .i64 0, .int .i64 0]) 2 Try.underlying67 hi hz0 hz1 .i64 .i64 _ _ es.length rfl rfl rfl rfl (by rw [hz2]; omega) (by unfold maxLen; omega) (Nat.le_refl _) ?_; intro w1 hown hg)
  rw [made_cell, ← halfC_zero] at hown
  have hb1 : Below w.heap.size w w1 := (Below.refl _ _).grown hg (Nat.le_refl _) (by simp)
  clear hg
  go_loopw [4] (fun i wr => ∃ k : Nat, k ≤ es.length ∧ i = .int .i64 k ∧ wr.ownsRow w.heap.size 83 2 (.slice (some ⟨w.heap.size, 0, none⟩) es.length es.length) es.length (halfC es k) ∧ Below w.heap.size w wr) (fun i _ => es.length - (intOf i).toNat)
  case atStart => exact ⟨0, Nat.zero_le _, rfl, hown, hb1⟩
  case round =>
    obtain ⟨k, hk, rfl, ho, hb⟩ := hrel
    by_cases hlt : k < es.length
    · obtain ⟨b, off, rfl, hbb, hc0, hc1⟩ := (h.below hb).get hlt
      go_wp2_with fail
      refine (toWriteId_any _ _ _).mono ?_
      rintro e w2 ⟨rfl, hb2⟩
      have hb3 := hb.trans (hb2.mono hb.size)
      have ho2 := own_below ho hb2 (Nat.le_refl _)
      have hlen := halfC_length es k hk
      have hf0 := ho2.frozenAt (k * 2)
      have hf1 := ho2.frozenAt (k * 2 + 1)
      obtain ⟨v0, hx0⟩ : ∃ v, w2.cell? ⟨w.heap.size, k * 2, none⟩ = some v := by
        rw [ho2.cellAt (k * 2) (by omega)]
        exact ⟨_, List.getElem?_eq_getElem (by omega)⟩
      obtain ⟨v1, hx1⟩ : ∃ v, w2.cell? ⟨w.heap.size, k * 2 + 1, none⟩ = some v := by
        rw [ho2.cellAt (k * 2 + 1) (by omega)]
        exact ⟨_, List.getElem?_eq_getElem (by omega)⟩
      have HS := hide (((ho2.stored (k * 2) (.int .i64 es[k].a)).1.stored (k * 2 + 1) (.int .i64 es[k].v)).1)
      clear ho2 ho hlen
      go_wp2
      go_roundw
      case rel =>
        refine ⟨k + 1, by omega, by go_num, ?_, (hb3.setCell (Nat.le_refl _) _).setCell (Nat.le_refl _) _⟩
        rw [← halfC_set es k hlt]
        exact HS.out
      case measure => simp [intOf]; omega
    · go_wp2
      go_ret
      obtain rfl : k = es.length := by omega
      rw [halfC_all] at ho
      exact ⟨_, rfl, ho, hb⟩

end Go.Proofs.Ytnnfkmjhaljplaa
namespace Go.Proofs.Ytnnfkmjhaljplaa
open Go.RowKit

def wid (x : Wid) : Cel := ⟨x.c, x.i⟩
def wids (l : List Wid) : List Cel := l.map wid
theorem wids_length (l : List Wid) : (wids l).length = l.length := by simp [wids]
/-- The slice address A leads to the write lists os. -/
def RdW (w : World) (B : Nat) (A : Option Addr) (os : List Wls) : Prop :=
  0 < os.length → ∃ b off, A = some ⟨b, off, none⟩ ∧ b < B ∧ ∀ i, (h : i < os.length) → w.cell? ⟨b, off + i * 2, none⟩ = some (.int .i64 os[i].a) ∧ ∃ a c, w.cell? ⟨b, off + i * 2 + 1, none⟩ = some (.slice a os[i].ids.length c) ∧ os[i].ids.length ≤ c ∧ c ≤ maxLen ∧ RdC w B a (wids os[i].ids)
section
variable {w w' : World} {B B' : Nat} {A : Option Addr} {os : List Wls}
theorem RdW.nil_ : RdW w B A [] := fun h => absurd h (by simp)
theorem RdW.keep (h : RdW w B A os) (hk : ∀ p : Addr, p.block < B → w'.cell? p = w.cell? p) : RdW w' B A os := by
  intro h0
  obtain ⟨b, off, e, hb, hc⟩ := h h0
  refine ⟨b, off, e, hb, fun i hi => ?_⟩
  obtain ⟨h0, a, c, h1, h2, h3, h4⟩ := hc i hi
  exact ⟨(hk _ hb).trans h0, a, c, (hk _ hb).trans h1, h2, h3, h4.keep hk⟩
theorem RdW.more (h : RdW w B A os) (hB : B ≤ B') : RdW w B' A os := by
  intro h0
  obtain ⟨b, off, e, hb, hc⟩ := h h0
  refine ⟨b, off, e, by omega, fun i hi => ?_⟩
  obtain ⟨h0, a, c, h1, h2, h3, h4⟩ := hc i hi
  exact ⟨h0, a, c, h1, h2, h3, h4.more hB⟩
theorem RdW.below (h : RdW w B A os) (hb : Below B w w') : RdW w' B A os := h.keep fun _ hp => hb.cell hp
theorem RdW.drew (h : RdW w B A os) : RdW w.drew B A os := h
theorem RdW.alloc (h : RdW w B A os) (hB : B ≤ w.heap.size) (o : Obj) : RdW (w.alloc o) B A os := h.keep fun p hp => World.cell?_alloc_lt w o p (by omega)
theorem RdW.lt (h : RdW w B A os) : RdW w w.heap.size A os := by
  intro h0
  obtain ⟨b, off, e, hb, hc⟩ := h h0
  refine ⟨b, off, e, ?_, fun i hi => ?_⟩
  · obtain ⟨h1, _⟩ := hc 0 h0
    exact block_lt_of_cell h1
  · obtain ⟨h0, a, c, h1, h2, h3, h4⟩ := hc i hi
    exact ⟨h0, a, c, h1, h2, h3, h4.lt⟩
theorem RdW.get (h : RdW w B A os) {i : Nat} (hi : i < os.length) : ∃ b off a c, A = some ⟨b, off, none⟩ ∧ b < B ∧ w.cell? ⟨b, off + i * 2, none⟩ = some (.int .i64 os[i].a) ∧ w.cell? ⟨b, off + i * 2 + 1, none⟩ = some (.slice a os[i].ids.length c) ∧ os[i].ids.length ≤ c ∧ c ≤ maxLen ∧ RdC w B a (wids os[i].ids) := by
  obtain ⟨b, off, e, hb, hc⟩ := h (by omega)
  obtain ⟨h0, a, c, h1, h2, h3, h4⟩ := hc i hi
  exact ⟨b, off, a, c, e, hb, h0, h1, h2, h3, h4⟩
end
theorem sumO_drop (os : List Wls) (i : Nat) (h : i < os.length) : sumO (os.drop i) = os[i].ids.length + sumO (os.drop (i + 1)) := by
  rw [List.drop_eq_getElem_cons h, sumO]
theorem sumO_end {os : List Wls} {i : Nat} (h : ¬ i < os.length) : sumO (os.drop i) = 0 := by rw [List.drop_eq_nil_of_le (by omega)]; rfl
/-- The cells of a row of write lists whose ids lie in us. -/
def wlR : List Wls → List Value → List Value
  | x :: r, u :: us => .int .i64 x.a :: u :: wlR r us
  | _, _ => []
theorem wlR_length : ∀ {os : List Wls} {us : List Value}, us.length = os.length → (wlR os us).length = os.length * 2
  | [], [], _ => rfl
  | [], _ :: _, h => by simp at h
  | _ :: _, [], h => by simp at h
  | x :: r, u :: us, h => by
    have := wlR_length (os := r) (us := us) (by simpa using h)
    simp only [wlR, List.length_cons, this]
    omega
theorem wlR_get : ∀ {os : List Wls} {us : List Value}, us.length = os.length → ∀ (i : Nat) (h : i < os.length), (wlR os us)[i * 2]? = some (.int .i64 os[i].a) ∧ (wlR os us)[i * 2 + 1]? = us[i]?
  | [], _, _, i, h => by simp at h
  | _ :: _, [], h, _, _ => by simp at h
  | x :: r, u :: us, h, 0, _ => ⟨rfl, rfl⟩
  | x :: r, u :: us, h, i + 1, hi => by
    have := wlR_get (os := r) (us := us) (by simpa using h) i (by simpa using hi)
    rw [show (i + 1) * 2 = i * 2 + 1 + 1 by omega, wlR]
    simp only [List.getElem?_cons_succ, List.getElem_cons_succ]
    exact this
theorem wlR_append : ∀ {os : List Wls} {us : List Value}, us.length = os.length → ∀ (x : Wls) (u : Value), wlR (os ++ [x]) (us ++ [u]) = wlR os us ++ [.int .i64 x.a, u]
  | [], [], _, _, _ => rfl
  | [], _ :: _, h, _, _ => by simp at h
  | _ :: _, [], h, _, _ => by simp at h
  | y :: r, v :: us, h, x, u => by
    have := wlR_append (os := r) (us := us) (by simpa using h) x u
    simp only [List.cons_append, wlR, this]
/-- Write lists in a row of the call's own, the ids of each in one of their own, apart from the others'. -/
structure OwnW (w : World) (base : Nat) (v : Value) (os : List Wls) (us : List Value) : Prop where
  row : w.ownsRow base 69 2 v os.length (wlR os us)
  len : us.length = os.length
  rows : ∀ i, (hi : i < os.length) → ∃ u, us[i]? = some u ∧ w.ownsRow base 83 2 u os[i].ids.length (cels (wids os[i].ids))
  apart : ∀ (i j : Nat) (u u' : Value), i ≠ j → us[i]? = some u → us[j]? = some u' → ∀ b, u.ownBlock = some b → u'.ownBlock ≠ some b
section
variable {w w' : World} {base : Nat} {v : Value} {os : List Wls} {us : List Value}
theorem OwnW.kept {row : Option Nat} (h : OwnW w base v os us) (hg : w.grownBy w' row) (hr : ∀ b, row = some b → b < base) : OwnW w' base v os us :=
  ⟨h.row.kept hg (own_sep fun b hb e => by have := (h.row.lt b hb).1; have := hr b e; omega), h.len, fun i hi => by
    obtain ⟨u, h1, h2⟩ := h.rows i hi
    exact ⟨u, h1, h2.kept hg (own_sep fun b hb e => by have := (h2.lt b hb).1; have := hr b e; omega)⟩, h.apart⟩
theorem OwnW.below (h : OwnW w base v os us) (hb : Below w.heap.size w w') : OwnW w' base v os us := h.kept (row := none) ⟨hb.os, hb.tape, hb.output, hb.size, fun k hk _ => hb.block k hk⟩ (fun b e => by cases e)
theorem OwnW.alloc (h : OwnW w base v os us) (o : Obj) : OwnW (w.alloc o) base v os us := h.below ((Below.refl _ _).alloc (Nat.le_refl _) _)
theorem OwnW.mono (h : OwnW w base v os us) {b' : Nat} (hb : b' ≤ base) : OwnW w b' v os us :=
  ⟨own_mono h.row hb, h.len, fun i hi => by
    obtain ⟨u, h1, h2⟩ := h.rows i hi
    exact ⟨u, h1, own_mono h2 hb⟩, h.apart⟩
theorem OwnW.nil_ (w : World) (base : Nat) : OwnW w base (.slice none 0 0) [] [] := ⟨World.ownsRow_nil _ _ _ _, rfl, fun i hi => by simp at hi, fun i j u u' _ hu => by simp at hu⟩
theorem OwnW.rd {A : Option Addr} {n c : Nat} (h : OwnW w base (.slice A n c) os us) : RdW w w.heap.size A os := by
  intro h0
  rcases h.row.2 with ⟨h', h''⟩ | ⟨g, cap, cur, h', _⟩
  · omega
  · have hr := h.row
    simp only [Value.slice.injEq] at h'
    obtain ⟨rfl, rfl, rfl⟩ := h'
    refine ⟨g, 0, rfl, (hr.lt g rfl).2, fun i hi => ?_⟩
    obtain ⟨u, h1, h2⟩ := h.rows i hi
    obtain ⟨g1, g2⟩ := wlR_get h.len i hi
    obtain ⟨a, c, rfl⟩ := own_shape h2
    have hcp := own_capE h2
    rw [Nat.zero_add]
    refine ⟨by rw [hr.cellAt _ (by omega)]; exact g1, a, c, by rw [hr.cellAt _ (by omega), g2]; exact h1, hcp.1, hcp.2, ?_⟩
    exact RdC.of_own h2
end
end Go.Proofs.Ytnnfkmjhaljplaa
namespace Go.Proofs.Ytnnfkmjhaljplaa
open Go.RowKit

theorem info_wls : (Try.prog.info? 69).map (fun i => (i.zero, i.size, i.bytes)) = some (some (.agg #[.int .i64 0, .slice none 0 0]), 2, 32) := by kernel_rfl

theorem szWriteList_fit (x : Int) (A : Option Addr) (n c m : Nat) (w : World) (hm : n ≤ m) (h : m ≤ 1048576) :
    Calls Try.prog 99 #[.agg #[.int .i64 x, .slice A n c], .int .i64 m] w fun e w' => e = .returned (.int .i64 ((m - n : Nat) : Int)) ∧ Below w.heap.size w w' := by
  have kb := Bk.new w #[.int .i64 x, .slice A n c] 154
  have c1 := (kb.cell 1).trans (rfl : _ = some (Value.slice A n c))
  have hb := (Below.refl w.heap.size w).alloc (Nat.le_refl _) (Obj.cells #[.int .i64 x, .slice A n c] 154)
  go_enter Try.func99, Try.ntmps99
  go_wp2_with fail
  refine (szWriteIdS_fit A n c m _ hm h).mono ?_
  rintro e w' ⟨rfl, rfl⟩
  go_wp2
  go_ret
  exact ⟨rfl, hb⟩
theorem szWriteList_not (x : Int) (A : Option Addr) (n c m : Nat) (w : World) (hm : m < n) (h : m ≤ 1048576) (hn : n ≤ maxLen) :
    Calls Try.prog 99 #[.agg #[.int .i64 x, .slice A n c], .int .i64 m] w fun e w' => e = .returned (.int .i64 (-1)) ∧ Below w.heap.size w w' := by
  have kb := Bk.new w #[.int .i64 x, .slice A n c] 154
  have c1 := (kb.cell 1).trans (rfl : _ = some (Value.slice A n c))
  have hb := (Below.refl w.heap.size w).alloc (Nat.le_refl _) (Obj.cells #[.int .i64 x, .slice A n c] 154)
  go_enter Try.func99, Try.ntmps99
  go_wp2_with fail
  refine (szWriteIdS_not A n c m _ hm h hn).mono ?_
  rintro e w' ⟨rfl, rfl⟩
  go_wp2
  go_ret
  exact ⟨rfl, hb⟩

set_option maxHeartbeats 400000 in
theorem szWriteListS_fit (os : List Wls) (A : Option Addr) (c m : Nat) (w : World) (hs : os.length + sumO os ≤ m) (hm : m ≤ 1048576) (h : RdW w w.heap.size A os) :
    Calls Try.prog 60 #[.slice A os.length c, .int .i64 m] w fun e w' => e = .returned (.int .i64 ((m - os.length - sumO os : Nat) : Int)) ∧ Below w.heap.size w w' := by
  go_enter Try.func60, Try.ntmps60
  go_wp2
  go_loopw [1, 5] (fun q i wr => ∃ k l : Nat, k ≤ os.length ∧ i = .int .i64 k ∧ q = .int .i64 l ∧ l ≤ 1048576 ∧ l = m - os.length - sumO os + sumO (os.drop k) ∧ Below w.heap.size w wr) (fun _ i _ => os.length - (intOf i).toNat)
  case atStart => exact ⟨0, m - os.length, Nat.zero_le _, rfl, by go_num, by omega, by simp; omega, Below.refl _ _⟩
  case round =>
    obtain ⟨k, l, hk, rfl, rfl, h2, hl, hb⟩ := hrel
    by_cases hlt : k < os.length
    · obtain ⟨b, off, a, c', rfl, hbb, hc0, hc1, hle, hcm, hr⟩ := (h.below hb).get hlt
      have hd := sumO_drop os k hlt
      have h1 : os[k].ids.length ≤ l := by omega
      have HL := hide hl
      have HD := hide hd
      clear hl hd
      go_wp2_with fail
      refine (szWriteList_fit os[k].a a os[k].ids.length c' l _ h1 h2).mono ?_
      rintro e w' ⟨rfl, b1⟩
      have hb2 := hb.trans (b1.mono hb.size)
      go_wp2
      go_roundw
      case rel => exact ⟨k + 1, l - os[k].ids.length, by omega, by go_num, rfl, by omega, by have := HL.out; have := HD.out; omega, hb2⟩
      case measure => simp [intOf]; omega
    · have hd := sumO_end hlt
      go_wp2
      go_ret
      exact ⟨ret_int (by omega), hb⟩

theorem eqWriteList_same (x : Int) (ids : List Wid) (A A' : Option Addr) (c c' : Nat) (w : World) (hm : ids.length ≤ maxLen) (h : RdC w w.heap.size A (wids ids)) (h' : RdC w w.heap.size A' (wids ids)) :
    Calls Try.prog 105 #[.agg #[.int .i64 x, .slice A ids.length c], .agg #[.int .i64 x, .slice A' ids.length c']] w fun e w' => e = .returned (.bool true) ∧ Below w.heap.size w w' := by
  obtain ⟨W, hW⟩ : ∃ W, W = (w.alloc (Obj.cells #[.int .i64 x, .slice A ids.length c] 69)).alloc (Obj.cells #[.int .i64 x, .slice A' ids.length c'] 69) := ⟨_, rfl⟩
  obtain ⟨k1, k2, hz, B0⟩ := two_new _ _ _ _ _ W hW
  have HW := hide hW
  have hR := (h.below B0).lt
  have hR' := (h'.below B0).lt
  have EQ := hide (eqWriteIdS_same (wids ids) A A' c c' W (by rw [wids_length]; exact hm) hR hR')
  rw [wids_length] at EQ
  clear hW
  have a0 := (k1.cell 0).trans (rfl : _ = some (Value.int .i64 x))
  have a1 := (k1.cell 1).trans (rfl : _ = some (Value.slice A ids.length c))
  have b0 := (k2.cell 0).trans (rfl : _ = some (Value.int .i64 x))
  have b1 := (k2.cell 1).trans (rfl : _ = some (Value.slice A' ids.length c'))
  go_enter Try.func105, Try.ntmps105
  go_wp2_with fail
  rw [← HW.out]
  refine EQ.out.mono ?_
  rintro e w1 ⟨rfl, b2⟩
  go_wp2
  go_ret
  exact ⟨rfl, B0.trans (b2.mono B0.size)⟩
set_option maxHeartbeats 400000 in
theorem szWriteListS_not (os : List Wls) (A : Option Addr) (c m : Nat) (w : World) (hs : m < os.length + sumO os) (hm : m ≤ 1048576) (hl : os.length ≤ maxLen) (h : RdW w w.heap.size A os) :
    Calls Try.prog 60 #[.slice A os.length c, .int .i64 m] w fun e w' => e = .returned (.int .i64 (-1)) ∧ Below w.heap.size w w' := by
  unfold maxLen at hl
  by_cases h0 : os.length ≤ m
  · go_enter Try.func60, Try.ntmps60
    go_wp2
    go_loopw [1, 5] (fun q i wr => ∃ k l : Nat, k ≤ os.length ∧ i = .int .i64 k ∧ q = .int .i64 l ∧ l ≤ 1048576 ∧ l < sumO (os.drop k) ∧ Below w.heap.size w wr) (fun _ i _ => os.length - (intOf i).toNat)
    case atStart => exact ⟨0, m - os.length, Nat.zero_le _, rfl, by go_num, by omega, by simp; omega, Below.refl _ _⟩
    case round =>
      obtain ⟨k, l, hk, rfl, rfl, hl, hls, hb⟩ := hrel
      by_cases hlt : k < os.length
      · obtain ⟨b, off, a, c', rfl, hbb, hc0, hc1, hle, hcm, hr⟩ := (h.below hb).get hlt
        have hd := sumO_drop os k hlt
        by_cases h1 : os[k].ids.length ≤ l
        · have HD := hide hd
          clear hd
          go_wp2_with fail
          refine (szWriteList_fit os[k].a a os[k].ids.length c' l _ h1 hl).mono ?_
          rintro e w' ⟨rfl, b1⟩
          have hb2 := hb.trans (b1.mono hb.size)
          go_wp2
          go_roundw
          case rel => exact ⟨k + 1, l - os[k].ids.length, by omega, by go_num, rfl, by omega, by have := HD.out; omega, hb2⟩
          case measure => simp [intOf]; omega
        · clear hd
          go_wp2_with fail
          refine (szWriteList_not os[k].a a os[k].ids.length c' l _ (by omega) hl (by omega)).mono ?_
          rintro e w' ⟨rfl, b1⟩
          have hb2 := hb.trans (b1.mono hb.size)
          go_wp2
          go_ret
          exact ⟨rfl, hb2⟩
      · have hd := sumO_end hlt
        exact absurd hls (by omega)
  · go_enter Try.func60, Try.ntmps60
    go_wp2
    go_ret
    exact ⟨rfl, Below.refl _ _⟩

set_option maxRecDepth 100000 in
set_option maxHeartbeats 800000 in
theorem eqWriteListS_same (os : List Wls) (A A' : Option Addr) (c c' : Nat) (w : World) (hm : os.length ≤ maxLen) (h : RdW w w.heap.size A os) (h' : RdW w w.heap.size A' os) :
    Calls Try.prog 72 #[.slice A os.length c, .slice A' os.length c'] w fun e w' => e = .returned (.bool true) ∧ Below w.heap.size w w' := by
  unfold maxLen at hm
  go_enter Try.func72, Try.ntmps72
  go_wp2
  go_loopw [5] (fun i wr => ∃ k : Nat, k ≤ os.length ∧ i = .int .i64 k ∧ Below w.heap.size w wr) (fun i _ => os.length - (intOf i).toNat)
  case atStart => exact ⟨0, Nat.zero_le _, rfl, Below.refl _ _⟩
  case round =>
    obtain ⟨k, hk, rfl, hb⟩ := hrel
    by_cases hlt : k < os.length
    · obtain ⟨b, off, a, d, rfl, hbb, hc0, hc1, hle, hcm, hr⟩ := (h.below hb).get hlt
      obtain ⟨b', off', a', d', rfl, hbb', hd0, hd1, hle', hdm, hr'⟩ := (h'.below hb).get hlt
      go_wp2
      go_still_tail 8, (by kernel_rfl)
      change wpList _ _ _ _ _ wr.drew
      generalize hw2 : wr.drew = w2
      have hb2 : Below w.heap.size w w2 := by rw [← hw2]; exact hb.drew
      have hr2 : RdC w2 w.heap.size a (wids os[k].ids) := by rw [← hw2]; exact hr
      have hr2' : RdC w2 w.heap.size a' (wids os[k].ids) := by rw [← hw2]; exact hr'
      clear hw2
      go_wp2_with fail
      refine (eqWriteList_same os[k].a os[k].ids _ _ _ _ _ (by unfold maxLen at *; omega) hr2.lt hr2'.lt).mono ?_
      rintro e w3 ⟨rfl, hb3⟩
      have hb4 := hb2.trans (hb3.mono hb2.size)
      go_wp2
      go_roundw
      case rel => exact ⟨k + 1, by omega, by go_num, hb4⟩
      case measure => simp [intOf]; omega
    · go_wp2
      go_ret
      exact ⟨rfl, hb⟩
end Go.Proofs.Ytnnfkmjhaljplaa
namespace Go.Proofs.Ytnnfkmjhaljplaa
open Go.RowKit

set_option maxHeartbeats 800000 in
theorem toWriteList_any (x : Wls) (A : Option Addr) (c : Nat) (w : World) (hm : x.ids.length ≤ 1048576) (h : RdC w w.heap.size A (wids x.ids)) :
    Calls Try.prog 101 #[.agg #[.int .i64 x.a, .slice A x.ids.length c]] w fun e w' => ∃ g, e = .returned (.agg #[.int .i64 x.a, .slice (some ⟨g, 0, none⟩) x.ids.length x.ids.length]) ∧ w'.ownsRow w.heap.size 83 2 (.slice (some ⟨g, 0, none⟩) x.ids.length x.ids.length) x.ids.length (cels (wids x.ids)) ∧ Below w.heap.size w w' := by
  obtain ⟨W, hW⟩ : ∃ W, W = ((w.alloc (Obj.cells #[.int .i64 x.a, .slice A x.ids.length c] 154)).alloc (Obj.cells #[.int .i64 0, .slice none 0 0] 69)).alloc (Obj.cells #[.int .i64 0, .slice none 0 0] 69) := ⟨_, rfl⟩
  obtain ⟨k0, k1, k2, hz, B0⟩ := three_new _ _ _ _ _ _ _ W hW
  have HW := hide hW
  have TO := fun (X : World) (hX : RdC X X.heap.size A (wids x.ids)) => toWriteIdS_any (wids x.ids) A c X (by rw [wids_length]; exact hm) hX
  rw [wids_length] at TO
  have HTO := hide TO
  clear hW TO
  go_enter Try.func101, Try.ntmps101
  go_upto_region 2 with fail
  rw [← HW.out]
  have a0 := (k0.cell 0).trans (rfl : _ = some (Value.int .i64 x.a))
  have d0 := (k2.cell 0).trans (rfl : _ = some (Value.int .i64 0))
  have f0 := k2.frozen 0
  go_upto_region 3 with fail
  have j0 := k0.far (p := ⟨w.heap.size + 1 + 1, 0, none⟩) (by simp only; omega) (.int .i64 x.a)
  have j1 := k1.far (p := ⟨w.heap.size + 1 + 1, 0, none⟩) (by simp only; omega) (.int .i64 x.a)
  have j2 := k2.set_ 0 (.int .i64 x.a)
  have BX := B0.setCell (p := ⟨w.heap.size + 1 + 1, 0, none⟩) (by simp only; omega) (.int .i64 x.a)
  simp only [List.setIfInBounds_toArray, List.set_cons_zero] at j2
  clear a0 d0 f0 k0 k1 k2 B0
  generalize W.setCell ⟨w.heap.size + 1 + 1, 0, none⟩ (.int .i64 x.a) = X at *
  have a1 := (j0.cell 1).trans (rfl : _ = some (Value.slice A x.ids.length c))
  go_wp2_with fail
  refine (HTO.out X (h.below BX).lt).mono ?_
  rintro e w2 ⟨g, rfl, o2, b2⟩
  have i1 := j1.kept b2
  have i2 := j2.kept b2
  have hzX := BX.size
  have B2 := BX.trans (b2.mono hzX)
  have e1 := (i2.cell 1).trans (rfl : _ = some (Value.slice none 0 0))
  have e2 := i2.frozen 1
  have hzj := j2.lt
  clear a1 j0 j1 j2 b2
  go_upto_region 4 with fail
  have m1 := i1.far (p := ⟨w.heap.size + 1 + 1, 1, none⟩) (by simp only; omega) (.slice (some ⟨g, 0, none⟩) x.ids.length x.ids.length)
  have m2 := i2.set_ 1 (.slice (some ⟨g, 0, none⟩) x.ids.length x.ids.length)
  have o3 := ownsRow_setCell_below o2 (a := ⟨w.heap.size + 1 + 1, 1, none⟩) hzj (.slice (some ⟨g, 0, none⟩) x.ids.length x.ids.length)
  have B3 := B2.setCell (p := ⟨w.heap.size + 1 + 1, 1, none⟩) (by simp only; omega) (.slice (some ⟨g, 0, none⟩) x.ids.length x.ids.length)
  simp only [List.setIfInBounds_toArray, List.set_cons_zero, List.set_cons_succ] at m2
  clear e1 e2 i1 i2 o2 B2
  generalize w2.setCell ⟨w.heap.size + 1 + 1, 1, none⟩ (.slice (some ⟨g, 0, none⟩) x.ids.length x.ids.length) = Y at *
  have y0 := (m2.cell 0).trans (rfl : _ = some (Value.int .i64 x.a))
  have y1 := (m2.cell 1).trans (rfl : _ = some (Value.slice (some ⟨g, 0, none⟩) x.ids.length x.ids.length))
  have z0 := (m1.cell 0).trans (rfl : _ = some (Value.int .i64 0))
  have z1 := (m1.cell 1).trans (rfl : _ = some (Value.slice none 0 0))
  have f0 := m1.frozen 0
  have f1 := m1.frozen 1
  have HO := hide o3
  have HB := hide B3
  clear m1 m2 o3 B3
  go_wp2
  refine bodyPost_ret (v := .agg #[.int .i64 x.a, .slice (some ⟨g, 0, none⟩) x.ids.length x.ids.length]) (by simp [results, Try.results101, go_sem, z0, z1]) rfl ?_
  exact ⟨g, rfl, own_mono (ownsRow_setCell_below (ownsRow_setCell_below HO.out (a := ⟨w.heap.size + 1, 0, none⟩) (by simp only; omega) _) (a := ⟨w.heap.size + 1, 1, none⟩) (by simp only; omega) _) hzX, (HB.out.setCell (by simp only; omega) _).setCell (by simp only; omega) _⟩
end Go.Proofs.Ytnnfkmjhaljplaa
namespace Go.Proofs.Ytnnfkmjhaljplaa
open Go.RowKit

open Classical in
noncomputable def relB (f : Wls → Wls → Bool) (os O : List Wls) : Bool := if os.length = O.length ∧ ∀ i (h : i < os.length) (h' : i < O.length), f os[i] O[i] = true then true else false
theorem relB_len {f : Wls → Wls → Bool} {os O : List Wls} (h : ¬ os.length = O.length) : relB f os O = false := if_neg fun e => h e.1
theorem relB_not {f : Wls → Wls → Bool} {os O : List Wls} {k : Nat} (hk : k < os.length) (hk' : k < O.length) (h : f os[k] O[k] = false) : relB f os O = false := if_neg fun e => by have := e.2 k hk hk'; rw [h] at this; cases this
def UpF (f : Wls → Wls → Bool) (os O : List Wls) (k : Nat) : Prop := ∀ i (h : i < os.length) (h' : i < O.length), i < k → f os[i] O[i] = true
theorem UpF.step {f : Wls → Wls → Bool} {os O : List Wls} {k : Nat} (h : UpF f os O k) (he : ∀ (h : k < os.length) (h' : k < O.length), f os[k] O[k] = true) : UpF f os O (k + 1) := fun i h1 h2 hi => by
  by_cases e : i = k
  · subst e; exact he h1 h2
  · exact h i h1 h2 (by omega)
theorem relB_all {f : Wls → Wls → Bool} {os O : List Wls} (hl : os.length = O.length) (h : UpF f os O os.length) : relB f os O = true := if_pos ⟨hl, fun i h1 h2 => h i h1 h2 h1⟩
open Classical in
noncomputable def sameI (l m : List Wid) : Bool := if l = m then true else false
open Classical in
noncomputable def sameO (l m : List Wls) : Bool := if l = m then true else false
def Upt {α : Type} (l m : List α) (k : Nat) : Prop := ∀ i, i < k → l[i]? = m[i]?
theorem Upt.zero {α : Type} (l m : List α) : Upt l m 0 := fun i h => by omega
theorem Upt.step {α : Type} {l m : List α} {k : Nat} (h : Upt l m k) (hk : k < l.length) {hk' : k < m.length} (he : l[k] = m[k]) : Upt l m (k + 1) := fun i hi => by
  by_cases e : i = k
  · subst e
    rw [List.getElem?_eq_getElem hk, List.getElem?_eq_getElem hk', he]
  · exact h i (by omega)
theorem Upt.all {α : Type} {l m : List α} (hl : l.length = m.length) (h : Upt l m l.length) : l = m := List.ext_getElem? fun i => by
  by_cases hi : i < l.length
  · exact h i hi
  · rw [List.getElem?_eq_none (by omega), List.getElem?_eq_none (by omega)]
theorem wid_ne {e f : Wid} (h : ¬ e = f) : ¬ e.c = f.c ∨ (e.c = f.c ∧ ¬ e.i = f.i) := by
  obtain ⟨a, v⟩ := e
  obtain ⟨a', v'⟩ := f
  by_cases h1 : a = a'
  · by_cases h2 : v = v'
    · exact absurd (by rw [h1, h2]) h
    · exact .inr ⟨h1, h2⟩
  · exact .inl h1
theorem ids_get {w : World} {B : Nat} {A : Option Addr} {l : List Wid} (h : RdC w B A (wids l)) {i : Nat} (hi : i < l.length) : ∃ b off, A = some ⟨b, off, none⟩ ∧ b < B ∧ w.cell? ⟨b, off + i * 2, none⟩ = some (.int .i64 l[i].c) ∧ w.cell? ⟨b, off + i * 2 + 1, none⟩ = some (.int .i64 l[i].i) := by
  obtain ⟨b, off, e, hb, h0, h1⟩ := h.get (i := i) (by rw [wids_length]; exact hi)
  exact ⟨b, off, e, hb, by rw [h0]; simp [wids, wid], by rw [h1]; simp [wids, wid]⟩
/-- As the program compares two lists. -/
noncomputable def sameV (x y : Wls) : Bool := (x.a == y.a) && sameI x.ids y.ids
theorem sameV_true {x y : Wls} : sameV x y = true ↔ x = y := by
  unfold sameV sameI
  rw [Bool.and_eq_true, beq_iff_eq]
  obtain ⟨a, l⟩ := x
  obtain ⟨b, m⟩ := y
  simp only [Wls.mk.injEq]
  constructor
  · rintro ⟨h1, h2⟩
    refine ⟨h1, ?_⟩
    by_cases h : l = m
    · exact h
    · rw [if_neg h] at h2; cases h2
  · rintro ⟨h1, h2⟩
    exact ⟨h1, if_pos h2⟩
theorem relB_same (os O : List Wls) : relB sameV os O = sameO os O := by
  unfold relB sameO
  by_cases h : os = O
  · subst h
    rw [if_pos rfl, if_pos ⟨rfl, fun i h _ => sameV_true.2 rfl⟩]
  · rw [if_neg h, if_neg]
    rintro ⟨h1, h2⟩
    exact h (List.ext_getElem h1 fun i a b => sameV_true.1 (h2 i a b))

set_option maxRecDepth 100000 in
set_option maxHeartbeats 400000 in
theorem idsEq_any (es fs : List Wid) (A A' : Option Addr) (c c' : Nat) (w : World) (hm : es.length ≤ maxLen) (h : RdC w w.heap.size A (wids es)) (h' : RdC w w.heap.size A' (wids fs)) :
    Calls Try.prog 85 #[.slice A es.length c, .slice A' fs.length c'] w fun e w' => e = .returned (.bool (sameI es fs)) ∧ Below w.heap.size w w' := by
  unfold maxLen at hm
  by_cases hlen : fs.length = es.length
  · have HS := hide (fun (h : Upt es fs es.length) => (if_pos (h.all hlen.symm) : sameI es fs = true))
    rw [hlen]
    have hfl : ∀ k : Nat, k < es.length → k < fs.length := fun k h => by omega
    have HF := hide hfl
    clear hfl hlen
    go_enter Try.func85, Try.ntmps85
    go_wp2
    go_loopw [13] (fun i wr => ∃ k : Nat, k ≤ es.length ∧ i = .int .i64 k ∧ Below w.heap.size w wr ∧ Hid (Upt es fs k)) (fun i _ => es.length - (intOf i).toNat)
    case atStart => exact ⟨0, Nat.zero_le _, rfl, Below.refl _ _, hide (Upt.zero es fs)⟩
    case round =>
      obtain ⟨k, hk, rfl, hb, HR⟩ := hrel
      by_cases hlt : k < es.length
      · obtain ⟨b, off, rfl, hbb, hc0, hc1⟩ := ids_get (h.below hb) hlt
        obtain ⟨b', off', rfl, hbb', hd0, hd1⟩ := ids_get (h'.below hb) (HF.out _ hlt)
        by_cases he : es[k] = fs[k]'(HF.out _ hlt)
        · have HE := hide (HR.out.step hlt he)
          rw [← he] at hd0 hd1
          clear he
          go_wp2
          go_quiet (fail)
          go_wp2
          go_roundw
          case rel => exact ⟨k + 1, by omega, by go_num, below_drewN hb _, HE⟩
          case measure => simp [intOf]; omega
        · have HE := hide (show sameI es fs = false from if_neg fun e => he (by subst e; rfl))
          rcases wid_ne he with hx | ⟨hx0, hx⟩
          · have f0 := beq_eq_false_iff_ne.2 hx
            clear he hx
            go_wp2
            go_quiet (fail)
            go_wp2
            go_ret
            exact ⟨ret_bool HE.out.symm, below_drewN hb _⟩
          · rw [← hx0] at hd0
            have f0 := beq_eq_false_iff_ne.2 hx
            clear he hx hx0
            go_wp2
            go_quiet (fail)
            go_wp2
            go_ret
            exact ⟨ret_bool HE.out.symm, below_drewN hb _⟩
      · obtain rfl : k = es.length := by omega
        go_wp2
        go_ret
        exact ⟨ret_bool (HS.out HR.out).symm, hb⟩
  · rw [show sameI es fs = false from if_neg fun e => hlen (by rw [e])]
    have f0 : ((es.length : Int) == (fs.length : Int)) = false := beq_eq_false_iff_ne.2 (by omega)
    have f1 : ((es.length : Int) != (fs.length : Int)) = true := bne_iff_ne.2 (by omega)
    clear hlen
    go_enter Try.func85, Try.ntmps85
    go_wp2
    go_ret
    exact ⟨rfl, Below.refl _ _⟩

/-- A function of two write lists that tells f of them. -/
def TellsW (F : Nat) (f : Wls → Wls → Bool) : Prop := ∀ (x y : Wls) (a a' : Option Addr) (d d' : Nat) (V : World), x.ids.length ≤ maxLen → y.ids.length ≤ maxLen → RdC V V.heap.size a (wids x.ids) → RdC V V.heap.size a' (wids y.ids) →
  Calls Try.prog F #[.agg #[.int .i64 x.a, .slice a x.ids.length d], .agg #[.int .i64 y.a, .slice a' y.ids.length d']] V fun e w' => e = .returned (.bool (f x y)) ∧ Below V.heap.size V w'

theorem sameList_any : TellsW 40 sameV := by
  intro x y a a' d d' w hx hy hr hr'
  obtain ⟨W, hW⟩ : ∃ W, W = (w.alloc (Obj.cells #[.int .i64 x.a, .slice a x.ids.length d] 69)).alloc (Obj.cells #[.int .i64 y.a, .slice a' y.ids.length d'] 69) := ⟨_, rfl⟩
  obtain ⟨k1, k2, hz, B0⟩ := two_new _ _ _ _ _ W hW
  have HW := hide hW
  have SV := hide (show sameV x y = ((x.a == y.a) && sameI x.ids y.ids) from rfl)
  obtain ⟨z, hzz⟩ : ∃ z, z = sameI x.ids y.ids := ⟨_, rfl⟩
  have SP := hide (fun W => idsEq_any x.ids y.ids a a' d d' W hx)
  rw [← hzz] at SV SP
  have hR := (hr.below B0).lt
  have hR' := (hr'.below B0).lt
  clear hW hzz
  go_enter Try.func40, Try.ntmps40
  by_cases he : x.a = y.a
  · have f0 : (x.a == y.a) = true := beq_iff_eq.2 he
    clear he
    go_wp2_with fail
    rw [← HW.out]
    refine (SP.out _ hR hR').mono ?_
    rintro e w1 ⟨rfl, hb⟩
    go_wp2
    go_ret
    exact ⟨ret_bool (by rw [SV.out, f0]; rfl), B0.trans (hb.mono B0.size)⟩
  · have f0 : (x.a == y.a) = false := beq_eq_false_iff_ne.2 he
    clear he
    go_wp2
    go_ret
    exact ⟨ret_bool (by rw [SV.out, f0]; rfl), by go_grown⟩

set_option maxRecDepth 100000 in
set_option maxHeartbeats 800000 in
theorem eqFuncV_any (os O : List Wls) (A A' : Option Addr) (c c' : Nat) (w : World) (hm : os.length ≤ maxLen) (h : RdW w w.heap.size A os) (h' : RdW w w.heap.size A' O) :
    Calls Try.prog 39 #[.slice A os.length c, .slice A' O.length c', .func (.func 40) #[] #[]] w fun e w' => e = .returned (.bool (relB sameV os O)) ∧ Below w.heap.size w w' := by
  unfold maxLen at hm
  by_cases hlen : O.length = os.length
  · have HS := hide (fun (h : UpF sameV os O os.length) => relB_all hlen.symm h)
    rw [hlen]
    have hfl : ∀ k : Nat, k < os.length → k < O.length := fun k h => by omega
    have HL := hide hfl
    clear hfl hlen
    go_enter Try.func39, Try.ntmps39
    go_wp2
    go_loopw [17] (fun i wr => ∃ k : Nat, k ≤ os.length ∧ i = .int .i64 k ∧ Below w.heap.size w wr ∧ Hid (UpF sameV os O k)) (fun i _ => os.length - (intOf i).toNat)
    case atStart => exact ⟨0, Nat.zero_le _, rfl, Below.refl _ _, hide fun i _ _ h => by omega⟩
    case round =>
      obtain ⟨k, hk, rfl, hb, HR⟩ := hrel
      by_cases hlt : k < os.length
      · obtain ⟨b, off, a, d, rfl, hbb, hc0, hc1, hle, hcm, hr⟩ := (h.below hb).get hlt
        obtain ⟨b', off', a', d', rfl, hbb', hd0, hd1, hle', hdm, hr'⟩ := (h'.below hb).get (HL.out _ hlt)
        obtain ⟨x, hx⟩ : ∃ x, x = os[k] := ⟨_, rfl⟩
        obtain ⟨y, hy⟩ : ∃ y, y = O[k]'(HL.out _ hlt) := ⟨_, rfl⟩
        rw [← hx] at hc0 hc1 hle hr
        rw [← hy] at hd0 hd1 hle' hr'
        obtain ⟨W, hW⟩ : ∃ W, W = (wr.alloc (Obj.cells #[.int .i64 x.a, .slice a x.ids.length d] 69)).alloc (Obj.cells #[.int .i64 y.a, .slice a' y.ids.length d'] 69) := ⟨_, rfl⟩
        obtain ⟨k1, k2, hz, B0⟩ := two_new _ _ _ _ _ W hW
        have HW := hide hW
        have e0 := (World.cell?_alloc_lt wr (Obj.cells #[.int .i64 x.a, .slice a x.ids.length d] 69) ⟨b', off' + k * 2, none⟩ (block_lt_of_cell hd0)).trans hd0
        have e1 := (World.cell?_alloc_lt wr (Obj.cells #[.int .i64 x.a, .slice a x.ids.length d] 69) ⟨b', off' + k * 2 + 1, none⟩ (block_lt_of_cell hd1)).trans hd1
        have q0 := (k1.cell 0).trans (rfl : _ = some (Value.int .i64 x.a))
        have q1 := (k1.cell 1).trans (rfl : _ = some (Value.slice a x.ids.length d))
        have p0 := (k2.cell 0).trans (rfl : _ = some (Value.int .i64 y.a))
        have p1 := (k2.cell 1).trans (rfl : _ = some (Value.slice a' y.ids.length d'))
        have B1 := hb.trans (B0.mono hb.size)
        have SP := hide (sameList_any x y a a' d d' W (by omega) (by omega) ((hr.lt.below B0).lt) ((hr'.lt.below B0).lt))
        have HX := hide hx
        have HY := hide hy
        clear hW hx hy hr hr' k1 k2 hz B0
        cases hf : sameV x y
        · have HE := hide (show relB sameV os O = false from relB_not hlt (HL.out _ hlt) (by rw [← HX.out, ← HY.out]; exact hf))
          rw [hf] at SP
          clear hf
          go_upto_region 7 with fail
          rw [← HW.out]
          go_wp2_with fail
          refine SP.out.mono ?_
          rintro e w3 ⟨rfl, hb3⟩
          have hb4 := B1.trans (hb3.mono B1.size)
          go_wp2
          go_ret
          exact ⟨ret_bool HE.out.symm, hb4⟩
        · have HE := hide (HR.out.step (k := k) fun h1 h2 => by rw [← HX.out, ← HY.out]; exact hf)
          rw [hf] at SP
          clear hf
          go_upto_region 7 with fail
          rw [← HW.out]
          go_wp2_with fail
          refine SP.out.mono ?_
          rintro e w3 ⟨rfl, hb3⟩
          have hb4 := B1.trans (hb3.mono B1.size)
          go_wp2
          go_roundw
          case rel => exact ⟨k + 1, by omega, by go_num, hb4, HE⟩
          case measure => simp [intOf]; omega
      · obtain rfl : k = os.length := by omega
        go_wp2
        go_ret
        exact ⟨ret_bool (HS.out HR.out).symm, hb⟩
  · rw [relB_len (fun e => hlen e.symm)]
    have f0 : ((os.length : Int) == (O.length : Int)) = false := beq_eq_false_iff_ne.2 (by omega)
    have f1 : ((os.length : Int) != (O.length : Int)) = true := bne_iff_ne.2 (by omega)
    clear hlen
    go_enter Try.func39, Try.ntmps39
    go_wp2
    go_ret
    exact ⟨rfl, Below.refl _ _⟩
theorem implSO_any (os O : List Wls) (A A' : Option Addr) (c c' : Nat) (w : World) (hm : os.length ≤ maxLen) (h : RdW w w.heap.size A os) (h' : RdW w w.heap.size A' O) :
    Calls Try.prog 12 #[.slice A os.length c, .slice A' O.length c'] w fun e w' => e = .returned (.bool (sameO os O)) ∧ Below w.heap.size w w' := by
  have EF := hide (eqFuncV_any os O A A' c c' w hm h h')
  rw [relB_same] at EF
  go_enter Try.func12, Try.ntmps12
  go_wp2_with fail
  refine EF.out.mono ?_
  rintro e w1 ⟨rfl, hb⟩
  go_wp2
  go_ret
  exact ⟨rfl, hb⟩

set_option maxRecDepth 100000 in
set_option maxHeartbeats 1000000 in
theorem specSO_any (os O : List Wls) (A A' : Option Addr) (c c' : Nat) (w : World) (hm : os.length ≤ maxLen) (h : RdW w w.heap.size A os) (h' : RdW w w.heap.size A' O) :
    Calls Try.prog 15 #[.slice A os.length c, .slice A' O.length c'] w fun e w' => e = .returned (.bool (sameO os O)) ∧ Below w.heap.size w w' := by
  unfold maxLen at hm
  by_cases hlen : O.length = os.length
  · have HS := hide (fun (h : Upt os O os.length) => (if_pos (h.all hlen.symm) : sameO os O = true))
    have HN := hide (show ∀ (i : Nat) (h1 : i < os.length) (h2 : i < O.length), ¬ os[i] = O[i] → sameO os O = false from fun i h1 h2 e => if_neg fun e2 => e (by subst e2; rfl))
    rw [hlen]
    have hfl : ∀ k : Nat, k < os.length → k < O.length := fun k h => by omega
    have HL := hide hfl
    clear hfl hlen
    go_enter Try.func15, Try.ntmps15
    go_wp2
    go_loopw [14] (fun i wr => ∃ k : Nat, k ≤ os.length ∧ i = .int .i64 k ∧ Below w.heap.size w wr ∧ Hid (Upt os O k)) (fun i _ => os.length - (intOf i).toNat)
    case atStart => exact ⟨0, Nat.zero_le _, rfl, Below.refl _ _, hide (Upt.zero os O)⟩
    case round =>
      obtain ⟨k, hk, rfl, hb, HR⟩ := hrel
      by_cases hlt : k < os.length
      · obtain ⟨b, off, a, d, rfl, hbb, hc0, hc1, hle, hcm, hr⟩ := (h.below hb).get hlt
        obtain ⟨b', off', a', d', rfl, hbb', hd0, hd1, hle', hdm, hr'⟩ := (h'.below hb).get (HL.out _ hlt)
        unfold maxLen at hcm hdm
        by_cases ha : os[k].a = (O[k]'(HL.out _ hlt)).a
        · rw [← ha] at hd0
          by_cases hrow : (O[k]'(HL.out _ hlt)).ids.length = os[k].ids.length
          · rw [hrow] at hd1 hle'
            have HRow := hide hrow
            have HA := hide ha
            clear hrow ha
            go_wp2
            go_quiet (fail)
            go_wp2
            clear hc0 hc1 hd0 hd1 hr hr'
            go_loopw [49] (fun q w2 => ∃ j : Nat, j ≤ os[k].ids.length ∧ q = .int .i64 j ∧ Below w.heap.size w w2 ∧ Hid (Upt os[k].ids (O[k]'(HL.out _ hlt)).ids j)) (fun q _ => os[k].ids.length - (intOf q).toNat)
            case atStart => exact ⟨0, Nat.zero_le _, rfl, below_drewN hb _, hide (Upt.zero _ _)⟩
            case round =>
              clear hb
              obtain ⟨j, hjk, rfl, hb2, HJ⟩ := hrel
              by_cases hj : j < os[k].ids.length
              · obtain ⟨b3, off3, a3, e3, hA, _, hc0, hc1, hle3, _, hr⟩ := (h.below hb2).get hlt
                cases hA
                obtain ⟨b4, off4, a4, e4, hA, _, hd0, hd1, hle4, _, hr'⟩ := (h'.below hb2).get (HL.out _ hlt)
                cases hA
                rw [HRow.out] at hd1 hle4
                obtain ⟨b5, off5, rfl, _, c0, c1⟩ := ids_get hr hj
                obtain ⟨b6, off6, rfl, _, d0, d1⟩ := ids_get hr' (i := j) (by rw [HRow.out]; exact hj)
                by_cases he : os[k].ids[j] = (O[k]'(HL.out _ hlt)).ids[j]'(by rw [HRow.out]; exact hj)
                · have HE := hide (HJ.out.step hj he)
                  rw [← he] at d0 d1
                  clear he
                  go_wp2
                  go_quiet (fail)
                  go_wp2
                  go_roundw
                  case rel => exact ⟨j + 1, by omega, by go_num, below_drewN hb2 _, HE⟩
                  case measure => simp [intOf]; omega
                · have HE := hide (HN.out k hlt (HL.out _ hlt) fun e => he (by simp [e]))
                  rcases wid_ne he with hx | ⟨hx0, hx⟩
                  · have f0 := beq_eq_false_iff_ne.2 hx
                    clear he hx
                    go_wp2
                    go_quiet (fail)
                    go_wp2
                    go_ret
                    exact ⟨ret_bool (by rw [HE.out]), below_drewN hb2 _⟩
                  · have f0 := beq_eq_false_iff_ne.2 hx
                    rw [← hx0] at d0
                    clear he hx hx0
                    go_wp2
                    go_quiet (fail)
                    go_wp2
                    go_ret
                    exact ⟨ret_bool (by rw [HE.out]), below_drewN hb2 _⟩
              · have hjl : j = os[k].ids.length := by omega
                have hrw : os[k].ids = (O[k]'(HL.out _ hlt)).ids := Upt.all HRow.out.symm (by rw [← hjl]; exact HJ.out)
                have hrx : os[k] = O[k]'(HL.out _ hlt) := by
                  have h1 := HA.out
                  revert hrw h1
                  generalize os[k] = x
                  generalize O[k]'(HL.out _ hlt) = y
                  intro hrw h1
                  obtain ⟨_, _⟩ := x
                  obtain ⟨_, _⟩ := y
                  simp only at hrw h1
                  rw [hrw, h1]
                have HE := hide (HR.out.step hlt hrx)
                clear hrw hjl hrx
                go_wp2
                go_roundw
                case rel => exact ⟨k + 1, by omega, by go_num, hb2, HE⟩
                case measure => simp [intOf]; omega
          · have HE := hide (HN.out k hlt (HL.out _ hlt) fun e => hrow (by rw [e]))
            obtain ⟨R, hR⟩ : ∃ R, R = (O[k]'(HL.out _ hlt)).ids.length := ⟨_, rfl⟩
            rw [← hR] at hd1 hrow hle'
            have f0 : ((os[k].ids.length : Int) == (R : Int)) = false := beq_eq_false_iff_ne.2 (by omega)
            have f1 : ((os[k].ids.length : Int) != (R : Int)) = true := bne_iff_ne.2 (by omega)
            clear hR hrow ha
            go_wp2
            go_quiet (fail)
            go_wp2
            go_ret
            exact ⟨ret_bool (by rw [HE.out]), below_drewN hb _⟩
        · have HE := hide (HN.out k hlt (HL.out _ hlt) fun e => ha (by rw [e]))
          have f0 := beq_eq_false_iff_ne.2 ha
          have f1 := bne_iff_ne.2 ha
          clear ha
          go_wp2
          go_quiet (fail)
          go_wp2
          go_ret
          exact ⟨ret_bool (by rw [HE.out]), below_drewN hb _⟩
      · obtain rfl : k = os.length := by omega
        go_wp2
        go_ret
        exact ⟨ret_bool (HS.out HR.out).symm, hb⟩
  · rw [show sameO os O = false from if_neg fun e => hlen (by rw [e])]
    have f0 : ((os.length : Int) == (O.length : Int)) = false := beq_eq_false_iff_ne.2 (by omega)
    have f1 : ((os.length : Int) != (O.length : Int)) = true := bne_iff_ne.2 (by omega)
    clear hlen
    go_enter Try.func15, Try.ntmps15
    go_wp2
    go_ret
    exact ⟨rfl, Below.refl _ _⟩
end Go.Proofs.Ytnnfkmjhaljplaa
