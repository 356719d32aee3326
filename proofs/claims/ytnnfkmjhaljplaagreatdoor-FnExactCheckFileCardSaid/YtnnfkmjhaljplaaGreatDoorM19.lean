/- What the laws' walks rest upon, part 19. -/
import Derived.Test.YtnnfkmjhaljplaaGreatDoorM17
import Derived.StillTailTactics
import Derived.Lib.Hide
import Derived.Test.YtnnfkmjhaljplaaGreatDoorM18
import Derived.Test.YtnnfkmjhaljplaaGreatDoorM01
import Derived.Test.YtnnfkmjhaljplaaGreatDoorM06
import Derived.Test.YtnnfkmjhaljplaaGreatDoorM03
import Derived.Deep.DeepCutAuto
import Derived.BigQuiet
namespace Go.Proofs.YtnnfkmjhaljplaaGreatDoor
open Go.RowKit
theorem toWriteId_any (a v : Int) (w : World) :
    Calls Tryz.prog 224 #[celV a v] w fun e w' => e = .returned (celV a v) ∧ Below w.heap.size w w' := by
  go_enter Tryz.func224, Tryz.ntmps224
  go_wp2
  refine bodyPost_ret (v := celV a v) (by simp [results, Tryz.results224, go_sem]) rfl ?_
  exact ⟨rfl, by go_grown⟩
theorem eqWriteId_same (a v : Int) (w : World) :
    Calls Tryz.prog 225 #[celV a v, celV a v] w fun e w' => e = .returned (.bool true) ∧ Below w.heap.size w w' := by
  go_enter Tryz.func225, Tryz.ntmps225
  go_wp2
  go_ret
  exact ⟨rfl, by go_grown⟩
theorem info_wid : (Tryz.prog.info? 191).map (fun i => (i.zero, i.size, i.bytes)) = some (some (.agg #[.int .i64 0, .int .i64 0]), 2, 16) := by kernel_rfl
theorem szWriteIdS_fit (A : Option Addr) (n c m : Nat) (w : World) (hm : n ≤ m) (h : m ≤ 1048576) :
    Calls Tryz.prog 175 #[.slice A n c, .int .i64 m] w fun e w' => e = .returned (.int .i64 ((m - n : Nat) : Int)) ∧ w = w' := by
  go_enter Tryz.func175, Tryz.ntmps175
  go_wp2
  go_ret
  exact ⟨ret_int (by omega), rfl⟩
theorem szWriteIdS_not (A : Option Addr) (n c m : Nat) (w : World) (hm : m < n) (h : m ≤ 1048576) (hn : n ≤ maxLen) :
    Calls Tryz.prog 175 #[.slice A n c, .int .i64 m] w fun e w' => e = .returned (.int .i64 (-1)) ∧ w = w' := by
  unfold maxLen at hn
  go_enter Tryz.func175, Tryz.ntmps175
  go_wp2
  go_ret
  exact ⟨rfl, rfl⟩
set_option maxRecDepth 100000 in
set_option maxHeartbeats 400000 in
theorem eqWriteIdS_same (es : List Cel) (A A' : Option Addr) (c c' : Nat) (w : World) (hm : es.length ≤ maxLen) (h : RdC w w.heap.size A es) (h' : RdC w w.heap.size A' es) :
    Calls Tryz.prog 177 #[.slice A es.length c, .slice A' es.length c'] w fun e w' => e = .returned (.bool true) ∧ Below w.heap.size w w' := by
  unfold maxLen at hm
  go_enter Tryz.func177, Tryz.ntmps177
  go_wp2
  go_loopw [5] (fun i wr => ∃ k : Nat, k ≤ es.length ∧ i = .int .i64 k ∧ Below w.heap.size w wr) (fun i _ => es.length - (intOf i).toNat)
  case atStart => exact ⟨0, Nat.zero_le _, rfl, Below.refl _ _⟩
  case round =>
    obtain ⟨k, hk, rfl, hb⟩ := hrel
    by_cases hlt : k < es.length
    · obtain ⟨b, off, rfl, hbb, hc0, hc1⟩ := (h.below hb).get hlt
      obtain ⟨b', off', rfl, hbb', hd0, hd1⟩ := (h'.below hb).get hlt
      go_wp2
      go_still_tail 8, (by kernel_rfl)
      change wpList _ _ _ _ _ wr.drew
      generalize hw2 : wr.drew = w2
      have hb2 : Below w.heap.size w w2 := by rw [← hw2]; exact hb.drew
      clear hw2
      go_wp2_with fail
      refine (eqWriteId_same _ _ _).mono ?_
      rintro e w3 ⟨rfl, hb3⟩
      have hb4 := hb2.trans (hb3.mono hb2.size)
      go_wp2
      go_roundw
      case rel => exact ⟨k + 1, by omega, by go_num, hb4⟩
      case measure => simp [intOf]; omega
    · go_wp2
      go_ret
      exact ⟨rfl, hb⟩
set_option maxRecDepth 100000 in
set_option maxHeartbeats 400000 in
theorem toWriteIdS_any (es : List Cel) (A : Option Addr) (c : Nat) (w : World) (hm : es.length ≤ 1048576) (h : RdC w w.heap.size A es) :
    Calls Tryz.prog 176 #[.slice A es.length c] w fun e w' => ∃ g, e = .returned (.slice (some ⟨g, 0, none⟩) es.length es.length) ∧ w'.ownsRow w.heap.size 191 2 (.slice (some ⟨g, 0, none⟩) es.length es.length) es.length (cels es) ∧ Below w.heap.size w w' := by
  obtain ⟨i0, hi, hz0, hz1, hz2⟩ := info_parts info_wid
  go_enter Tryz.func176, Tryz.ntmps176
  go_wp2_with (at_make; refine wpList_make_full _ rfl _ _ 157 rfl w.heap.size 191 i0 (.agg #[.int .i64 0, .int .i64 0]) 2 Tryz.underlying157 hi hz0 hz1 .i64 .i64 _ _ es.length rfl rfl rfl rfl (by rw [hz2]; omega) (by unfold maxLen; omega) (Nat.le_refl _) ?_; intro w1 hown hg)
  rw [made_cell, ← halfC_zero] at hown
  have hb1 : Below w.heap.size w w1 := (Below.refl _ _).grown hg (Nat.le_refl _) (by simp)
  clear hg
  go_loopw [4] (fun i wr => ∃ k : Nat, k ≤ es.length ∧ i = .int .i64 k ∧ wr.ownsRow w.heap.size 191 2 (.slice (some ⟨w.heap.size, 0, none⟩) es.length es.length) es.length (halfC es k) ∧ Below w.heap.size w wr) (fun i _ => es.length - (intOf i).toNat)
  case atStart => exact ⟨0, Nat.zero_le _, rfl, hown, hb1⟩
  case round =>
    obtain ⟨k, hk, rfl, ho, hb⟩ := hrel
    by_cases hlt : k < es.length
    · obtain ⟨b, off, rfl, hbb, hc0, hc1⟩ := (h.below hb).get hlt
      go_wp2_with fail
      refine (toWriteId_any _ _ _).mono ?_
      rintro e w2 ⟨rfl, hb2⟩
      have hb3 := hb.trans (hb2.mono hb.size)
      have ho2 := own_below ho hb2 (Nat.le_refl _)
      have hlen := halfC_length es k hk
      have hf0 := ho2.frozenAt (k * 2)
      have hf1 := ho2.frozenAt (k * 2 + 1)
      obtain ⟨v0, hx0⟩ : ∃ v, w2.cell? ⟨w.heap.size, k * 2, none⟩ = some v := by
        rw [ho2.cellAt (k * 2) (by omega)]
        exact ⟨_, List.getElem?_eq_getElem (by omega)⟩
      obtain ⟨v1, hx1⟩ : ∃ v, w2.cell? ⟨w.heap.size, k * 2 + 1, none⟩ = some v := by
        rw [ho2.cellAt (k * 2 + 1) (by omega)]
        exact ⟨_, List.getElem?_eq_getElem (by omega)⟩
      have HS := hide (((ho2.stored (k * 2) (.int .i64 es[k].a)).1.stored (k * 2 + 1) (.int .i64 es[k].v)).1)
      clear ho2 ho hlen
      go_wp2
      go_roundw
      case rel =>
        refine ⟨k + 1, by omega, by go_num, ?_, (hb3.setCell (Nat.le_refl _) _).setCell (Nat.le_refl _) _⟩
        rw [← halfC_set es k hlt]
        exact HS.out
      case measure => simp [intOf]; omega
    · go_wp2
      go_ret
      obtain rfl : k = es.length := by omega
      rw [halfC_all] at ho
      exact ⟨_, rfl, ho, hb⟩
set_option maxRecDepth 100000 in
set_option maxHeartbeats 800000 in
theorem markWriteIdS_any (base : Nat) (A : Option Addr) (n c k : Nat) (xs : List Value) (w : World) (hk : k + n * 2 ≤ 1073741824) (h : w.ownsRow base 191 2 (.slice A n c) n xs) :
    Calls Tryz.prog 115 #[.slice A n c, .int .i64 k] w fun e w' => e = .returned (.int .i64 ((k + n * 2 : Nat) : Int)) ∧ w'.ownsRow base 191 2 (.slice A n c) n (cels (mkC k n)) ∧ w.grownBy w' (Value.slice A n c).ownBlock := by
  have hl : xs.length = n * 2 := h.1
  go_enter Tryz.func115, Tryz.ntmps115
  go_wp2
  go_loopw [1, 5] (fun q i wr => ∃ j : Nat, j ≤ n ∧ i = .int .i64 j ∧ q = .int .i64 ((k + j * 2 : Nat) : Int) ∧ wr.ownsRow base 191 2 (.slice A n c) n (markedC xs k j) ∧ w.grownBy wr (Value.slice A n c).ownBlock) (fun _ i _ => n - (intOf i).toNat)
  case atStart => exact ⟨0, Nat.zero_le _, rfl, rfl, by rw [markedC_zero]; exact h, ⟨rfl, rfl, rfl, Nat.le_refl _, fun _ _ _ => rfl⟩⟩
  case round =>
    obtain ⟨j, hj, rfl, rfl, ho, hg⟩ := hrel
    by_cases hlt : j < n
    · obtain ⟨g, rfl⟩ : ∃ g, A = some ⟨g, 0, none⟩ := by
        rcases ho.2 with ⟨h', h''⟩ | ⟨g, cap, cur, h', _⟩
        · omega
        · simp only [Value.slice.injEq, true_and] at h'
          exact ⟨g, h'.1⟩
      have hlen := ho.1
      have hf0 := ho.frozenAt (j * 2)
      have hf1 := ho.frozenAt (j * 2 + 1)
      obtain ⟨v0, hx0⟩ : ∃ v, wr.cell? ⟨g, j * 2, none⟩ = some v := by
        rw [ho.cellAt (j * 2) (by omega)]
        exact ⟨_, List.getElem?_eq_getElem (by omega)⟩
      obtain ⟨v1, hx1⟩ : ∃ v, wr.cell? ⟨g, j * 2 + 1, none⟩ = some v := by
        rw [ho.cellAt (j * 2 + 1) (by omega)]
        exact ⟨_, List.getElem?_eq_getElem (by omega)⟩
      have h1 := ho.stored (j * 2) (.int .i64 ((k : Int) + (j : Int) * 2))
      have h2 := h1.1.stored (j * 2 + 1) (.int .i64 ((k : Int) + (j : Int) * 2 + 1))
      have HS := hide h2.1
      have HG := hide (h1.2.trans h2.2)
      have hM := markedC_set xs k j n hl hlt
      rw [show ((k + j * 2 : Nat) : Int) = (k : Int) + (j : Int) * 2 by omega, show ((k + j * 2 + 1 : Nat) : Int) = (k : Int) + (j : Int) * 2 + 1 by omega] at hM
      have HM := hide hM
      clear h1 h2 hlen ho hM
      go_wp2
      go_roundw
      case rel => exact ⟨j + 1, by omega, by go_num, by go_num, by rw [← HM.out]; exact HS.out, hg.trans HG.out⟩
      case measure => simp [intOf]; omega
    · go_wp2
      go_ret
      obtain rfl : j = n := by omega
      refine ⟨rfl, ?_, hg⟩
      rw [← markedC_all xs k j hl]
      exact ho
end Go.Proofs.YtnnfkmjhaljplaaGreatDoor
namespace Go.Proofs.YtnnfkmjhaljplaaGreatDoor
open Go.RowKit
def wid (x : Wid) : Cel := ⟨x.c, x.i⟩
def wids (l : List Wid) : List Cel := l.map wid
theorem wids_length (l : List Wid) : (wids l).length = l.length := by simp [wids]
/-- The slice address A leads to the write lists os. -/
def RdW (w : World) (B : Nat) (A : Option Addr) (os : List Wls) : Prop :=
  0 < os.length → ∃ b off, A = some ⟨b, off, none⟩ ∧ b < B ∧ ∀ i, (h : i < os.length) → w.cell? ⟨b, off + i * 2, none⟩ = some (.int .i64 os[i].a) ∧ ∃ a c, w.cell? ⟨b, off + i * 2 + 1, none⟩ = some (.slice a os[i].ids.length c) ∧ os[i].ids.length ≤ c ∧ c ≤ maxLen ∧ RdC w B a (wids os[i].ids)
section
variable {w w' : World} {B B' : Nat} {A : Option Addr} {os : List Wls}
theorem RdW.nil_ : RdW w B A [] := fun h => absurd h (by simp)
theorem RdW.keep (h : RdW w B A os) (hk : ∀ p : Addr, p.block < B → w'.cell? p = w.cell? p) : RdW w' B A os := by
  intro h0
  obtain ⟨b, off, e, hb, hc⟩ := h h0
  refine ⟨b, off, e, hb, fun i hi => ?_⟩
  obtain ⟨h0, a, c, h1, h2, h3, h4⟩ := hc i hi
  exact ⟨(hk _ hb).trans h0, a, c, (hk _ hb).trans h1, h2, h3, h4.keep hk⟩
theorem RdW.more (h : RdW w B A os) (hB : B ≤ B') : RdW w B' A os := by
  intro h0
  obtain ⟨b, off, e, hb, hc⟩ := h h0
  refine ⟨b, off, e, by omega, fun i hi => ?_⟩
  obtain ⟨h0, a, c, h1, h2, h3, h4⟩ := hc i hi
  exact ⟨h0, a, c, h1, h2, h3, h4.more hB⟩
theorem RdW.below (h : RdW w B A os) (hb : Below B w w') : RdW w' B A os := h.keep fun _ hp => hb.cell hp
theorem RdW.drew (h : RdW w B A os) : RdW w.drew B A os := h
theorem RdW.alloc (h : RdW w B A os) (hB : B ≤ w.heap.size) (o : Obj) : RdW (w.alloc o) B A os := h.keep fun p hp => World.cell?_alloc_lt w o p (by omega)
theorem RdW.lt (h : RdW w B A os) : RdW w w.heap.size A os := by
  intro h0
  obtain ⟨b, off, e, hb, hc⟩ := h h0
  refine ⟨b, off, e, ?_, fun i hi => ?_⟩
  · obtain ⟨h1, _⟩ := hc 0 h0
    exact block_lt_of_cell h1
  · obtain ⟨h0, a, c, h1, h2, h3, h4⟩ := hc i hi
    exact ⟨h0, a, c, h1, h2, h3, h4.lt⟩
theorem RdW.get (h : RdW w B A os) {i : Nat} (hi : i < os.length) : ∃ b off a c, A = some ⟨b, off, none⟩ ∧ b < B ∧ w.cell? ⟨b, off + i * 2, none⟩ = some (.int .i64 os[i].a) ∧ w.cell? ⟨b, off + i * 2 + 1, none⟩ = some (.slice a os[i].ids.length c) ∧ os[i].ids.length ≤ c ∧ c ≤ maxLen ∧ RdC w B a (wids os[i].ids) := by
  obtain ⟨b, off, e, hb, hc⟩ := h (by omega)
  obtain ⟨h0, a, c, h1, h2, h3, h4⟩ := hc i hi
  exact ⟨b, off, a, c, e, hb, h0, h1, h2, h3, h4⟩
end
theorem sumO_drop (os : List Wls) (i : Nat) (h : i < os.length) : sumO (os.drop i) = os[i].ids.length + sumO (os.drop (i + 1)) := by
  rw [List.drop_eq_getElem_cons h, sumO]
theorem sumO_end {os : List Wls} {i : Nat} (h : ¬ i < os.length) : sumO (os.drop i) = 0 := by rw [List.drop_eq_nil_of_le (by omega)]; rfl
/-- The cells of a row of write lists whose ids lie in us. -/
def wlR : List Wls → List Value → List Value
  | x :: r, u :: us => .int .i64 x.a :: u :: wlR r us
  | _, _ => []
theorem wlR_length : ∀ {os : List Wls} {us : List Value}, us.length = os.length → (wlR os us).length = os.length * 2
  | [], [], _ => rfl
  | [], _ :: _, h => by simp at h
  | _ :: _, [], h => by simp at h
  | x :: r, u :: us, h => by
    have := wlR_length (os := r) (us := us) (by simpa using h)
    simp only [wlR, List.length_cons, this]
    omega
theorem wlR_get : ∀ {os : List Wls} {us : List Value}, us.length = os.length → ∀ (i : Nat) (h : i < os.length), (wlR os us)[i * 2]? = some (.int .i64 os[i].a) ∧ (wlR os us)[i * 2 + 1]? = us[i]?
  | [], _, _, i, h => by simp at h
  | _ :: _, [], h, _, _ => by simp at h
  | x :: r, u :: us, h, 0, _ => ⟨rfl, rfl⟩
  | x :: r, u :: us, h, i + 1, hi => by
    have := wlR_get (os := r) (us := us) (by simpa using h) i (by simpa using hi)
    rw [show (i + 1) * 2 = i * 2 + 1 + 1 by omega, wlR]
    simp only [List.getElem?_cons_succ, List.getElem_cons_succ]
    exact this
theorem wlR_append : ∀ {os : List Wls} {us : List Value}, us.length = os.length → ∀ (x : Wls) (u : Value), wlR (os ++ [x]) (us ++ [u]) = wlR os us ++ [.int .i64 x.a, u]
  | [], [], _, _, _ => rfl
  | [], _ :: _, h, _, _ => by simp at h
  | _ :: _, [], h, _, _ => by simp at h
  | y :: r, v :: us, h, x, u => by
    have := wlR_append (os := r) (us := us) (by simpa using h) x u
    simp only [List.cons_append, wlR, this]
/-- Write lists in a row of the call's own, the ids of each in one of their own, apart from the others'. -/
structure OwnW (w : World) (base : Nat) (v : Value) (os : List Wls) (us : List Value) : Prop where
  row : w.ownsRow base 159 2 v os.length (wlR os us)
  len : us.length = os.length
  rows : ∀ i, (hi : i < os.length) → ∃ u, us[i]? = some u ∧ w.ownsRow base 191 2 u os[i].ids.length (cels (wids os[i].ids))
  apart : ∀ (i j : Nat) (u u' : Value), i ≠ j → us[i]? = some u → us[j]? = some u' → ∀ b, u.ownBlock = some b → u'.ownBlock ≠ some b
section
variable {w w' : World} {base : Nat} {v : Value} {os : List Wls} {us : List Value}
theorem OwnW.kept {row : Option Nat} (h : OwnW w base v os us) (hg : w.grownBy w' row) (hr : ∀ b, row = some b → b < base) : OwnW w' base v os us :=
  ⟨h.row.kept hg (own_sep fun b hb e => by have := (h.row.lt b hb).1; have := hr b e; omega), h.len, fun i hi => by
    obtain ⟨u, h1, h2⟩ := h.rows i hi
    exact ⟨u, h1, h2.kept hg (own_sep fun b hb e => by have := (h2.lt b hb).1; have := hr b e; omega)⟩, h.apart⟩
theorem OwnW.below (h : OwnW w base v os us) (hb : Below w.heap.size w w') : OwnW w' base v os us := h.kept (row := none) ⟨hb.os, hb.tape, hb.output, hb.size, fun k hk _ => hb.block k hk⟩ (fun b e => by cases e)
theorem OwnW.alloc (h : OwnW w base v os us) (o : Obj) : OwnW (w.alloc o) base v os us := h.below ((Below.refl _ _).alloc (Nat.le_refl _) _)
theorem OwnW.mono (h : OwnW w base v os us) {b' : Nat} (hb : b' ≤ base) : OwnW w b' v os us :=
  ⟨own_mono h.row hb, h.len, fun i hi => by
    obtain ⟨u, h1, h2⟩ := h.rows i hi
    exact ⟨u, h1, own_mono h2 hb⟩, h.apart⟩
theorem OwnW.nil_ (w : World) (base : Nat) : OwnW w base (.slice none 0 0) [] [] := ⟨World.ownsRow_nil _ _ _ _, rfl, fun i hi => by simp at hi, fun i j u u' _ hu => by simp at hu⟩
theorem OwnW.rd {A : Option Addr} {n c : Nat} (h : OwnW w base (.slice A n c) os us) : RdW w w.heap.size A os := by
  intro h0
  rcases h.row.2 with ⟨h', h''⟩ | ⟨g, cap, cur, h', _⟩
  · omega
  · have hr := h.row
    simp only [Value.slice.injEq] at h'
    obtain ⟨rfl, rfl, rfl⟩ := h'
    refine ⟨g, 0, rfl, (hr.lt g rfl).2, fun i hi => ?_⟩
    obtain ⟨u, h1, h2⟩ := h.rows i hi
    obtain ⟨g1, g2⟩ := wlR_get h.len i hi
    obtain ⟨a, c, rfl⟩ := own_shape h2
    have hcp := own_capE h2
    rw [Nat.zero_add]
    refine ⟨by rw [hr.cellAt _ (by omega)]; exact g1, a, c, by rw [hr.cellAt _ (by omega), g2]; exact h1, hcp.1, hcp.2, ?_⟩
    exact RdC.of_own h2
end
end Go.Proofs.YtnnfkmjhaljplaaGreatDoor
namespace Go.Proofs.YtnnfkmjhaljplaaGreatDoor
open Go.RowKit
theorem info_wls : (Tryz.prog.info? 159).map (fun i => (i.zero, i.size, i.bytes)) = some (some (.agg #[.int .i64 0, .slice none 0 0]), 2, 32) := by kernel_rfl
theorem szWriteList_fit (x : Int) (A : Option Addr) (n c m : Nat) (w : World) (hm : n ≤ m) (h : m ≤ 1048576) :
    Calls Tryz.prog 112 #[.agg #[.int .i64 x, .slice A n c], .int .i64 m] w fun e w' => e = .returned (.int .i64 ((m - n : Nat) : Int)) ∧ Below w.heap.size w w' := by
  have kb := Bk.new w #[.int .i64 x, .slice A n c] 156
  have c1 := (kb.cell 1).trans (rfl : _ = some (Value.slice A n c))
  have hb := (Below.refl w.heap.size w).alloc (Nat.le_refl _) (Obj.cells #[.int .i64 x, .slice A n c] 156)
  go_enter Tryz.func112, Tryz.ntmps112
  go_wp2_with fail
  refine (szWriteIdS_fit A n c m _ hm h).mono ?_
  rintro e w' ⟨rfl, rfl⟩
  go_wp2
  go_ret
  exact ⟨rfl, hb⟩
theorem szWriteList_not (x : Int) (A : Option Addr) (n c m : Nat) (w : World) (hm : m < n) (h : m ≤ 1048576) (hn : n ≤ maxLen) :
    Calls Tryz.prog 112 #[.agg #[.int .i64 x, .slice A n c], .int .i64 m] w fun e w' => e = .returned (.int .i64 (-1)) ∧ Below w.heap.size w w' := by
  have kb := Bk.new w #[.int .i64 x, .slice A n c] 156
  have c1 := (kb.cell 1).trans (rfl : _ = some (Value.slice A n c))
  have hb := (Below.refl w.heap.size w).alloc (Nat.le_refl _) (Obj.cells #[.int .i64 x, .slice A n c] 156)
  go_enter Tryz.func112, Tryz.ntmps112
  go_wp2_with fail
  refine (szWriteIdS_not A n c m _ hm h hn).mono ?_
  rintro e w' ⟨rfl, rfl⟩
  go_wp2
  go_ret
  exact ⟨rfl, hb⟩
set_option maxHeartbeats 400000 in
theorem szWriteListS_fit (os : List Wls) (A : Option Addr) (c m : Nat) (w : World) (hs : os.length + sumO os ≤ m) (hm : m ≤ 1048576) (h : RdW w w.heap.size A os) :
    Calls Tryz.prog 33 #[.slice A os.length c, .int .i64 m] w fun e w' => e = .returned (.int .i64 ((m - os.length - sumO os : Nat) : Int)) ∧ Below w.heap.size w w' := by
  go_enter Tryz.func33, Tryz.ntmps33
  go_wp2
  go_loopw [1, 5] (fun q i wr => ∃ k l : Nat, k ≤ os.length ∧ i = .int .i64 k ∧ q = .int .i64 l ∧ l ≤ 1048576 ∧ l = m - os.length - sumO os + sumO (os.drop k) ∧ Below w.heap.size w wr) (fun _ i _ => os.length - (intOf i).toNat)
  case atStart => exact ⟨0, m - os.length, Nat.zero_le _, rfl, by go_num, by omega, by simp; omega, Below.refl _ _⟩
  case round =>
    obtain ⟨k, l, hk, rfl, rfl, h2, hl, hb⟩ := hrel
    by_cases hlt : k < os.length
    · obtain ⟨b, off, a, c', rfl, hbb, hc0, hc1, hle, hcm, hr⟩ := (h.below hb).get hlt
      have hd := sumO_drop os k hlt
      have h1 : os[k].ids.length ≤ l := by omega
      have HL := hide hl
      have HD := hide hd
      clear hl hd
      go_wp2_with fail
      refine (szWriteList_fit os[k].a a os[k].ids.length c' l _ h1 h2).mono ?_
      rintro e w' ⟨rfl, b1⟩
      have hb2 := hb.trans (b1.mono hb.size)
      go_wp2
      go_roundw
      case rel => exact ⟨k + 1, l - os[k].ids.length, by omega, by go_num, rfl, by omega, by have := HL.out; have := HD.out; omega, hb2⟩
      case measure => simp [intOf]; omega
    · have hd := sumO_end hlt
      go_wp2
      go_ret
      exact ⟨ret_int (by omega), hb⟩
theorem eqWriteList_same (x : Int) (ids : List Wid) (A A' : Option Addr) (c c' : Nat) (w : World) (hm : ids.length ≤ maxLen) (h : RdC w w.heap.size A (wids ids)) (h' : RdC w w.heap.size A' (wids ids)) :
    Calls Tryz.prog 114 #[.agg #[.int .i64 x, .slice A ids.length c], .agg #[.int .i64 x, .slice A' ids.length c']] w fun e w' => e = .returned (.bool true) ∧ Below w.heap.size w w' := by
  obtain ⟨W, hW⟩ : ∃ W, W = (w.alloc (Obj.cells #[.int .i64 x, .slice A ids.length c] 159)).alloc (Obj.cells #[.int .i64 x, .slice A' ids.length c'] 159) := ⟨_, rfl⟩
  obtain ⟨k1, k2, hz, B0⟩ := two_new _ _ _ _ _ W hW
  have HW := hide hW
  have hR := (h.below B0).lt
  have hR' := (h'.below B0).lt
  have EQ := hide (eqWriteIdS_same (wids ids) A A' c c' W (by rw [wids_length]; exact hm) hR hR')
  rw [wids_length] at EQ
  clear hW
  have a0 := (k1.cell 0).trans (rfl : _ = some (Value.int .i64 x))
  have a1 := (k1.cell 1).trans (rfl : _ = some (Value.slice A ids.length c))
  have b0 := (k2.cell 0).trans (rfl : _ = some (Value.int .i64 x))
  have b1 := (k2.cell 1).trans (rfl : _ = some (Value.slice A' ids.length c'))
  go_enter Tryz.func114, Tryz.ntmps114
  go_wp2_with fail
  rw [← HW.out]
  refine EQ.out.mono ?_
  rintro e w1 ⟨rfl, b2⟩
  go_wp2
  go_ret
  exact ⟨rfl, B0.trans (b2.mono B0.size)⟩
set_option maxHeartbeats 400000 in
theorem szWriteListS_not (os : List Wls) (A : Option Addr) (c m : Nat) (w : World) (hs : m < os.length + sumO os) (hm : m ≤ 1048576) (hl : os.length ≤ maxLen) (h : RdW w w.heap.size A os) :
    Calls Tryz.prog 33 #[.slice A os.length c, .int .i64 m] w fun e w' => e = .returned (.int .i64 (-1)) ∧ Below w.heap.size w w' := by
  unfold maxLen at hl
  by_cases h0 : os.length ≤ m
  · go_enter Tryz.func33, Tryz.ntmps33
    go_wp2
    go_loopw [1, 5] (fun q i wr => ∃ k l : Nat, k ≤ os.length ∧ i = .int .i64 k ∧ q = .int .i64 l ∧ l ≤ 1048576 ∧ l < sumO (os.drop k) ∧ Below w.heap.size w wr) (fun _ i _ => os.length - (intOf i).toNat)
    case atStart => exact ⟨0, m - os.length, Nat.zero_le _, rfl, by go_num, by omega, by simp; omega, Below.refl _ _⟩
    case round =>
      obtain ⟨k, l, hk, rfl, rfl, hl, hls, hb⟩ := hrel
      by_cases hlt : k < os.length
      · obtain ⟨b, off, a, c', rfl, hbb, hc0, hc1, hle, hcm, hr⟩ := (h.below hb).get hlt
        have hd := sumO_drop os k hlt
        by_cases h1 : os[k].ids.length ≤ l
        · have HD := hide hd
          clear hd
          go_wp2_with fail
          refine (szWriteList_fit os[k].a a os[k].ids.length c' l _ h1 hl).mono ?_
          rintro e w' ⟨rfl, b1⟩
          have hb2 := hb.trans (b1.mono hb.size)
          go_wp2
          go_roundw
          case rel => exact ⟨k + 1, l - os[k].ids.length, by omega, by go_num, rfl, by omega, by have := HD.out; omega, hb2⟩
          case measure => simp [intOf]; omega
        · clear hd
          go_wp2_with fail
          refine (szWriteList_not os[k].a a os[k].ids.length c' l _ (by omega) hl (by omega)).mono ?_
          rintro e w' ⟨rfl, b1⟩
          have hb2 := hb.trans (b1.mono hb.size)
          go_wp2
          go_ret
          exact ⟨rfl, hb2⟩
      · have hd := sumO_end hlt
        exact absurd hls (by omega)
  · go_enter Tryz.func33, Tryz.ntmps33
    go_wp2
    go_ret
    exact ⟨rfl, Below.refl _ _⟩
set_option maxRecDepth 100000 in
set_option maxHeartbeats 800000 in
theorem eqWriteListS_same (os : List Wls) (A A' : Option Addr) (c c' : Nat) (w : World) (hm : os.length ≤ maxLen) (h : RdW w w.heap.size A os) (h' : RdW w w.heap.size A' os) :
    Calls Tryz.prog 38 #[.slice A os.length c, .slice A' os.length c'] w fun e w' => e = .returned (.bool true) ∧ Below w.heap.size w w' := by
  unfold maxLen at hm
  go_enter Tryz.func38, Tryz.ntmps38
  go_wp2
  go_loopw [5] (fun i wr => ∃ k : Nat, k ≤ os.length ∧ i = .int .i64 k ∧ Below w.heap.size w wr) (fun i _ => os.length - (intOf i).toNat)
  case atStart => exact ⟨0, Nat.zero_le _, rfl, Below.refl _ _⟩
  case round =>
    obtain ⟨k, hk, rfl, hb⟩ := hrel
    by_cases hlt : k < os.length
    · obtain ⟨b, off, a, d, rfl, hbb, hc0, hc1, hle, hcm, hr⟩ := (h.below hb).get hlt
      obtain ⟨b', off', a', d', rfl, hbb', hd0, hd1, hle', hdm, hr'⟩ := (h'.below hb).get hlt
      go_wp2
      go_still_tail 8, (by kernel_rfl)
      change wpList _ _ _ _ _ wr.drew
      generalize hw2 : wr.drew = w2
      have hb2 : Below w.heap.size w w2 := by rw [← hw2]; exact hb.drew
      have hr2 : RdC w2 w.heap.size a (wids os[k].ids) := by rw [← hw2]; exact hr
      have hr2' : RdC w2 w.heap.size a' (wids os[k].ids) := by rw [← hw2]; exact hr'
      clear hw2
      go_wp2_with fail
      refine (eqWriteList_same os[k].a os[k].ids _ _ _ _ _ (by unfold maxLen at *; omega) hr2.lt hr2'.lt).mono ?_
      rintro e w3 ⟨rfl, hb3⟩
      have hb4 := hb2.trans (hb3.mono hb2.size)
      go_wp2
      go_roundw
      case rel => exact ⟨k + 1, by omega, by go_num, hb4⟩
      case measure => simp [intOf]; omega
    · go_wp2
      go_ret
      exact ⟨rfl, hb⟩
end Go.Proofs.YtnnfkmjhaljplaaGreatDoor
namespace Go.Proofs.YtnnfkmjhaljplaaGreatDoor
open Go.RowKit
set_option maxHeartbeats 800000 in
theorem toWriteList_any (x : Wls) (A : Option Addr) (c : Nat) (w : World) (hm : x.ids.length ≤ 1048576) (h : RdC w w.heap.size A (wids x.ids)) :
    Calls Tryz.prog 113 #[.agg #[.int .i64 x.a, .slice A x.ids.length c]] w fun e w' => ∃ g, e = .returned (.agg #[.int .i64 x.a, .slice (some ⟨g, 0, none⟩) x.ids.length x.ids.length]) ∧ w'.ownsRow w.heap.size 191 2 (.slice (some ⟨g, 0, none⟩) x.ids.length x.ids.length) x.ids.length (cels (wids x.ids)) ∧ Below w.heap.size w w' := by
  obtain ⟨W, hW⟩ : ∃ W, W = ((w.alloc (Obj.cells #[.int .i64 x.a, .slice A x.ids.length c] 156)).alloc (Obj.cells #[.int .i64 0, .slice none 0 0] 159)).alloc (Obj.cells #[.int .i64 0, .slice none 0 0] 159) := ⟨_, rfl⟩
  obtain ⟨k0, k1, k2, hz, B0⟩ := three_new _ _ _ _ _ _ _ W hW
  have HW := hide hW
  have TO := fun (X : World) (hX : RdC X X.heap.size A (wids x.ids)) => toWriteIdS_any (wids x.ids) A c X (by rw [wids_length]; exact hm) hX
  rw [wids_length] at TO
  have HTO := hide TO
  clear hW TO
  go_enter Tryz.func113, Tryz.ntmps113
  go_upto_region 2 with fail
  rw [← HW.out]
  have a0 := (k0.cell 0).trans (rfl : _ = some (Value.int .i64 x.a))
  have d0 := (k2.cell 0).trans (rfl : _ = some (Value.int .i64 0))
  have f0 := k2.frozen 0
  go_upto_region 3 with fail
  have j0 := k0.far (p := ⟨w.heap.size + 1 + 1, 0, none⟩) (by simp only; omega) (.int .i64 x.a)
  have j1 := k1.far (p := ⟨w.heap.size + 1 + 1, 0, none⟩) (by simp only; omega) (.int .i64 x.a)
  have j2 := k2.set_ 0 (.int .i64 x.a)
  have BX := B0.setCell (p := ⟨w.heap.size + 1 + 1, 0, none⟩) (by simp only; omega) (.int .i64 x.a)
  simp only [List.setIfInBounds_toArray, List.set_cons_zero] at j2
  clear a0 d0 f0 k0 k1 k2 B0
  generalize W.setCell ⟨w.heap.size + 1 + 1, 0, none⟩ (.int .i64 x.a) = X at *
  have a1 := (j0.cell 1).trans (rfl : _ = some (Value.slice A x.ids.length c))
  go_wp2_with fail
  refine (HTO.out X (h.below BX).lt).mono ?_
  rintro e w2 ⟨g, rfl, o2, b2⟩
  have i1 := j1.kept b2
  have i2 := j2.kept b2
  have hzX := BX.size
  have B2 := BX.trans (b2.mono hzX)
  have e1 := (i2.cell 1).trans (rfl : _ = some (Value.slice none 0 0))
  have e2 := i2.frozen 1
  have hzj := j2.lt
  clear a1 j0 j1 j2 b2
  go_upto_region 4 with fail
  have m1 := i1.far (p := ⟨w.heap.size + 1 + 1, 1, none⟩) (by simp only; omega) (.slice (some ⟨g, 0, none⟩) x.ids.length x.ids.length)
  have m2 := i2.set_ 1 (.slice (some ⟨g, 0, none⟩) x.ids.length x.ids.length)
  have o3 := ownsRow_setCell_below o2 (a := ⟨w.heap.size + 1 + 1, 1, none⟩) hzj (.slice (some ⟨g, 0, none⟩) x.ids.length x.ids.length)
  have B3 := B2.setCell (p := ⟨w.heap.size + 1 + 1, 1, none⟩) (by simp only; omega) (.slice (some ⟨g, 0, none⟩) x.ids.length x.ids.length)
  simp only [List.setIfInBounds_toArray, List.set_cons_zero, List.set_cons_succ] at m2
  clear e1 e2 i1 i2 o2 B2
  generalize w2.setCell ⟨w.heap.size + 1 + 1, 1, none⟩ (.slice (some ⟨g, 0, none⟩) x.ids.length x.ids.length) = Y at *
  have y0 := (m2.cell 0).trans (rfl : _ = some (Value.int .i64 x.a))
  have y1 := (m2.cell 1).trans (rfl : _ = some (Value.slice (some ⟨g, 0, none⟩) x.ids.length x.ids.length))
  have z0 := (m1.cell 0).trans (rfl : _ = some (Value.int .i64 0))
  have z1 := (m1.cell 1).trans (rfl : _ = some (Value.slice none 0 0))
  have f0 := m1.frozen 0
  have f1 := m1.frozen 1
  have HO := hide o3
  have HB := hide B3
  clear m1 m2 o3 B3
  go_wp2
  refine bodyPost_ret (v := .agg #[.int .i64 x.a, .slice (some ⟨g, 0, none⟩) x.ids.length x.ids.length]) (by simp [results, Tryz.results113, go_sem, z0, z1]) rfl ?_
  exact ⟨g, rfl, own_mono (ownsRow_setCell_below (ownsRow_setCell_below HO.out (a := ⟨w.heap.size + 1, 0, none⟩) (by simp only; omega) _) (a := ⟨w.heap.size + 1, 1, none⟩) (by simp only; omega) _) hzX, (HB.out.setCell (by simp only; omega) _).setCell (by simp only; omega) _⟩
end Go.Proofs.YtnnfkmjhaljplaaGreatDoor
namespace Go.Proofs.YtnnfkmjhaljplaaGreatDoor
open Go.RowKit
open Classical in
noncomputable def relB (f : Wls → Wls → Bool) (os O : List Wls) : Bool := if os.length = O.length ∧ ∀ i (h : i < os.length) (h' : i < O.length), f os[i] O[i] = true then true else false
theorem relB_len {f : Wls → Wls → Bool} {os O : List Wls} (h : ¬ os.length = O.length) : relB f os O = false := if_neg fun e => h e.1
theorem relB_not {f : Wls → Wls → Bool} {os O : List Wls} {k : Nat} (hk : k < os.length) (hk' : k < O.length) (h : f os[k] O[k] = false) : relB f os O = false := if_neg fun e => by have := e.2 k hk hk'; rw [h] at this; cases this
def UpF (f : Wls → Wls → Bool) (os O : List Wls) (k : Nat) : Prop := ∀ i (h : i < os.length) (h' : i < O.length), i < k → f os[i] O[i] = true
theorem UpF.step {f : Wls → Wls → Bool} {os O : List Wls} {k : Nat} (h : UpF f os O k) (he : ∀ (h : k < os.length) (h' : k < O.length), f os[k] O[k] = true) : UpF f os O (k + 1) := fun i h1 h2 hi => by
  by_cases e : i = k
  · subst e; exact he h1 h2
  · exact h i h1 h2 (by omega)
theorem relB_all {f : Wls → Wls → Bool} {os O : List Wls} (hl : os.length = O.length) (h : UpF f os O os.length) : relB f os O = true := if_pos ⟨hl, fun i h1 h2 => h i h1 h2 h1⟩
theorem wid_ne {e f : Wid} (h : ¬ e = f) : ¬ e.c = f.c ∨ (e.c = f.c ∧ ¬ e.i = f.i) := by
  obtain ⟨a, v⟩ := e
  obtain ⟨a', v'⟩ := f
  by_cases h1 : a = a'
  · by_cases h2 : v = v'
    · exact absurd (by rw [h1, h2]) h
    · exact .inr ⟨h1, h2⟩
  · exact .inl h1
theorem ids_get {w : World} {B : Nat} {A : Option Addr} {l : List Wid} (h : RdC w B A (wids l)) {i : Nat} (hi : i < l.length) : ∃ b off, A = some ⟨b, off, none⟩ ∧ b < B ∧ w.cell? ⟨b, off + i * 2, none⟩ = some (.int .i64 l[i].c) ∧ w.cell? ⟨b, off + i * 2 + 1, none⟩ = some (.int .i64 l[i].i) := by
  obtain ⟨b, off, e, hb, h0, h1⟩ := h.get (i := i) (by rw [wids_length]; exact hi)
  exact ⟨b, off, e, hb, by rw [h0]; simp [wids, wid], by rw [h1]; simp [wids, wid]⟩
/-- A function of two write lists that tells f of them. -/
def TellsW (F : Nat) (f : Wls → Wls → Bool) : Prop := ∀ (x y : Wls) (a a' : Option Addr) (d d' : Nat) (V : World), x.ids.length ≤ maxLen → y.ids.length ≤ maxLen → RdC V V.heap.size a (wids x.ids) → RdC V V.heap.size a' (wids y.ids) →
  Calls Tryz.prog F #[.agg #[.int .i64 x.a, .slice a x.ids.length d], .agg #[.int .i64 y.a, .slice a' y.ids.length d']] V fun e w' => e = .returned (.bool (f x y)) ∧ Below V.heap.size V w'
end Go.Proofs.YtnnfkmjhaljplaaGreatDoor
