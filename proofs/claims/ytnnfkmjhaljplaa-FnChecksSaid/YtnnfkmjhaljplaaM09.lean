/- What the laws' walks rest upon, part 9. -/
import Derived.Test.YtnnfkmjhaljplaaM08
namespace Go.Proofs.Ytnnfkmjhaljplaa
open Go.RowKit
theorem insW_low {a : Int} {x : Wid} : ∀ {l r : List Wls}, (∀ y ∈ l, y.a < a) → insW a x (l ++ r) = l ++ insW a x r
 | [], _, _ => rfl
 | y :: l, r, h => by
  have h0 := h y (by simp)
  rw [List.cons_append, insW, if_neg (by omega), if_neg (by omega), insW_low fun z hz => h z (by simp [hz])]
  rfl
theorem insW_high {a : Int} {x : Wid} : ∀ {l r : List Wls}, (∃ y ∈ l, a ≤ y.a) → insW a x (l ++ r) = insW a x l ++ r
 | [], _, ⟨_, h, _⟩ => by simp at h
 | y :: l, r, h => by
  rw [List.cons_append, insW, insW]
  by_cases h1 : a < y.a
  ·rw [if_pos h1, if_pos h1]; rfl
  ·rw [if_neg h1, if_neg h1]
   by_cases h2 : y.a = a
   ·rw [if_pos h2, if_pos h2]; rfl
   ·rw [if_neg h2, if_neg h2, insW_high (by
     obtain ⟨z, hz, ha⟩ := h
     rcases List.mem_cons.1 hz with rfl | hz
     ·omega
     ·exact ⟨z, hz, ha⟩)]
    rfl
/-- What has been put, behind k lists. -/
def PreW (a : Int) (x : Wid) (os : List Wls) (k : Nat) (d : Bool) (L : List Wls) : Prop :=
 (d = true → L = insW a x (os.take k) ∧ ∃ y ∈ os.take k, a ≤ y.a) ∧ (d = false → L = os.take k ∧ ∀ y ∈ os.take k, y.a < a)
section
variable {a : Int} {x : Wid} {os : List Wls} {k : Nat} {L : List Wls}
theorem PreW.zero : PreW a x os 0 false [] := ⟨fun h => (by cases h), fun _ => ⟨rfl, fun y hy => by simp at hy⟩⟩
theorem PreW.done (h : PreW a x os k true L) (hr : risO os) (hk : k < os.length) : os[k].a ≠ a ∧ PreW a x os (k + 1) true (L ++ [os[k]]) := by
 obtain ⟨h1, y, hy, ha⟩ := h.1 rfl
 refine ⟨fun e => ?_, fun _ => ⟨?_, ?_⟩, fun h => (by cases h)⟩
 ·obtain ⟨p, hp, e2⟩ := List.getElem_of_mem hy
  rw [List.getElem_take] at e2
  rw [List.length_take] at hp
  have := List.pairwise_iff_getElem.1 hr p k (by omega) hk (by omega)
  rw [e2] at this
  omega
 ·rw [List.take_succ_eq_append_getElem hk, insW_high ⟨y, hy, ha⟩, h1]
 ·rw [List.take_succ_eq_append_getElem hk]
  exact ⟨y, List.mem_append_left _ hy, ha⟩
theorem PreW.fresh (h : PreW a x os k false L) (hk : k < os.length) (ha : a < os[k].a) : PreW a x os (k + 1) true (L ++ [⟨a, [x]⟩] ++ [os[k]]) := by
 obtain ⟨h1, h2⟩ := h.2 rfl
 refine ⟨fun _ => ⟨?_, ?_⟩, fun h => (by cases h)⟩
 ·rw [List.take_succ_eq_append_getElem hk, insW_low h2, insW, if_pos ha, h1, List.append_assoc]; rfl
 ·rw [List.take_succ_eq_append_getElem hk]
  exact ⟨os[k], List.mem_append_right _ (List.mem_singleton.2 rfl), by omega⟩
theorem PreW.same (h : PreW a x os k false L) (hk : k < os.length) (ha : os[k].a = a) : PreW a x os (k + 1) true (L ++ [⟨os[k].a, os[k].ids ++ [x]⟩]) := by
 obtain ⟨h1, h2⟩ := h.2 rfl
 refine ⟨fun _ => ⟨?_, ?_⟩, fun h => (by cases h)⟩
 ·rw [List.take_succ_eq_append_getElem hk, insW_low h2, insW, if_neg (by omega), if_pos ha, h1, ha]
 ·rw [List.take_succ_eq_append_getElem hk]
  exact ⟨os[k], List.mem_append_right _ (List.mem_singleton.2 rfl), by omega⟩
theorem PreW.low (h : PreW a x os k false L) (hk : k < os.length) (ha : os[k].a < a) : PreW a x os (k + 1) false (L ++ [os[k]]) := by
 obtain ⟨h1, h2⟩ := h.2 rfl
 refine ⟨fun h => (by cases h), fun _ => ⟨?_, fun y hy => ?_⟩⟩
 ·rw [List.take_succ_eq_append_getElem hk, h1]
 ·rw [List.take_succ_eq_append_getElem hk] at hy
  rcases List.mem_append.1 hy with hy | hy
  ·exact h2 y hy
  ·rw [List.mem_singleton] at hy; rw [hy]; exact ha
theorem PreW.yes (h : PreW a x os os.length true L) : L = insW a x os := by have := (h.1 rfl).1; rwa [List.take_length] at this
theorem PreW.no (h : PreW a x os os.length false L) : L ++ [⟨a, [x]⟩] = insW a x os := by
 obtain ⟨h1, h2⟩ := h.2 rfl
 rw [List.take_length] at h1 h2
 have := insW_low (x := x) (r := []) h2
 rw [List.append_nil] at this
 rw [this, h1]; rfl
theorem PreW.len {d : Bool} (h : PreW a x os k d L) : L.length ≤ os.length + 1 := by
 have ht : (os.take k).length ≤ os.length := by rw [List.length_take]; omega
 cases d
 ·rw [(h.2 rfl).1]; omega
 ·rw [(h.1 rfl).1]; have := insW_len (a := a) (x := x) (os := os.take k); omega
end
/-- Where the lists that are put stand: rows of the old ones (us), or new ones. -/
structure PutAt (w : World) (base : Nat) (us : List Value) (k : Nat) (L : List Wls) (v : Value) (U : List Value) (wr : World) : Prop where
 own : OwnW wr base v L U
 old : Below w.heap.size w wr
 lo : base ≤ w.heap.size
 src : ∀ u ∈ U, ∀ b, u.ownBlock = some b → w.heap.size ≤ b ∨ ∃ j u', j < k ∧ us[j]? = some u' ∧ u'.ownBlock = some b
 new : ∀ b, v.ownBlock = some b → w.heap.size ≤ b
section
variable {w wr w' : World} {base k k' : Nat} {us U : List Value} {L : List Wls} {v v' u : Value} {x : Wls}
theorem PutAt.below (h : PutAt w base us k L v U wr) (hb : Below wr.heap.size wr w') : PutAt w base us k L v U w' := ⟨h.own.below hb, h.old.trans (hb.mono h.old.size), h.lo, h.src, h.new⟩
theorem PutAt.alloc (h : PutAt w base us k L v U wr) (o : Obj) : PutAt w base us k L v U (wr.alloc o) := h.below ((Below.refl _ _).alloc (Nat.le_refl _) _)
theorem PutAt.push (h : PutAt w base us k L v U wr) (hk : k ≤ k') (hu : wr.ownsRow base 83 2 u x.ids.length (cels (wids x.ids))) (hf : ∀ b, u.ownBlock = some b → ∀ u' ∈ U, u'.ownBlock ≠ some b)
  (hs : ∀ b, u.ownBlock = some b → w.heap.size ≤ b ∨ ∃ j u', j < k' ∧ us[j]? = some u' ∧ u'.ownBlock = some b)
  (ho : w'.ownsRow base 69 2 v' (L.length + 1) (wlR L U ++ [.int .i64 x.a, u])) (hg : wr.grownBy w' v.ownBlock) (hat : v'.ownBlock = v.ownBlock ∨ v'.ownBlock = some wr.heap.size) : PutAt w base us k' (L ++ [x]) v' (U ++ [u]) w' := by
 refine ⟨h.own.push hu (fun b hb i u' hu' => hf b hb u' (List.mem_of_getElem? hu')) ho hg, h.old.grown hg h.old.size (fun g e => h.new g e), h.lo, fun y hy b hb => ?_, fun b hb => ?_⟩
 ·rcases List.mem_append.1 hy with hy | hy
  ·rcases h.src y hy b hb with h1 | ⟨j, u', h1, h2⟩
   ·exact .inl h1
   ·exact .inr ⟨j, u', by omega, h2⟩
  ·rw [List.mem_singleton] at hy
   subst hy
   exact hs b hb
 ·rcases hat with e | e
  ·exact h.new b (e.symm.trans hb)
  ·rw [e] at hb; cases hb; exact h.old.size
end
theorem RdV.two_new (w : World) (p q : Value) (T : TypeId) : RdV (w.alloc (.cells #[p, q] T)) (w.heap.size + 1) (some ⟨w.heap.size, 0, none⟩) [p, q] := fun _ =>
 ⟨w.heap.size, 0, rfl, Nat.lt_succ_self _, fun i hi => by
  rw [Nat.zero_add, (Bk.new w #[p, q] T).cell i]
  simp only [List.getElem?_toArray]
  exact List.getElem?_eq_getElem hi⟩
theorem OwnW.get {w : World} {base : Nat} {A : Option Addr} {n c : Nat} {os : List Wls} {us : List Value} (h : OwnW w base (.slice A n c) os us) {i : Nat} (hi : i < os.length) : ∃ gv ai di, A = some ⟨gv, 0, none⟩ ∧ us[i]? = some (.slice ai os[i].ids.length di) ∧ w.cell? ⟨gv, i * 2, none⟩ = some (.int .i64 os[i].a) ∧ w.cell? ⟨gv, i * 2 + 1, none⟩ = some (.slice ai os[i].ids.length di) ∧ w.ownsRow base 83 2 (.slice ai os[i].ids.length di) os[i].ids.length (cels (wids os[i].ids)) := by
 obtain rfl := h.n_eq
 obtain ⟨gv, rfl⟩ : ∃ g, A = some ⟨g, 0, none⟩ := by
  rcases h.row.2 with ⟨h', h''⟩ | ⟨g, cap, cur, h', _⟩
  ·omega
  ·simp only [Value.slice.injEq] at h'
   exact ⟨g, h'.1⟩
 obtain ⟨u, hui, hru⟩ := h.rows i hi
 obtain ⟨ai, di, hu⟩ := own_shape hru
 subst hu
 have hwl := wlR_length h.len
 obtain ⟨g0, g1⟩ := wlR_get h.len i hi
 exact ⟨gv, ai, di, rfl, hui, by rw [h.row.cellAt (i * 2) (by omega), g0], by rw [h.row.cellAt (i * 2 + 1) (by omega), g1]; exact hui, hru⟩
theorem one2 (a : Int) (A : Option Addr) (n c : Nat) : ∀ u ∈ [Value.int .i64 a, .slice A n c], u.oneCell' = true := by
 intro u hu
 simp only [List.mem_cons, List.mem_nil_iff, or_false] at hu
 rcases hu with rfl | rfl <;> rfl
theorem RdC.of_bk {w : World} {g : Nat} {x : Wid} {T : TypeId} (h : Bk w g #[.int .i64 x.c, .int .i64 x.i] T) : RdC w w.heap.size (some ⟨g, 0, none⟩) [⟨x.c, x.i⟩] := fun _ =>
 ⟨g, 0, rfl, h.lt, fun i hi => by
  rw [Nat.zero_add, h.cell i]
  simp only [List.getElem?_toArray]
  exact List.getElem?_eq_getElem hi⟩
theorem own_lit1 (w : World) (base : Nat) (x : Wid) (hb : base ≤ w.heap.size) : (w.alloc (.cells #[.int .i64 x.c, .int .i64 x.i] 83)).ownsRow base 83 2 (.slice (some ⟨w.heap.size, 0, none⟩) 1 1) 1 (cels (wids [x])) :=
 World.ownsRow_lit w #[.int .i64 x.c, .int .i64 x.i] 1 hb (by unfold maxLen; omega) rfl
set_option maxRecDepth 100000 in
set_option maxHeartbeats 4000000 in
theorem l8Put_any (base : Nat) (v : Value) (os : List Wls) (us : List Value) (a : Int) (x : Wid) (w : World) (ho : OwnW w base v os us) (hr : risO os) (hl : os.length ≤ 1000) (hm : ∀ y ∈ os, y.ids.length ≤ 1000) (hbase : base ≤ w.heap.size) :
  Calls Try.prog 84 #[v, .int .i64 a, .agg #[.int .i64 x.c, .int .i64 x.i]] w fun e w' => ∃ v' us', e = .returned v' ∧ OwnW w' base v' (insW a x os) us' ∧ Below w.heap.size w w' := by
 obtain ⟨A, n, c, hv⟩ : ∃ A n c, v = .slice A n c := by obtain ⟨A, c, e⟩ := own_shape ho.row; exact ⟨A, _, c, e⟩
 subst hv
 obtain rfl := ho.n_eq
 obtain ⟨i0, hi0, hz0, hz1, hz2⟩ := info_parts info_wid
 obtain ⟨i1, hj, hy0, hy1, hy2⟩ := info_parts info_wls
 obtain ⟨W, hW⟩ : ∃ W, W = (w.alloc (Obj.cells #[.int .i64 x.c, .int .i64 x.i] 83)).alloc (Obj.cells #[] 69) := ⟨_, rfl⟩
 have kp : Bk W w.heap.size #[.int .i64 x.c, .int .i64 x.i] 83 := by rw [hW]; exact (Bk.new w _ _).alloc _
 have hW0 : Below w.heap.size w W := by rw [hW]; exact ((Below.refl _ _).alloc (Nat.le_refl _) _).alloc (by simp) _
 have hP0 : PutAt w base us 0 [] (.slice (some ⟨w.heap.size + 1, 0, none⟩) 0 0) [] W := ⟨⟨by
   have e := World.ownsRow_lit (base := base) (e := 69) (size := 2) (w.alloc (Obj.cells #[.int .i64 x.c, .int .i64 x.i] 83)) #[] 0 (by simp; omega) (by unfold maxLen; omega) rfl
   have e2 : (w.alloc (Obj.cells #[.int .i64 x.c, .int .i64 x.i] 83)).heap.size = w.heap.size + 1 := by simp
   rw [e2] at e
   rw [hW]
   exact e, rfl, fun i hi => by simp at hi, fun i j u u' _ hu => by simp at hu⟩, hW0, hbase, fun u hu => (by simp at hu), fun b hb => (by simp only [Value.ownBlock, Option.some.injEq] at hb; omega)⟩
 have HW := hide hW
 have HO := hide (fun V (hV : Below w.heap.size w V) => ho.below hV)
 have HRD := hide ho.rd
 have HUS := hide (fun (u : Value) (hu : u ∈ us) (b : Nat) (hb : u.ownBlock = some b) => (ho.bound u hu b hb).2)
 have HAP := hide ho.apart
 clear hW ho hW0
 go_enter Try.func84, Try.ntmps84
 go_wp2_with (rw [← HW.out])
 go_loopw [7, 8, 14] (fun s7 s8 s14 wr => ∃ (k : Nat) (d : Bool) (L : List Wls) (U : List Value), k ≤ os.length ∧ s14 = .int .i64 k ∧ s8 = .bool d ∧ PutAt w base us k L s7 U wr ∧ Bk wr w.heap.size #[.int .i64 x.c, .int .i64 x.i] 83 ∧ Hid (PreW a x os k d L)) (fun _ _ i _ => os.length - (intOf i).toNat)
 case atStart => exact ⟨0, false, [], [], Nat.zero_le _, rfl, rfl, hP0, kp, hide PreW.zero⟩
 case round =>
  clear kp hP0
  obtain ⟨k, d, L, U, hk, rfl, rfl, hP, kp, HP⟩ := hrel
  obtain ⟨Ao, co, hv⟩ := own_shape hP.own.row
  subst hv
  have hLl : L.length ≤ 1001 := by have := HP.out.len; omega
  have hz := hP.old.size
  have hpz := kp.lt
  by_cases hlt : k < os.length
  ·obtain ⟨gv, ai, di, hA', hui, c0, c1, hru⟩ := (HO.out wr hP.old).get hlt
   subst hA'
   have hF := hide (fun (u : Value) (hu : u ∈ U) (b : Nat) (hb : (Value.slice ai os[k].ids.length di).ownBlock = some b) (e : u.ownBlock = some b) => (show False from by
    rcases hP.src u hu b e with h1 | ⟨j, u', h1, h2, h3⟩
    ·have := HUS.out _ (List.mem_of_getElem? hui) b hb; omega
    ·exact HAP.out k j _ u' (by omega) hui h2 b hb h3))
   have hS := hide (fun (b : Nat) (hb : (Value.slice ai os[k].ids.length di).ownBlock = some b) => (show w.heap.size ≤ b ∨ ∃ j u', j < k + 1 ∧ us[j]? = some u' ∧ u'.ownBlock = some b from .inr ⟨k, _, Nat.lt_succ_self k, hui, hb⟩))
   have hidl := hm _ (List.getElem_mem hlt)
   have hn1 : ¬ os.length ≤ k := by omega
   obtain ⟨y, hy⟩ : ∃ y, y = os[k] := ⟨_, rfl⟩
   rw [← hy] at hui c0 c1 hru hF hS hidl
   have HY := hide hy
   clear hy
   by_cases ha : y.a = a
   ·cases d
    ·have f0 : (y.a == a) = true := beq_iff_eq.2 ha
     have HN := hide (show PreW a x os (k + 1) true (L ++ [⟨y.a, y.ids ++ [x]⟩]) from by rw [HY.out]; exact HP.out.same hlt (by rw [← HY.out]; exact ha))
     have g0 : decide (a < y.a) = false := decide_eq_false (by omega)
     clear ha
     obtain ⟨W1, hW1⟩ : ∃ W1, W1 = wr.alloc (Obj.cells #[.int .i64 y.a, .slice ai y.ids.length di] 69) := ⟨_, rfl⟩
     have kx : Bk W1 wr.heap.size #[.int .i64 y.a, .slice ai y.ids.length di] 69 := by rw [hW1]; exact Bk.new _ _ _
     have kp1 := kp.alloc (Obj.cells #[.int .i64 y.a, .slice ai y.ids.length di] 69)
     rw [← hW1] at kp1
     have hr1 := hru.alloc (Obj.cells #[.int .i64 y.a, .slice ai y.ids.length di] 69)
     rw [← hW1] at hr1
     have bw : Below wr.heap.size wr W1.drew := by rw [hW1]; exact ((Below.refl _ _).alloc (Nat.le_refl _) _).drew
     have hzs := bw.size
     have x0 := (kx.cell 0).trans (rfl : _ = some (Value.int .i64 y.a))
     have x1 := (kx.cell 1).trans (rfl : _ = some (Value.slice ai y.ids.length di))
     have HW1 := hide hW1
     clear hW1
     go_upto_region 11 with fail
     rw [← HW1.out]
     clear x0 x1
     have kxZ : Bk W1.drew wr.heap.size #[.int .i64 y.a, .slice ai y.ids.length di] 69 := kx
     have kpZ : Bk W1.drew w.heap.size #[.int .i64 x.c, .int .i64 x.i] 83 := kp1
     have hri : RdC W1.drew W1.drew.heap.size ai (wids y.ids) := RdC.of_own hr1
     have bZ := Below.refl W1.drew.heap.size W1.drew
     have hzl := kxZ.lt
     have hxp : w.heap.size ≠ wr.heap.size := by omega
     have AC : ∀ w', Bk w' w.heap.size #[.int .i64 x.c, .int .i64 x.i] 83 → w'.cell? ⟨w.heap.size, 0, none⟩ = some (Value.int .i64 x.c) ∧ w'.cell? ⟨w.heap.size, 1, none⟩ = some (Value.int .i64 x.i) := fun w' h => ⟨(h.cell 0).trans rfl, (h.cell 1).trans rfl⟩
     have SC : ∀ w', Bk w' wr.heap.size #[.int .i64 y.a, .slice ai y.ids.length di] 69 → w'.cell? ⟨wr.heap.size, 1, none⟩ = some (Value.slice ai y.ids.length di) := fun w' h => (h.cell 1).trans rfl
     have a0 := AC _ kpZ
     have s0 := SC _ kxZ
     clear kx kp1 hr1
     refine wp_region_F 3 (fun w' => w'.cell? ⟨w.heap.size, 0, none⟩ = some (Value.int .i64 x.c) ∧ w'.cell? ⟨w.heap.size, 1, none⟩ = some (Value.int .i64 x.i)) (fun w' => w'.cell? ⟨wr.heap.size, 1, none⟩ = some (Value.slice ai y.ids.length di)) (by kernel_rfl) ⟨a0, s0⟩ (fun hHeld => ?_)
     try simp only [Act.put, List.setIfInBounds_toArray, List.set_cons_zero, List.set_cons_succ]
     refine wpAnyF_take (i := 1) (v := ?_) (by (simp only [List.getElem?_toArray, List.getElem?_cons_succ, List.getElem?_cons_zero]; rfl)) (by kernel_rfl) (by kernel_rfl) (by kernel_rfl) (by decide) (by exact fun _ _ _ h => h) ⟨hHeld.1, .inr hHeld.2⟩ (Or.inl ⟨by rfl, ?_⟩) ?_
     rotate_left
     ·(intro w' _; go_simp <;> with_reducible rfl)
     try simp only [Act.put, List.setIfInBounds_toArray, List.set_cons_zero, List.set_cons_succ]
     refine wpAnyF_load (i := 2) (v := ?_) (by (simp only [List.getElem?_toArray, List.getElem?_cons_succ, List.getElem?_cons_zero]; rfl)) (by kernel_rfl) (by kernel_rfl) (by kernel_rfl) (by decide) (by exact fun _ _ _ h => h) hHeld (by kernel_rfl) (by kernel_rfl) (Or.inl ⟨by rfl, ?_⟩) ?_
     rotate_left
     ·(intro w' hSw; (try dsimp only at hSw); obtain hSb0 := hSw; go_simp <;> with_reducible rfl)
     try simp only [Act.put, List.setIfInBounds_toArray, List.set_cons_zero, List.set_cons_succ]
     refine wpAnyF_keep (i := 4) (v := ?_) (by (simp only [List.getElem?_toArray, List.getElem?_cons_succ, List.getElem?_cons_zero]; rfl)) (by kernel_rfl) (by kernel_rfl) (by kernel_rfl) (by decide) (by exact fun _ _ _ h => h) ⟨hHeld.1, .inr hHeld.2⟩ (Or.inl ⟨by rfl, ?_⟩) ?_
     rotate_left
     ·(intro w' hSw; (try dsimp only at hSw); obtain ⟨hSa0, hSa1⟩ := hSw; go_simp <;> with_reducible rfl)
     try simp only [Act.put, List.setIfInBounds_toArray, List.set_cons_zero, List.set_cons_succ]
     refine wpAnyF_ready (rs := [0, 5]) (by kernel_rfl) (by simp) ?_
     refine AllReadyF.cons (by (simp only [List.getElem?_toArray, List.getElem?_cons_zero]; rfl)) (fun K hK => ?_) (AllReadyF.cons (by (simp only [List.getElem?_toArray, List.getElem?_cons_succ, List.getElem?_cons_zero]; rfl)) (fun K hK => ?_) AllReadyF.nil)
     ·have b_0 := bZ.alloc bZ.size (.cells #[] 83)
      have r_0 : (W1.drew.alloc (.cells #[] 83)).ownsRow W1.drew.heap.size 83 2 (.slice (some ⟨W1.drew.heap.size, 0, none⟩) 0 0) 0 [] := World.ownsRow_lit W1.drew #[] 0 bZ.size (by unfold maxLen; omega) rfl
      have kp_0 := kpZ.below b_0 kpZ.lt
      have kx_0 := kxZ.below b_0 kxZ.lt
      have a_0 := AC _ kp_0
      have s_0 := SC _ kx_0
      go_simp
      refine hK.out _ _ ⟨a_0, s_0⟩ (fun hNew => ?_)
      clear hK K hHeld
      have hHeld := hNew
      clear hNew
      try simp only [Act.put, List.setIfInBounds_toArray, List.set_cons_zero, List.set_cons_succ]
      refine wpAnyF_ready (rs := [3, 5]) (by kernel_rfl) (by simp) ?_
      refine AllReadyF.last (by (simp only [List.getElem?_toArray, List.getElem?_cons_succ, List.getElem?_cons_zero]; rfl)) (by kernel_rfl) (fun K hK => ?_) (AllReadyF.cons (by (simp only [List.getElem?_toArray, List.getElem?_cons_succ, List.getElem?_cons_zero]; rfl)) (fun K hK => ?_) AllReadyF.nil)
      ·have hri_ := (hri.below (b_0.mono (Nat.le_refl _)))
       refine step_append_rc _ (by rfl) (.tmp 43) (.tmp 45) 67 (by rfl) W1.drew.heap.size 83 i0 (.agg #[.int .i64 0, .int .i64 0]) 16 Try.underlying67 hi0 hz0 hz1 hz2 rfl (.slice (some ⟨W1.heap.size, 0, none⟩) 0 0) 0 ([]) (by rfl) r_0 (ai) (wids y.ids) di _ (by first | rfl | (rw [wids_length]; rfl)) hri_ (by unfold maxLen; rw [wids_length]; omega) (by rw [wids_length]; omega) b_0.size ?_
       intro v_03 w_03 o_03 g_03 t_03
       rw [wids_length, Nat.zero_add, List.nil_append] at o_03
       obtain ⟨D_03, d_03, hv_03⟩ := own_shape o_03
       subst hv_03
       have b_03 := b_0.grown g_03 b_0.size (fun kk hk_ => (r_0.lt kk hk_).1)
       have kp_03 := kpZ.below b_03 kpZ.lt
       have kx_03 := kxZ.below b_03 kxZ.lt
       have a_03 := AC _ kp_03
       refine hK.out _ _ a_03 ?_
       clear hK K
       try simp only [Act.put, List.setIfInBounds_toArray, List.set_cons_zero, List.set_cons_succ]
       refine wpAnyF_ready (rs := [5]) (by kernel_rfl) (by simp) ?_
       refine AllReadyF.last (by (simp only [List.getElem?_toArray, List.getElem?_cons_succ, List.getElem?_cons_zero]; rfl)) (by kernel_rfl) (fun K hK => ?_) AllReadyF.nil
       have b_035 := b_03.alloc b_03.size (.cells #[.int .i64 x.c, .int .i64 x.i] 83)
       have r_035 := o_03.alloc (.cells #[.int .i64 x.c, .int .i64 x.i] 83)
       have q_035 := Bk.new w_03 #[.int .i64 x.c, .int .i64 x.i] 83
       have kp_035 := kpZ.below b_035 kpZ.lt
       have kx_035 := kxZ.below b_035 kxZ.lt
       have a_035 := AC _ kp_035
       have s_035 := SC _ kx_035
       go_simp
       refine hK.out _ _ a_035 ?_
       clear hK K
       try simp only [Act.put, List.setIfInBounds_toArray, List.set_cons_zero, List.set_cons_succ]
       refine wpAnyF_ready (rs := [6]) (by kernel_rfl) (by simp) ?_
       refine AllReadyF.last (by (simp only [List.getElem?_toArray, List.getElem?_cons_succ, List.getElem?_cons_zero]; rfl)) (by kernel_rfl) (fun K hK => ?_) AllReadyF.nil
       have hq_ := RdC.of_bk q_035
       refine step_append_rc _ (by rfl) (.tmp 46) (.tmp 48) 67 (by rfl) W1.drew.heap.size 83 i0 (.agg #[.int .i64 0, .int .i64 0]) 16 Try.underlying67 hi0 hz0 hz1 hz2 rfl (.slice D_03 y.ids.length d_03) y.ids.length (cels (wids y.ids)) (by rfl) r_035 (some ⟨w_03.heap.size, 0, none⟩) ([⟨x.c, x.i⟩]) 1 _ (by first | rfl | (rw [wids_length]; rfl)) hq_ (by unfold maxLen; simp only [List.length_cons, List.length_nil]; omega) (by simp only [List.length_cons, List.length_nil]; omega) b_035.size ?_
       intro v_0356 w_0356 o_0356 g_0356 t_0356
       simp only [List.length_cons, List.length_nil, Nat.zero_add] at o_0356
       rw [wids_snoc] at o_0356
       obtain ⟨D_0356, d_0356, hv_0356⟩ := own_shape o_0356
       subst hv_0356
       have b_0356 := b_035.grown g_0356 b_035.size (fun kk hk_ => (r_035.lt kk hk_).1)
       have kp_0356 := kpZ.below b_0356 kpZ.lt
       have kx_0356 := kxZ.below b_0356 kxZ.lt
       have a_0356 := AC _ kp_0356
       refine hK.out _ _ a_0356 ?_
       clear hK K
       try simp only [Act.put, List.setIfInBounds_toArray, List.set_cons_zero, List.set_cons_succ]
       refine wpAnyF_take (i := 7) (v := ?_) (by (simp only [List.getElem?_toArray, List.getElem?_cons_succ, List.getElem?_cons_zero]; rfl)) (by kernel_rfl) (by kernel_rfl) (by kernel_rfl) (by decide) (by exact fun _ _ _ h => h) ⟨a_0356, .inl (by kernel_rfl)⟩ (Or.inl ⟨by rfl, ?_⟩) ?_
       rotate_left
       ·(intro w' _; go_simp <;> with_reducible rfl)
       try simp only [Act.put, List.setIfInBounds_toArray, List.set_cons_zero, List.set_cons_succ]
       have k8 := kx_0356.set_ 1 (.slice D_0356 (y.ids.length + 1) d_0356)
       have kp8 := kp_0356.far (p := ⟨wr.heap.size, 1, none⟩) hxp (.slice D_0356 (y.ids.length + 1) d_0356)
       have a8 := AC _ kp8
       have o8 : (w_0356.setCell ⟨wr.heap.size, 1, none⟩ (.slice D_0356 (y.ids.length + 1) d_0356)).ownsRow W1.drew.heap.size 83 2 (.slice D_0356 (y.ids.length + 1) d_0356) (y.ids.length + 1) (cels (wids (y.ids ++ [x]))) := o_0356.kept (grown_set w_0356 wr.heap.size 1 (.slice D_0356 (y.ids.length + 1) d_0356)) (own_sep fun bb hb e => by have := (o_0356.lt bb hb).1; simp only [Option.some.injEq] at e; omega)
       have bw8 := (bw.trans (b_0356.mono (by omega))).setCell (p := ⟨wr.heap.size, 1, none⟩) (Nat.le_refl _) (.slice D_0356 (y.ids.length + 1) d_0356)
       have xc8 := kx_0356.cell 1
       have xf8 := kx_0356.frozen 1
       refine wpAnyF_ready (rs := [8]) (by kernel_rfl) (by simp) ?_
       refine AllReadyF.last (by (simp only [List.getElem?_toArray, List.getElem?_cons_succ, List.getElem?_cons_zero]; rfl)) (by kernel_rfl) (fun K hK => ?_) AllReadyF.nil
       go_simp
       refine hK.out _ _ a8 ?_
       clear hK K
       try simp only [Act.put, List.setIfInBounds_toArray, List.set_cons_zero, List.set_cons_succ]
       refine wpAnyF_done (by kernel_rfl) ?_ _
       simp only [List.setIfInBounds_toArray, List.set_cons_zero, List.set_cons_succ] at k8
       have x0 := (k8.cell 0).trans (rfl : _ = some (Value.int .i64 y.a))
       have x1 := (k8.cell 1).trans (rfl : _ = some (Value.slice D_0356 (y.ids.length + 1) d_0356))
       have hP8 := hP.below bw8
       have HF8 := hide (fun (bb : Nat) (hb : (Value.slice D_0356 (y.ids.length + 1) d_0356).ownBlock = some bb) (u' : Value) (hu' : u' ∈ U) (e : u'.ownBlock = some bb) => (show False from by have h1 := (hP.own.bound u' hu' bb e).2; have h2 := (o_0356.lt bb hb).1; omega))
       have HS8 := hide (fun (bb : Nat) (hb : (Value.slice D_0356 (y.ids.length + 1) d_0356).ownBlock = some bb) => (show w.heap.size ≤ bb ∨ ∃ j u', j < k + 1 ∧ us[j]? = some u' ∧ u'.ownBlock = some bb from .inl (by have h2 := (o_0356.lt bb hb).1; omega)))
       have hL8 : (y.ids ++ [x]).length = y.ids.length + 1 := by simp
       have o9 := own_mono o8 (show base ≤ W1.drew.heap.size by have := hP.lo; omega)
       clear xc8 xf8 a8
       obtain ⟨W8, hW8⟩ : ∃ W8, W8 = (w_0356.setCell ⟨wr.heap.size, 1, none⟩ (.slice D_0356 (y.ids.length + 1) d_0356)) := ⟨_, rfl⟩
       rw [← hW8] at k8 kp8 o9 hP8 x0 x1
       have HW8 := hide hW8
       rw [← hW8]
       clear hW8
       go_upto_region 13 with fail
       have hP2 := hP8.alloc (Obj.cells #[.int .i64 y.a, .slice D_0356 (y.ids.length + 1) d_0356] 69)
       have kp2 := kp8.alloc (Obj.cells #[.int .i64 y.a, .slice D_0356 (y.ids.length + 1) d_0356] 69)
       have hr2 := o9.alloc (Obj.cells #[.int .i64 y.a, .slice D_0356 (y.ids.length + 1) d_0356] 69)
       have hr3 : (W8.alloc (Obj.cells #[.int .i64 y.a, .slice D_0356 (y.ids.length + 1) d_0356] 69)).ownsRow base 83 2 (.slice D_0356 (y.ids.length + 1) d_0356) (y.ids ++ [x]).length (cels (wids (y.ids ++ [x]))) := by rw [hL8]; exact hr2
       have hRv := RdV.two_new W8 (.int .i64 y.a) (.slice D_0356 (y.ids.length + 1) d_0356) 69
       go_wp2_with (at_builtin; refine wpList_append_rv _ rfl (.tmp 51) (.tmp 53) 27 rfl base 2 (by omega) 69 i1 (.agg #[.int .i64 0, .slice none 0 0]) 32 Try.underlying27 hj hy0 hy1 hy2 rfl (.slice Ao L.length co) L.length (wlR L U) rfl hP2.own.row (some ⟨W8.heap.size, 0, none⟩) [.int .i64 y.a, .slice D_0356 (y.ids.length + 1) d_0356] 1 1 _ rfl rfl (one2 _ _ _ _) hRv (by unfold maxLen; omega) (by omega) (Nat.le_trans hP2.lo hP2.old.size) ?_; intro v_l w_l o_l g_l t_l; have P_l := hP2.push (k' := k + 1) (x := ⟨y.a, y.ids ++ [x]⟩) (by omega) hr3 HF8.out HS8.out o_l g_l t_l; have kp_l := kp2.grown g_l (fun e => own_box hP2.own.row kp2 (by decide) e.symm); clear o_l g_l t_l hP2 kp2 hRv)
       go_roundw
       case rel => exact ⟨k + 1, true, _, _, by omega, by go_num, rfl, P_l, kp_l, HN⟩
       case measure => simp [intOf]; omega
      ·have b_05 := b_0.alloc b_0.size (.cells #[.int .i64 x.c, .int .i64 x.i] 83)
       have ez_05 : (W1.drew.alloc (.cells #[] 83)).heap.size = W1.heap.size + 1 := by simp
       have r_05 := r_0.alloc (.cells #[.int .i64 x.c, .int .i64 x.i] 83)
       have q_05 := Bk.new (W1.drew.alloc (.cells #[] 83)) #[.int .i64 x.c, .int .i64 x.i] 83
       rw [ez_05] at q_05
       have kp_05 := kpZ.below b_05 kpZ.lt
       have kx_05 := kxZ.below b_05 kxZ.lt
       have a_05 := AC _ kp_05
       have s_05 := SC _ kx_05
       go_simp
       refine hK.out _ _ ⟨a_05, s_05⟩ (fun hNew => ?_)
       clear ez_05
       clear hK K hHeld
       have hHeld := hNew
       clear hNew
       try simp only [Act.put, List.setIfInBounds_toArray, List.set_cons_zero, List.set_cons_succ]
       refine wpAnyF_ready (rs := [3]) (by kernel_rfl) (by simp) ?_
       refine AllReadyF.last (by (simp only [List.getElem?_toArray, List.getElem?_cons_succ, List.getElem?_cons_zero]; rfl)) (by kernel_rfl) (fun K hK => ?_) AllReadyF.nil
       have hri_ := (hri.below (b_05.mono (Nat.le_refl _)))
       refine step_append_rc _ (by rfl) (.tmp 43) (.tmp 45) 67 (by rfl) W1.drew.heap.size 83 i0 (.agg #[.int .i64 0, .int .i64 0]) 16 Try.underlying67 hi0 hz0 hz1 hz2 rfl (.slice (some ⟨W1.heap.size, 0, none⟩) 0 0) 0 ([]) (by rfl) r_05 (ai) (wids y.ids) di _ (by first | rfl | (rw [wids_length]; rfl)) hri_ (by unfold maxLen; rw [wids_length]; omega) (by rw [wids_length]; omega) b_05.size ?_
       intro v_053 w_053 o_053 g_053 t_053
       rw [wids_length, Nat.zero_add, List.nil_append] at o_053
       obtain ⟨D_053, d_053, hv_053⟩ := own_shape o_053
       subst hv_053
       have b_053 := b_05.grown g_053 b_05.size (fun kk hk_ => (r_05.lt kk hk_).1)
       have q_053 := q_05.grown g_053 (fun e => by simp only [Value.ownBlock, Option.some.injEq] at e; simp at e)
       have kp_053 := kpZ.below b_053 kpZ.lt
       have kx_053 := kxZ.below b_053 kxZ.lt
       have a_053 := AC _ kp_053
       refine hK.out _ _ a_053 ?_
       clear hK K
       try simp only [Act.put, List.setIfInBounds_toArray, List.set_cons_zero, List.set_cons_succ]
       refine wpAnyF_ready (rs := [6]) (by kernel_rfl) (by simp) ?_
       refine AllReadyF.last (by (simp only [List.getElem?_toArray, List.getElem?_cons_succ, List.getElem?_cons_zero]; rfl)) (by kernel_rfl) (fun K hK => ?_) AllReadyF.nil
       have hq_ := RdC.of_bk q_053
       refine step_append_rc _ (by rfl) (.tmp 46) (.tmp 48) 67 (by rfl) W1.drew.heap.size 83 i0 (.agg #[.int .i64 0, .int .i64 0]) 16 Try.underlying67 hi0 hz0 hz1 hz2 rfl (.slice D_053 y.ids.length d_053) y.ids.length (cels (wids y.ids)) (by rfl) o_053 (some ⟨W1.heap.size + 1, 0, none⟩) ([⟨x.c, x.i⟩]) 1 _ (by first | rfl | (rw [wids_length]; rfl)) hq_ (by unfold maxLen; simp only [List.length_cons, List.length_nil]; omega) (by simp only [List.length_cons, List.length_nil]; omega) b_053.size ?_
       intro v_0536 w_0536 o_0536 g_0536 t_0536
       simp only [List.length_cons, List.length_nil, Nat.zero_add] at o_0536
       rw [wids_snoc] at o_0536
       obtain ⟨D_0536, d_0536, hv_0536⟩ := own_shape o_0536
       subst hv_0536
       have b_0536 := b_053.grown g_0536 b_053.size (fun kk hk_ => (o_053.lt kk hk_).1)
       have kp_0536 := kpZ.below b_0536 kpZ.lt
       have kx_0536 := kxZ.below b_0536 kxZ.lt
       have a_0536 := AC _ kp_0536
       refine hK.out _ _ a_0536 ?_
       clear hK K
       try simp only [Act.put, List.setIfInBounds_toArray, List.set_cons_zero, List.set_cons_succ]
       refine wpAnyF_take (i := 7) (v := ?_) (by (simp only [List.getElem?_toArray, List.getElem?_cons_succ, List.getElem?_cons_zero]; rfl)) (by kernel_rfl) (by kernel_rfl) (by kernel_rfl) (by decide) (by exact fun _ _ _ h => h) ⟨a_0536, .inl (by kernel_rfl)⟩ (Or.inl ⟨by rfl, ?_⟩) ?_
       rotate_left
       ·(intro w' _; go_simp <;> with_reducible rfl)
       try simp only [Act.put, List.setIfInBounds_toArray, List.set_cons_zero, List.set_cons_succ]
       have k8 := kx_0536.set_ 1 (.slice D_0536 (y.ids.length + 1) d_0536)
       have kp8 := kp_0536.far (p := ⟨wr.heap.size, 1, none⟩) hxp (.slice D_0536 (y.ids.length + 1) d_0536)
       have a8 := AC _ kp8
       have o8 : (w_0536.setCell ⟨wr.heap.size, 1, none⟩ (.slice D_0536 (y.ids.length + 1) d_0536)).ownsRow W1.drew.heap.size 83 2 (.slice D_0536 (y.ids.length + 1) d_0536) (y.ids.length + 1) (cels (wids (y.ids ++ [x]))) := o_0536.kept (grown_set w_0536 wr.heap.size 1 (.slice D_0536 (y.ids.length + 1) d_0536)) (own_sep fun bb hb e => by have := (o_0536.lt bb hb).1; simp only [Option.some.injEq] at e; omega)
       have bw8 := (bw.trans (b_0536.mono (by omega))).setCell (p := ⟨wr.heap.size, 1, none⟩) (Nat.le_refl _) (.slice D_0536 (y.ids.length + 1) d_0536)
       have xc8 := kx_0536.cell 1
       have xf8 := kx_0536.frozen 1
       refine wpAnyF_ready (rs := [8]) (by kernel_rfl) (by simp) ?_
       refine AllReadyF.last (by (simp only [List.getElem?_toArray, List.getElem?_cons_succ, List.getElem?_cons_zero]; rfl)) (by kernel_rfl) (fun K hK => ?_) AllReadyF.nil
       go_simp
       refine hK.out _ _ a8 ?_
       clear hK K
       try simp only [Act.put, List.setIfInBounds_toArray, List.set_cons_zero, List.set_cons_succ]
       refine wpAnyF_done (by kernel_rfl) ?_ _
       simp only [List.setIfInBounds_toArray, List.set_cons_zero, List.set_cons_succ] at k8
       have x0 := (k8.cell 0).trans (rfl : _ = some (Value.int .i64 y.a))
       have x1 := (k8.cell 1).trans (rfl : _ = some (Value.slice D_0536 (y.ids.length + 1) d_0536))
       have hP8 := hP.below bw8
       have HF8 := hide (fun (bb : Nat) (hb : (Value.slice D_0536 (y.ids.length + 1) d_0536).ownBlock = some bb) (u' : Value) (hu' : u' ∈ U) (e : u'.ownBlock = some bb) => (show False from by have h1 := (hP.own.bound u' hu' bb e).2; have h2 := (o_0536.lt bb hb).1; omega))
       have HS8 := hide (fun (bb : Nat) (hb : (Value.slice D_0536 (y.ids.length + 1) d_0536).ownBlock = some bb) => (show w.heap.size ≤ bb ∨ ∃ j u', j < k + 1 ∧ us[j]? = some u' ∧ u'.ownBlock = some bb from .inl (by have h2 := (o_0536.lt bb hb).1; omega)))
       have hL8 : (y.ids ++ [x]).length = y.ids.length + 1 := by simp
       have o9 := own_mono o8 (show base ≤ W1.drew.heap.size by have := hP.lo; omega)
       clear xc8 xf8 a8
       obtain ⟨W8, hW8⟩ : ∃ W8, W8 = (w_0536.setCell ⟨wr.heap.size, 1, none⟩ (.slice D_0536 (y.ids.length + 1) d_0536)) := ⟨_, rfl⟩
       rw [← hW8] at k8 kp8 o9 hP8 x0 x1
       have HW8 := hide hW8
       rw [← hW8]
       clear hW8
       go_upto_region 13 with fail
       have hP2 := hP8.alloc (Obj.cells #[.int .i64 y.a, .slice D_0536 (y.ids.length + 1) d_0536] 69)
       have kp2 := kp8.alloc (Obj.cells #[.int .i64 y.a, .slice D_0536 (y.ids.length + 1) d_0536] 69)
       have hr2 := o9.alloc (Obj.cells #[.int .i64 y.a, .slice D_0536 (y.ids.length + 1) d_0536] 69)
       have hr3 : (W8.alloc (Obj.cells #[.int .i64 y.a, .slice D_0536 (y.ids.length + 1) d_0536] 69)).ownsRow base 83 2 (.slice D_0536 (y.ids.length + 1) d_0536) (y.ids ++ [x]).length (cels (wids (y.ids ++ [x]))) := by rw [hL8]; exact hr2
       have hRv := RdV.two_new W8 (.int .i64 y.a) (.slice D_0536 (y.ids.length + 1) d_0536) 69
       go_wp2_with (at_builtin; refine wpList_append_rv _ rfl (.tmp 51) (.tmp 53) 27 rfl base 2 (by omega) 69 i1 (.agg #[.int .i64 0, .slice none 0 0]) 32 Try.underlying27 hj hy0 hy1 hy2 rfl (.slice Ao L.length co) L.length (wlR L U) rfl hP2.own.row (some ⟨W8.heap.size, 0, none⟩) [.int .i64 y.a, .slice D_0536 (y.ids.length + 1) d_0536] 1 1 _ rfl rfl (one2 _ _ _ _) hRv (by unfold maxLen; omega) (by omega) (Nat.le_trans hP2.lo hP2.old.size) ?_; intro v_l w_l o_l g_l t_l; have P_l := hP2.push (k' := k + 1) (x := ⟨y.a, y.ids ++ [x]⟩) (by omega) hr3 HF8.out HS8.out o_l g_l t_l; have kp_l := kp2.grown g_l (fun e => own_box hP2.own.row kp2 (by decide) e.symm); clear o_l g_l t_l hP2 kp2 hRv)
       go_roundw
       case rel => exact ⟨k + 1, true, _, _, by omega, by go_num, rfl, P_l, kp_l, HN⟩
       case measure => simp [intOf]; omega
     ·have b_5 := bZ.alloc bZ.size (.cells #[.int .i64 x.c, .int .i64 x.i] 83)
      have q_5 := Bk.new W1.drew #[.int .i64 x.c, .int .i64 x.i] 83
      have kp_5 := kpZ.below b_5 kpZ.lt
      have kx_5 := kxZ.below b_5 kxZ.lt
      have a_5 := AC _ kp_5
      have s_5 := SC _ kx_5
      go_simp
      refine hK.out _ _ ⟨a_5, s_5⟩ (fun hNew => ?_)
      clear hK K hHeld
      have hHeld := hNew
      clear hNew
      try simp only [Act.put, List.setIfInBounds_toArray, List.set_cons_zero, List.set_cons_succ]
      refine wpAnyF_ready (rs := [0]) (by kernel_rfl) (by simp) ?_
      refine AllReadyF.cons (by (simp only [List.getElem?_toArray, List.getElem?_cons_zero]; rfl)) (fun K hK => ?_) AllReadyF.nil
      have b_50 := b_5.alloc b_5.size (.cells #[] 83)
      have ez_50 : (W1.drew.alloc (.cells #[.int .i64 x.c, .int .i64 x.i] 83)).heap.size = W1.heap.size + 1 := by simp
      have r_50 : ((W1.drew.alloc (.cells #[.int .i64 x.c, .int .i64 x.i] 83)).alloc (.cells #[] 83)).ownsRow W1.drew.heap.size 83 2 (.slice (some ⟨(W1.drew.alloc (.cells #[.int .i64 x.c, .int .i64 x.i] 83)).heap.size, 0, none⟩) 0 0) 0 [] := World.ownsRow_lit (W1.drew.alloc (.cells #[.int .i64 x.c, .int .i64 x.i] 83)) #[] 0 b_5.size (by unfold maxLen; omega) rfl
      rw [ez_50] at r_50
      have q_50 := q_5.alloc (.cells #[] 83)
      have kp_50 := kpZ.below b_50 kpZ.lt
      have kx_50 := kxZ.below b_50 kxZ.lt
      have a_50 := AC _ kp_50
      have s_50 := SC _ kx_50
      go_simp
      refine hK.out _ _ ⟨a_50, s_50⟩ (fun hNew => ?_)
      clear ez_50
      clear hK K hHeld
      have hHeld := hNew
      clear hNew
      try simp only [Act.put, List.setIfInBounds_toArray, List.set_cons_zero, List.set_cons_succ]
      refine wpAnyF_ready (rs := [3]) (by kernel_rfl) (by simp) ?_
      refine AllReadyF.last (by (simp only [List.getElem?_toArray, List.getElem?_cons_succ, List.getElem?_cons_zero]; rfl)) (by kernel_rfl) (fun K hK => ?_) AllReadyF.nil
      have hri_ := (hri.below (b_50.mono (Nat.le_refl _)))
      refine step_append_rc _ (by rfl) (.tmp 43) (.tmp 45) 67 (by rfl) W1.drew.heap.size 83 i0 (.agg #[.int .i64 0, .int .i64 0]) 16 Try.underlying67 hi0 hz0 hz1 hz2 rfl (.slice (some ⟨W1.heap.size + 1, 0, none⟩) 0 0) 0 ([]) (by rfl) r_50 (ai) (wids y.ids) di _ (by first | rfl | (rw [wids_length]; rfl)) hri_ (by unfold maxLen; rw [wids_length]; omega) (by rw [wids_length]; omega) b_50.size ?_
      intro v_503 w_503 o_503 g_503 t_503
      rw [wids_length, Nat.zero_add, List.nil_append] at o_503
      obtain ⟨D_503, d_503, hv_503⟩ := own_shape o_503
      subst hv_503
      have b_503 := b_50.grown g_503 b_50.size (fun kk hk_ => (r_50.lt kk hk_).1)
      have q_503 := q_50.grown g_503 (fun e => by simp only [Value.ownBlock, Option.some.injEq] at e; simp at e)
      have kp_503 := kpZ.below b_503 kpZ.lt
      have kx_503 := kxZ.below b_503 kxZ.lt
      have a_503 := AC _ kp_503
      refine hK.out _ _ a_503 ?_
      clear hK K
      try simp only [Act.put, List.setIfInBounds_toArray, List.set_cons_zero, List.set_cons_succ]
      refine wpAnyF_ready (rs := [6]) (by kernel_rfl) (by simp) ?_
      refine AllReadyF.last (by (simp only [List.getElem?_toArray, List.getElem?_cons_succ, List.getElem?_cons_zero]; rfl)) (by kernel_rfl) (fun K hK => ?_) AllReadyF.nil
      have hq_ := RdC.of_bk q_503
      refine step_append_rc _ (by rfl) (.tmp 46) (.tmp 48) 67 (by rfl) W1.drew.heap.size 83 i0 (.agg #[.int .i64 0, .int .i64 0]) 16 Try.underlying67 hi0 hz0 hz1 hz2 rfl (.slice D_503 y.ids.length d_503) y.ids.length (cels (wids y.ids)) (by rfl) o_503 (some ⟨W1.heap.size, 0, none⟩) ([⟨x.c, x.i⟩]) 1 _ (by first | rfl | (rw [wids_length]; rfl)) hq_ (by unfold maxLen; simp only [List.length_cons, List.length_nil]; omega) (by simp only [List.length_cons, List.length_nil]; omega) b_503.size ?_
      intro v_5036 w_5036 o_5036 g_5036 t_5036
      simp only [List.length_cons, List.length_nil, Nat.zero_add] at o_5036
      rw [wids_snoc] at o_5036
      obtain ⟨D_5036, d_5036, hv_5036⟩ := own_shape o_5036
      subst hv_5036
      have b_5036 := b_503.grown g_5036 b_503.size (fun kk hk_ => (o_503.lt kk hk_).1)
      have kp_5036 := kpZ.below b_5036 kpZ.lt
      have kx_5036 := kxZ.below b_5036 kxZ.lt
      have a_5036 := AC _ kp_5036
      refine hK.out _ _ a_5036 ?_
      clear hK K
      try simp only [Act.put, List.setIfInBounds_toArray, List.set_cons_zero, List.set_cons_succ]
      refine wpAnyF_take (i := 7) (v := ?_) (by (simp only [List.getElem?_toArray, List.getElem?_cons_succ, List.getElem?_cons_zero]; rfl)) (by kernel_rfl) (by kernel_rfl) (by kernel_rfl) (by decide) (by exact fun _ _ _ h => h) ⟨a_5036, .inl (by kernel_rfl)⟩ (Or.inl ⟨by rfl, ?_⟩) ?_
      rotate_left
      ·(intro w' _; go_simp <;> with_reducible rfl)
      try simp only [Act.put, List.setIfInBounds_toArray, List.set_cons_zero, List.set_cons_succ]
      have k8 := kx_5036.set_ 1 (.slice D_5036 (y.ids.length + 1) d_5036)
      have kp8 := kp_5036.far (p := ⟨wr.heap.size, 1, none⟩) hxp (.slice D_5036 (y.ids.length + 1) d_5036)
      have a8 := AC _ kp8
      have o8 : (w_5036.setCell ⟨wr.heap.size, 1, none⟩ (.slice D_5036 (y.ids.length + 1) d_5036)).ownsRow W1.drew.heap.size 83 2 (.slice D_5036 (y.ids.length + 1) d_5036) (y.ids.length + 1) (cels (wids (y.ids ++ [x]))) := o_5036.kept (grown_set w_5036 wr.heap.size 1 (.slice D_5036 (y.ids.length + 1) d_5036)) (own_sep fun bb hb e => by have := (o_5036.lt bb hb).1; simp only [Option.some.injEq] at e; omega)
      have bw8 := (bw.trans (b_5036.mono (by omega))).setCell (p := ⟨wr.heap.size, 1, none⟩) (Nat.le_refl _) (.slice D_5036 (y.ids.length + 1) d_5036)
      have xc8 := kx_5036.cell 1
      have xf8 := kx_5036.frozen 1
      refine wpAnyF_ready (rs := [8]) (by kernel_rfl) (by simp) ?_
      refine AllReadyF.last (by (simp only [List.getElem?_toArray, List.getElem?_cons_succ, List.getElem?_cons_zero]; rfl)) (by kernel_rfl) (fun K hK => ?_) AllReadyF.nil
      go_simp
      refine hK.out _ _ a8 ?_
      clear hK K
      try simp only [Act.put, List.setIfInBounds_toArray, List.set_cons_zero, List.set_cons_succ]
      refine wpAnyF_done (by kernel_rfl) ?_ _
      simp only [List.setIfInBounds_toArray, List.set_cons_zero, List.set_cons_succ] at k8
      have x0 := (k8.cell 0).trans (rfl : _ = some (Value.int .i64 y.a))
      have x1 := (k8.cell 1).trans (rfl : _ = some (Value.slice D_5036 (y.ids.length + 1) d_5036))
      have hP8 := hP.below bw8
      have HF8 := hide (fun (bb : Nat) (hb : (Value.slice D_5036 (y.ids.length + 1) d_5036).ownBlock = some bb) (u' : Value) (hu' : u' ∈ U) (e : u'.ownBlock = some bb) => (show False from by have h1 := (hP.own.bound u' hu' bb e).2; have h2 := (o_5036.lt bb hb).1; omega))
      have HS8 := hide (fun (bb : Nat) (hb : (Value.slice D_5036 (y.ids.length + 1) d_5036).ownBlock = some bb) => (show w.heap.size ≤ bb ∨ ∃ j u', j < k + 1 ∧ us[j]? = some u' ∧ u'.ownBlock = some bb from .inl (by have h2 := (o_5036.lt bb hb).1; omega)))
      have hL8 : (y.ids ++ [x]).length = y.ids.length + 1 := by simp
      have o9 := own_mono o8 (show base ≤ W1.drew.heap.size by have := hP.lo; omega)
      clear xc8 xf8 a8
      obtain ⟨W8, hW8⟩ : ∃ W8, W8 = (w_5036.setCell ⟨wr.heap.size, 1, none⟩ (.slice D_5036 (y.ids.length + 1) d_5036)) := ⟨_, rfl⟩
      rw [← hW8] at k8 kp8 o9 hP8 x0 x1
      have HW8 := hide hW8
      rw [← hW8]
      clear hW8
      go_upto_region 13 with fail
      have hP2 := hP8.alloc (Obj.cells #[.int .i64 y.a, .slice D_5036 (y.ids.length + 1) d_5036] 69)
      have kp2 := kp8.alloc (Obj.cells #[.int .i64 y.a, .slice D_5036 (y.ids.length + 1) d_5036] 69)
      have hr2 := o9.alloc (Obj.cells #[.int .i64 y.a, .slice D_5036 (y.ids.length + 1) d_5036] 69)
      have hr3 : (W8.alloc (Obj.cells #[.int .i64 y.a, .slice D_5036 (y.ids.length + 1) d_5036] 69)).ownsRow base 83 2 (.slice D_5036 (y.ids.length + 1) d_5036) (y.ids ++ [x]).length (cels (wids (y.ids ++ [x]))) := by rw [hL8]; exact hr2
      have hRv := RdV.two_new W8 (.int .i64 y.a) (.slice D_5036 (y.ids.length + 1) d_5036) 69
      go_wp2_with (at_builtin; refine wpList_append_rv _ rfl (.tmp 51) (.tmp 53) 27 rfl base 2 (by omega) 69 i1 (.agg #[.int .i64 0, .slice none 0 0]) 32 Try.underlying27 hj hy0 hy1 hy2 rfl (.slice Ao L.length co) L.length (wlR L U) rfl hP2.own.row (some ⟨W8.heap.size, 0, none⟩) [.int .i64 y.a, .slice D_5036 (y.ids.length + 1) d_5036] 1 1 _ rfl rfl (one2 _ _ _ _) hRv (by unfold maxLen; omega) (by omega) (Nat.le_trans hP2.lo hP2.old.size) ?_; intro v_l w_l o_l g_l t_l; have P_l := hP2.push (k' := k + 1) (x := ⟨y.a, y.ids ++ [x]⟩) (by omega) hr3 HF8.out HS8.out o_l g_l t_l; have kp_l := kp2.grown g_l (fun e => own_box hP2.own.row kp2 (by decide) e.symm); clear o_l g_l t_l hP2 kp2 hRv)
      go_roundw
      case rel => exact ⟨k + 1, true, _, _, by omega, by go_num, rfl, P_l, kp_l, HN⟩
      case measure => simp [intOf]; omega
    ·exact absurd (by rw [← HY.out]; exact ha) (HP.out.done hr hlt).1
   ·have f0 : (y.a == a) = false := beq_eq_false_iff_ne.2 ha
    cases d
    ·by_cases hlow : a < y.a
     ·have g0 : decide (a < y.a) = true := decide_eq_true hlow
      have HN := hide (show PreW a x os (k + 1) true (L ++ [⟨a, [x]⟩] ++ [y]) from by rw [HY.out]; exact HP.out.fresh hlt (by rw [← HY.out]; exact hlow))
      have p0 := (kp.cell 0).trans (rfl : _ = some (Value.int .i64 x.c))
      have p1 := (kp.cell 1).trans (rfl : _ = some (Value.int .i64 x.i))
      go_upto_region 7 with fail
      obtain ⟨Wn, hWn⟩ : ∃ Wn, Wn = wr.alloc (Obj.cells #[.int .i64 x.c, .int .i64 x.i] 83) := ⟨_, rfl⟩
      have hn : Wn.ownsRow base 83 2 (.slice (some ⟨wr.heap.size, 0, none⟩) 1 1) 1 (cels (wids [x])) := by rw [hWn]; exact own_lit1 wr base x (Nat.le_trans hP.lo hP.old.size)
      have hPn := hP.alloc (Obj.cells #[.int .i64 x.c, .int .i64 x.i] 83)
      rw [← hWn] at hPn
      have kpn := kp.alloc (Obj.cells #[.int .i64 x.c, .int .i64 x.i] 83)
      rw [← hWn] at kpn
      have hnn := hn.alloc (Obj.cells #[.int .i64 a, .slice (some ⟨wr.heap.size, 0, none⟩) 1 1] 69)
      have hPnn := hPn.alloc (Obj.cells #[.int .i64 a, .slice (some ⟨wr.heap.size, 0, none⟩) 1 1] 69)
      have kpnn := kpn.alloc (Obj.cells #[.int .i64 a, .slice (some ⟨wr.heap.size, 0, none⟩) 1 1] 69)
      have hRv := RdV.two_new Wn (.int .i64 a) (.slice (some ⟨wr.heap.size, 0, none⟩) 1 1) 69
      have hFn := hide (fun (b : Nat) (hb : (Value.slice (some ⟨wr.heap.size, 0, none⟩) 1 1).ownBlock = some b) (u' : Value) (hu' : u' ∈ U) (e : u'.ownBlock = some b) => (show False from by have := (hP.own.bound u' hu' b e).2; simp only [Value.ownBlock, Option.some.injEq] at hb; omega))
      have hSn := hide (fun (b : Nat) (hb : (Value.slice (some ⟨wr.heap.size, 0, none⟩) 1 1).ownBlock = some b) => (show w.heap.size ≤ b ∨ ∃ j u', j < k ∧ us[j]? = some u' ∧ u'.ownBlock = some b from .inl (by have := hP.old.size; simp only [Value.ownBlock, Option.some.injEq] at hb; omega)))
      have HWn := hide hWn
      clear hWn hn hPn kpn
      go_upto_region 9 with (first | rw [← HWn.out] | (at_builtin; refine wpList_append_rv _ rfl (.tmp 28) (.tmp 33) 27 rfl base 2 (by omega) 69 i1 (.agg #[.int .i64 0, .slice none 0 0]) 32 Try.underlying27 hj hy0 hy1 hy2 rfl (.slice Ao L.length co) L.length (wlR L U) rfl hPnn.own.row (some ⟨Wn.heap.size, 0, none⟩) [.int .i64 a, .slice (some ⟨wr.heap.size, 0, none⟩) 1 1] 1 1 _ rfl rfl (one2 _ _ _ _) hRv (by unfold maxLen; omega) (by omega) (Nat.le_trans hPnn.lo hPnn.old.size) ?_; intro v_n w_n o_n g_n t_n; have P_n := hPnn.push (k' := k) (x := ⟨a, [x]⟩) (by omega) hnn hFn.out hSn.out o_n g_n t_n; have kp_n := kpnn.grown g_n (fun e => own_box hPnn.own.row kpnn (by decide) e.symm); clear o_n g_n t_n hPnn kpnn hRv))
      obtain ⟨An, cn, hvn⟩ := own_shape P_n.own.row
      subst hvn
      have hcc := (HO.out w_n P_n.old).get hlt
      obtain ⟨gv2, ai2, di2, hA2, hui2, d0, d1, hr9⟩ := hcc
      cases hA2
      rw [← HY.out] at hui2 d0 d1 hr9
      rw [hui] at hui2
      cases hui2
      have HF2 := hide (fun (b : Nat) (hb : (Value.slice ai y.ids.length di).ownBlock = some b) (u' : Value) (hu' : u' ∈ (U ++ [Value.slice (some ⟨wr.heap.size, 0, none⟩) 1 1])) => (show u'.ownBlock ≠ some b from fun e => by
       rcases List.mem_append.1 hu' with hu' | hu'
       ·exact hF.out u' hu' b hb e
       ·rw [List.mem_singleton] at hu'; subst hu'; have := HUS.out _ (List.mem_of_getElem? hui) b hb; simp only [Value.ownBlock, Option.some.injEq] at e; omega))
      have hLn : (L ++ [(⟨a, [x]⟩ : Wls)]).length = L.length + 1 := by simp
      clear c0 c1 hru
      obtain ⟨W1, hW1⟩ : ∃ W1, W1 = w_n.alloc (Obj.cells #[.int .i64 y.a, .slice ai y.ids.length di] 69) := ⟨_, rfl⟩
      have kx : Bk W1 w_n.heap.size #[.int .i64 y.a, .slice ai y.ids.length di] 69 := by rw [hW1]; exact Bk.new _ _ _
      have hP1 := P_n.alloc (Obj.cells #[.int .i64 y.a, .slice ai y.ids.length di] 69)
      rw [← hW1] at hP1
      have kp1 := kp_n.alloc (Obj.cells #[.int .i64 y.a, .slice ai y.ids.length di] 69)
      rw [← hW1] at kp1
      have hr1 := hr9.alloc (Obj.cells #[.int .i64 y.a, .slice ai y.ids.length di] 69)
      rw [← hW1] at hr1
      have x0 := (kx.cell 0).trans (rfl : _ = some (Value.int .i64 y.a))
      have x1 := (kx.cell 1).trans (rfl : _ = some (Value.slice ai y.ids.length di))
      have HW1 := hide hW1
      clear hW1
      go_upto_region 13 with fail
      rw [← HW1.out]
      have hP2 := hP1.alloc (Obj.cells #[.int .i64 y.a, .slice ai y.ids.length di] 69)
      have kp2 := kp1.alloc (Obj.cells #[.int .i64 y.a, .slice ai y.ids.length di] 69)
      have hr2 := hr1.alloc (Obj.cells #[.int .i64 y.a, .slice ai y.ids.length di] 69)
      have hRv := RdV.two_new W1 (.int .i64 y.a) (.slice ai y.ids.length di) 69
      clear hP1 kp1 hr1
      go_wp2_with (at_builtin; refine wpList_append_rv _ rfl (.tmp 51) (.tmp 53) 27 rfl base 2 (by omega) 69 i1 (.agg #[.int .i64 0, .slice none 0 0]) 32 Try.underlying27 hj hy0 hy1 hy2 rfl (.slice An (L ++ [(⟨a, [x]⟩ : Wls)]).length cn) (L ++ [(⟨a, [x]⟩ : Wls)]).length (wlR (L ++ [(⟨a, [x]⟩ : Wls)]) (U ++ [Value.slice (some ⟨wr.heap.size, 0, none⟩) 1 1])) rfl hP2.own.row (some ⟨W1.heap.size, 0, none⟩) [.int .i64 y.a, .slice ai y.ids.length di] 1 1 _ rfl rfl (one2 _ _ _ _) hRv (by unfold maxLen; omega) (by omega) (Nat.le_trans hP2.lo hP2.old.size) ?_; intro v_l w_l o_l g_l t_l; have P_l := hP2.push (k' := k + 1) (x := y) (by omega) hr2 HF2.out hS.out o_l g_l t_l; have kp_l := kp2.grown g_l (fun e => own_box hP2.own.row kp2 (by decide) e.symm); clear o_l g_l t_l hP2 kp2 hRv)
      go_roundw
      case rel => exact ⟨k + 1, true, _, _, by omega, by go_num, rfl, P_l, kp_l, HN⟩
      case measure => simp [intOf]; omega
     ·have g0 : decide (a < y.a) = false := decide_eq_false hlow
      have HN := hide (show PreW a x os (k + 1) false (L ++ [y]) from by rw [HY.out]; exact HP.out.low hlt (by rw [← HY.out]; omega))
      have HF2 := hide (fun (b : Nat) (hb : (Value.slice ai y.ids.length di).ownBlock = some b) (u' : Value) (hu' : u' ∈ U) => (show u'.ownBlock ≠ some b from fun e => hF.out u' hu' b hb e))
      obtain ⟨W1, hW1⟩ : ∃ W1, W1 = wr.alloc (Obj.cells #[.int .i64 y.a, .slice ai y.ids.length di] 69) := ⟨_, rfl⟩
      have kx : Bk W1 wr.heap.size #[.int .i64 y.a, .slice ai y.ids.length di] 69 := by rw [hW1]; exact Bk.new _ _ _
      have hP1 := hP.alloc (Obj.cells #[.int .i64 y.a, .slice ai y.ids.length di] 69)
      rw [← hW1] at hP1
      have kp1 := kp.alloc (Obj.cells #[.int .i64 y.a, .slice ai y.ids.length di] 69)
      rw [← hW1] at kp1
      have hr1 := hru.alloc (Obj.cells #[.int .i64 y.a, .slice ai y.ids.length di] 69)
      rw [← hW1] at hr1
      have x0 := (kx.cell 0).trans (rfl : _ = some (Value.int .i64 y.a))
      have x1 := (kx.cell 1).trans (rfl : _ = some (Value.slice ai y.ids.length di))
      have HW1 := hide hW1
      clear hW1
      go_upto_region 13 with fail
      rw [← HW1.out]
      have hP2 := hP1.alloc (Obj.cells #[.int .i64 y.a, .slice ai y.ids.length di] 69)
      have kp2 := kp1.alloc (Obj.cells #[.int .i64 y.a, .slice ai y.ids.length di] 69)
      have hr2 := hr1.alloc (Obj.cells #[.int .i64 y.a, .slice ai y.ids.length di] 69)
      have hRv := RdV.two_new W1 (.int .i64 y.a) (.slice ai y.ids.length di) 69
      clear hP1 kp1 hr1
      go_wp2_with (at_builtin; refine wpList_append_rv _ rfl (.tmp 51) (.tmp 53) 27 rfl base 2 (by omega) 69 i1 (.agg #[.int .i64 0, .slice none 0 0]) 32 Try.underlying27 hj hy0 hy1 hy2 rfl (.slice Ao L.length co) L.length (wlR L U) rfl hP2.own.row (some ⟨W1.heap.size, 0, none⟩) [.int .i64 y.a, .slice ai y.ids.length di] 1 1 _ rfl rfl (one2 _ _ _ _) hRv (by unfold maxLen; omega) (by omega) (Nat.le_trans hP2.lo hP2.old.size) ?_; intro v_l w_l o_l g_l t_l; have P_l := hP2.push (k' := k + 1) (x := y) (by omega) hr2 HF2.out hS.out o_l g_l t_l; have kp_l := kp2.grown g_l (fun e => own_box hP2.own.row kp2 (by decide) e.symm); clear o_l g_l t_l hP2 kp2 hRv)
      go_roundw
      case rel => exact ⟨k + 1, false, _, _, by omega, by go_num, rfl, P_l, kp_l, HN⟩
      case measure => simp [intOf]; omega
    ·have HN := hide (show PreW a x os (k + 1) true (L ++ [y]) from by rw [HY.out]; exact (HP.out.done hr hlt).2)
     have HF2 := hide (fun (b : Nat) (hb : (Value.slice ai y.ids.length di).ownBlock = some b) (u' : Value) (hu' : u' ∈ U) => (show u'.ownBlock ≠ some b from fun e => hF.out u' hu' b hb e))
     obtain ⟨W1, hW1⟩ : ∃ W1, W1 = wr.alloc (Obj.cells #[.int .i64 y.a, .slice ai y.ids.length di] 69) := ⟨_, rfl⟩
     have kx : Bk W1 wr.heap.size #[.int .i64 y.a, .slice ai y.ids.length di] 69 := by rw [hW1]; exact Bk.new _ _ _
     have hP1 := hP.alloc (Obj.cells #[.int .i64 y.a, .slice ai y.ids.length di] 69)
     rw [← hW1] at hP1
     have kp1 := kp.alloc (Obj.cells #[.int .i64 y.a, .slice ai y.ids.length di] 69)
     rw [← hW1] at kp1
     have hr1 := hru.alloc (Obj.cells #[.int .i64 y.a, .slice ai y.ids.length di] 69)
     rw [← hW1] at hr1
     have x0 := (kx.cell 0).trans (rfl : _ = some (Value.int .i64 y.a))
     have x1 := (kx.cell 1).trans (rfl : _ = some (Value.slice ai y.ids.length di))
     have HW1 := hide hW1
     clear hW1
     go_upto_region 13 with fail
     rw [← HW1.out]
     have hP2 := hP1.alloc (Obj.cells #[.int .i64 y.a, .slice ai y.ids.length di] 69)
     have kp2 := kp1.alloc (Obj.cells #[.int .i64 y.a, .slice ai y.ids.length di] 69)
     have hr2 := hr1.alloc (Obj.cells #[.int .i64 y.a, .slice ai y.ids.length di] 69)
     have hRv := RdV.two_new W1 (.int .i64 y.a) (.slice ai y.ids.length di) 69
     clear hP1 kp1 hr1
     go_wp2_with (at_builtin; refine wpList_append_rv _ rfl (.tmp 51) (.tmp 53) 27 rfl base 2 (by omega) 69 i1 (.agg #[.int .i64 0, .slice none 0 0]) 32 Try.underlying27 hj hy0 hy1 hy2 rfl (.slice Ao L.length co) L.length (wlR L U) rfl hP2.own.row (some ⟨W1.heap.size, 0, none⟩) [.int .i64 y.a, .slice ai y.ids.length di] 1 1 _ rfl rfl (one2 _ _ _ _) hRv (by unfold maxLen; omega) (by omega) (Nat.le_trans hP2.lo hP2.old.size) ?_; intro v_l w_l o_l g_l t_l; have P_l := hP2.push (k' := k + 1) (x := y) (by omega) hr2 HF2.out hS.out o_l g_l t_l; have kp_l := kp2.grown g_l (fun e => own_box hP2.own.row kp2 (by decide) e.symm); clear o_l g_l t_l hP2 kp2 hRv)
     go_roundw
     case rel => exact ⟨k + 1, true, _, _, by omega, by go_num, rfl, P_l, kp_l, HN⟩
     case measure => simp [intOf]; omega
  ·obtain rfl : k = os.length := by omega
   cases d
   ·have e := HP.out.no
    have p0 := (kp.cell 0).trans (rfl : _ = some (Value.int .i64 x.c))
    have p1 := (kp.cell 1).trans (rfl : _ = some (Value.int .i64 x.i))
    go_upto_region 16 with fail
    obtain ⟨Wn, hWn⟩ : ∃ Wn, Wn = wr.alloc (Obj.cells #[.int .i64 x.c, .int .i64 x.i] 83) := ⟨_, rfl⟩
    have hn : Wn.ownsRow base 83 2 (.slice (some ⟨wr.heap.size, 0, none⟩) 1 1) 1 (cels (wids [x])) := by rw [hWn]; exact own_lit1 wr base x (Nat.le_trans hP.lo hP.old.size)
    have hPn := hP.alloc (Obj.cells #[.int .i64 x.c, .int .i64 x.i] 83)
    rw [← hWn] at hPn
    have kpn := kp.alloc (Obj.cells #[.int .i64 x.c, .int .i64 x.i] 83)
    rw [← hWn] at kpn
    have hnn := hn.alloc (Obj.cells #[.int .i64 a, .slice (some ⟨wr.heap.size, 0, none⟩) 1 1] 69)
    have hPnn := hPn.alloc (Obj.cells #[.int .i64 a, .slice (some ⟨wr.heap.size, 0, none⟩) 1 1] 69)
    have kpnn := kpn.alloc (Obj.cells #[.int .i64 a, .slice (some ⟨wr.heap.size, 0, none⟩) 1 1] 69)
    have hRv := RdV.two_new Wn (.int .i64 a) (.slice (some ⟨wr.heap.size, 0, none⟩) 1 1) 69
    have hFn := hide (fun (b : Nat) (hb : (Value.slice (some ⟨wr.heap.size, 0, none⟩) 1 1).ownBlock = some b) (u' : Value) (hu' : u' ∈ U) (e : u'.ownBlock = some b) => (show False from by have := (hP.own.bound u' hu' b e).2; simp only [Value.ownBlock, Option.some.injEq] at hb; omega))
    have hSn := hide (fun (b : Nat) (hb : (Value.slice (some ⟨wr.heap.size, 0, none⟩) 1 1).ownBlock = some b) => (show w.heap.size ≤ b ∨ ∃ j u', j < os.length ∧ us[j]? = some u' ∧ u'.ownBlock = some b from .inl (by have := hP.old.size; simp only [Value.ownBlock, Option.some.injEq] at hb; omega)))
    have HWn := hide hWn
    clear hWn hn hPn kpn
    go_wp2_with (first | rw [← HWn.out] | (at_builtin; refine wpList_append_rv _ rfl (.tmp 58) (.tmp 63) 27 rfl base 2 (by omega) 69 i1 (.agg #[.int .i64 0, .slice none 0 0]) 32 Try.underlying27 hj hy0 hy1 hy2 rfl (.slice Ao L.length co) L.length (wlR L U) rfl hPnn.own.row (some ⟨Wn.heap.size, 0, none⟩) [.int .i64 a, .slice (some ⟨wr.heap.size, 0, none⟩) 1 1] 1 1 _ rfl rfl (one2 _ _ _ _) hRv (by unfold maxLen; omega) (by omega) (Nat.le_trans hPnn.lo hPnn.old.size) ?_; intro v_n w_n o_n g_n t_n; have P_n := hPnn.push (k' := os.length) (x := ⟨a, [x]⟩) (by omega) hnn hFn.out hSn.out o_n g_n t_n; have kp_n := kpnn.grown g_n (fun e => own_box hPnn.own.row kpnn (by decide) e.symm); clear o_n g_n t_n hPnn kpnn hRv))
    rw [e] at P_n
    go_ret
    first | exact ⟨_, _, rfl, P_n.own, P_n.old⟩ | exact ⟨_, rfl, ⟨_, P_n.own⟩, P_n.old⟩
   ·have e := HP.out.yes
    subst e
    go_wp2
    go_ret
    first | exact ⟨_, _, rfl, hP.own, hP.old⟩ | exact ⟨_, rfl, ⟨_, hP.own⟩, hP.old⟩
end Go.Proofs.Ytnnfkmjhaljplaa
