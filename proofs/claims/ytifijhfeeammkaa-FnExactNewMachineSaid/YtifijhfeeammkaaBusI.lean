/- The contract of busOf, in the program. -/
import Derived.Test.YtifijhfeeammkaaMch
import Derived.Test.YtifijhfeeammkaaIns
namespace Go.Proofs.Ytifijhfeeammkaa
open Go.RowKit

theorem info_cache : (Try.prog.info? 167).map (fun i => (i.zero, i.size, i.bytes)) = some (some (.agg #[.slice none 0 0, .pointer none]), 2, 32) := by kernel_rfl
theorem info_state : (Try.prog.info? 169).map (fun i => (i.zero, i.size, i.bytes)) = some (some .nilIface, 1, 16) := by kernel_rfl
/-- append of a row at a guarded operation of a region that draws its order. -/
theorem step_append_at {P : Program} (w : World) {ops : Array Oper} {o : Oper} {a : Act} {K : Act → World → Prop} {Q : Exit → Act → World → Prop} {E : Prop} (hw : Region.wanted o (yielded ops a.tmps) = true) (s x : Operand) (t : TypeId)
    (ho : o.op = .call { callee := .builtin .append, args := #[s, x], argTypes := #[t, t] })
    (base : Nat) (e : TypeId) (i : TypeInfo) (z : Value) (size bytes : Nat) (ht : P.underlying t = some (.slice e)) (hi : P.info? e = some i) (hz : i.zero = some z)
    (hsize : i.size = size) (hby : i.bytes = bytes) (hzs : z.cells.size = size) (hsz : 0 < size)
    (v : Value) (n : Nat) (xs : List Value) (hs : a.eval s = v) (hown : w.ownsRow base e size v n xs)
    (ad : Addr) (m c : Nat) (news : List Value) (hx : a.eval x = .slice (some ad) m c) (hl : news.length = m * size) (hnews : ∀ j u, news[j]? = some u → w.cell? (ad.add j) = some u) (h1 : ∀ u ∈ news, u.oneCell' = true)
    (h63 : n + m ≤ maxLen) (hbytes : (n + m) * bytes ≤ 140737488355328) (hbase : base ≤ w.heap.size)
    (h : ∀ v' w', w'.ownsRow base e size v' (n + m) (xs ++ news) → w.grownBy w' v.ownBlock → (v'.ownBlock = v.ownBlock ∨ v'.ownBlock = some w.heap.size) → K (a.put o.dst v') w') :
    if Region.wanted o (yielded ops a.tmps) = true then Oper.wp P o a w K Q else E := by
  rw [if_pos hw]
  obtain ⟨v', w', hr, h2, h3, _, h5⟩ := run_append_own_at (P := P) w base t o.type e i z size bytes ht hi hz hsize hby hzs hsz v n xs hown ad m c news hl hnews h1 h63 hbytes hbase
  unfold Oper.wp execOp
  simp only [ho, resolve, invoke, builtin, Sem.run_bind, Sem.run_pure, Result.andThen_ok, List.map_toArray, List.map_cons, List.map_nil, hs, hx, hr]
  exact h v' w' h2 h3 h5

/-- The caches built so far. -/
structure Chs (w : World) (base pm : Nat) (t : List (List Ev)) (v : Value) (us : List Value) : Prop where
  row : w.ownsRow base 167 2 v t.length (cchV pm us)
  len : us.length = t.length
  rows : ∀ (i : Nat) (u : Value) (h : i < t.length), us[i]? = some u → w.ownsRow base 169 1 u t[i].length (lnsV t[i])
  apart : ∀ (i j : Nat) (u u' : Value), i ≠ j → us[i]? = some u → us[j]? = some u' → ∀ b, u.ownBlock = some b → u'.ownBlock ≠ some b
  far : ∀ u ∈ us, ∀ b, u.ownBlock = some b → v.ownBlock ≠ some b
theorem stV_one (x : Ev) : ∀ u ∈ [stV x], u.oneCell' = true := by
  intro u hu
  rw [List.mem_singleton] at hu
  rw [hu]
  unfold stV
  split
  · rfl
  · split <;> rfl
theorem stV_if (x : Ev) : ∃ T V, stV x = .iface T V := by
  unfold stV
  split
  · exact ⟨_, _, rfl⟩
  · split <;> exact ⟨_, _, rfl⟩
theorem cchV_snoc (pm : Nat) (u : Value) : ∀ us, cchV pm (us ++ [u]) = cchV pm us ++ [u, .pointer (some ⟨pm, 0, none⟩)]
  | [] => rfl
  | x :: r => by simp only [cchV, List.cons_append, cchV_snoc pm u r]
theorem Chs.nil_ (w : World) (base pm : Nat) : Chs w base pm [] (.slice none 0 0) [] := ⟨World.ownsRow_nil _ _ _ _, rfl, fun i u h => absurd h (Nat.not_lt_zero _), fun i j u u' _ h => by simp at h, fun u h => by simp at h⟩
section
variable {w w' : World} {base pm : Nat} {t : List (List Ev)} {v v' : Value} {us : List Value}
theorem Chs.lt (h : Chs w base pm t v us) {u : Value} (hu : u ∈ us) {b : Nat} (hb : u.ownBlock = some b) : base ≤ b ∧ b < w.heap.size := by
  obtain ⟨i, hi, rfl⟩ := List.getElem_of_mem hu
  exact (h.rows i _ (by rw [← h.len]; exact hi) (List.getElem?_eq_getElem hi)).lt b hb
theorem Chs.kept {row : Option Nat} (h : Chs w base pm t v us) (hg : w.grownBy w' row) (hr : ∀ b, row = some b → b < base) : Chs w' base pm t v us :=
  ⟨h.row.kept hg (own_sep fun b hb e => by have := h.row.lt b hb; have := hr b e; omega), h.len,
   fun i u hi hu => (h.rows i u hi hu).kept hg (own_sep fun b hb e => by have := h.lt (List.mem_of_getElem? hu) hb; have := hr b e; omega), h.apart, h.far⟩
theorem Chs.below (h : Chs w base pm t v us) (hb : Below w.heap.size w w') : Chs w' base pm t v us := h.kept (row := none) ⟨hb.os, hb.tape, hb.output, hb.size, fun k hk _ => hb.block k hk⟩ (fun b e => by cases e)
theorem Chs.alloc (h : Chs w base pm t v us) (o : Obj) : Chs (w.alloc o) base pm t v us := h.below ((Below.refl _ _).alloc (Nat.le_refl _) _)
theorem Chs.push {u : Value} {l : List Ev} (h : Chs w base pm t v us) (hu : w.ownsRow base 169 1 u l.length (lnsV l)) (hf : ∀ b, u.ownBlock = some b → v.ownBlock ≠ some b ∧ ∀ x ∈ us, x.ownBlock ≠ some b)
    (ho : w'.ownsRow base 167 2 v' (t.length + 1) (cchV pm us ++ [u, .pointer (some ⟨pm, 0, none⟩)])) (hg : w.grownBy w' v.ownBlock) (hat : v'.ownBlock = v.ownBlock ∨ v'.ownBlock = some w.heap.size) : Chs w' base pm (t ++ [l]) v' (us ++ [u]) := by
  have key : ∀ (i : Nat) (x : Value), (us ++ [u])[i]? = some x → (i < us.length ∧ us[i]? = some x) ∨ (i = us.length ∧ x = u) := by
    intro i x hx
    by_cases hlt : i < us.length
    · rw [List.getElem?_append_left hlt] at hx
      exact .inl ⟨hlt, hx⟩
    · rw [List.getElem?_append_right (by omega)] at hx
      have hi : i - us.length = 0 := by
        rcases Nat.eq_zero_or_pos (i - us.length) with a | a
        · exact a
        · rw [List.getElem?_eq_none (by simp; omega)] at hx; exact absurd hx (by simp)
      rw [hi] at hx
      simp only [List.getElem?_cons_zero, Option.some.injEq] at hx
      exact .inr ⟨by omega, hx.symm⟩
  refine ⟨by rw [List.length_append, cchV_snoc]; exact ho, by rw [List.length_append, List.length_append, h.len]; rfl, fun i x hi hx => ?_, ?_, fun x hx b hb => ?_⟩
  · rcases key i x hx with ⟨i1, i2⟩ | ⟨i1, rfl⟩
    · have hi' : i < t.length := by rw [← h.len]; exact i1
      simp only [List.getElem_append_left hi']
      exact (h.rows i x hi' i2).kept hg (own_sep (h.far x (List.mem_of_getElem? i2)))
    · obtain rfl : i = t.length := by rw [i1, h.len]
      simp only [List.getElem_append_right (Nat.le_refl _), Nat.sub_self, List.getElem_cons_zero]
      exact hu.kept hg (own_sep fun b hb => (hf b hb).1)
  · intro i j x y hij hx hy b hb
    rcases key i x hx with ⟨i1, i2⟩ | ⟨i1, rfl⟩
    · rcases key j y hy with ⟨j1, j2⟩ | ⟨j1, rfl⟩
      · exact h.apart i j x y hij i2 j2 b hb
      · intro e
        exact (hf b e).2 x (List.mem_of_getElem? i2) hb
    · rcases key j y hy with ⟨j1, j2⟩ | ⟨j1, rfl⟩
      · exact (hf b hb).2 y (List.mem_of_getElem? j2)
      · omega
  · rcases List.mem_append.1 hx with hx | hx
    · rcases hat with e | e
      · rw [e]; exact h.far x hx b hb
      · rw [e]; intro e2
        simp only [Option.some.injEq] at e2
        have := h.lt hx hb
        omega
    · rw [List.mem_singleton] at hx
      subst hx
      rcases hat with e | e
      · rw [e]; exact (hf b hb).1
      · rw [e]; intro e2
        simp only [Option.some.injEq] at e2
        have := hu.lt b hb
        omega
end
theorem cells_two (w : World) (x y : Value) (T : TypeId) : ∀ j u, [x, y][j]? = some u → (w.alloc (.cells #[x, y] T)).cell? ((⟨w.heap.size, 0, none⟩ : Addr).add j) = some u := by
  intro j u hj
  rw [Go.WideShapes.add_plain, Nat.zero_add, (Bk.new w #[x, y] T).cell j]
  simpa using hj
/-- Where busOf stands: q is its first block, pm the memory's, the bus's box behind it. -/
structure Bld (w0 w : World) (q pm : Nat) (box : Array Value) (m : Mac) (vm vo : Value) (t : List (List Ev)) (us : List Value) : Prop where
  box_ : Bk w q box 27
  res : Bk w (q + 1) #[.slice none 0 0, .pointer none] 102
  mem : w.ownsRow (q + 1 + 1) 120 2 vm m.mem.length (cels m.mem)
  cell : Bk w pm #[vm] 116
  b : Bk w (pm + 1) #[vo, .pointer (some ⟨pm, 0, none⟩)] 102
  cs : Chs w (pm + 1 + 1) pm t vo us
  old : Below q w0 w
  nums : q + 1 + 1 ≤ pm ∧ ∀ b, vm.ownBlock = some b → b < pm
section
variable {w0 w w' : World} {q pm : Nat} {box : Array Value} {m : Mac} {vm vo : Value} {t : List (List Ev)} {us : List Value}
theorem Bld.below (h : Bld w0 w q pm box m vm vo t us) (hb : Below w.heap.size w w') : Bld w0 w' q pm box m vm vo t us :=
  ⟨h.box_.kept hb, h.res.kept hb, own_below h.mem hb (Nat.le_refl _), h.cell.kept hb, h.b.kept hb, h.cs.below hb, h.old.trans (hb.mono (by have := h.box_.lt; omega)), h.nums⟩
theorem Bld.push {u v' : Value} {l : List Ev} (h : Bld w0 w q pm box m vm vo t us) (hu : w.ownsRow (pm + 1 + 1) 169 1 u l.length (lnsV l)) (hf : ∀ b, u.ownBlock = some b → vo.ownBlock ≠ some b ∧ ∀ x ∈ us, x.ownBlock ≠ some b)
    (ho : w'.ownsRow (pm + 1 + 1) 167 2 v' (t.length + 1) (cchV pm us ++ [u, .pointer (some ⟨pm, 0, none⟩)])) (hg : w.grownBy w' vo.ownBlock) (hat : v'.ownBlock = vo.ownBlock ∨ v'.ownBlock = some w.heap.size) :
    Bld w0 (w'.setCell ⟨pm + 1, 0, none⟩ v') q pm box m vm v' (t ++ [l]) (us ++ [u]) := by
  have hn := h.nums
  have hsep : ∀ k, k < pm + 1 + 1 → some k ≠ vo.ownBlock := fun k hk e => by have := h.cs.row.lt k e.symm; omega
  have hp := h.cs.push hu hf ho hg hat
  refine ⟨(h.box_.grown hg (hsep q (by omega))).far (p := ⟨pm + 1, 0, none⟩) (by simp only; omega) _, (h.res.grown hg (hsep (q + 1) (by omega))).far (p := ⟨pm + 1, 0, none⟩) (by simp only; omega) _, ?_, (h.cell.grown hg (hsep pm (by omega))).far (p := ⟨pm + 1, 0, none⟩) (by simp only; omega) _, ?_, hp.kept (grown_set w' (pm + 1) 0 v') (fun b e => by cases e; omega), ?_, hn⟩
  · exact ownsRow_setCell_other (h.mem.kept hg (own_sep fun b hb e => hsep b (by have := hn.2 b hb; omega) e.symm)) (fun e => by have := hn.2 _ e; simp only at this; omega) _
  · have := (h.b.grown hg (hsep (pm + 1) (by omega))).set_ 0 v'
    simpa using this
  · have h1 := h.b.lt
    exact (h.old.trans ⟨hg.os, hg.tape, hg.output, hg.size, fun k hk => hg.block k (by omega) (hsep k (by omega))⟩).setCell (by simp only; omega) _
end
/-- What busOf tells. -/
def BusOfPost (m : Mac) (w : World) (e : Ending) (w' : World) : Prop :=
  ∃ gv c pm vm us, e = .returned (.agg #[.slice (some ⟨gv, 0, none⟩) m.cs.length c, .pointer (some ⟨pm, 0, none⟩)]) ∧ Bus w' w.heap.size gv c pm m vm us ∧ Below w.heap.size w w'
theorem Bld.bus {w0 w w' : World} {q pm : Nat} {box : Array Value} {m : Mac} {vm vo : Value} {us : List Value} (h : Bld w0 w q pm box m vm vo m.cs us) (hn : 0 < m.cs.length) (x y : Value) (hw' : w' = (w.setCell ⟨q + 1, 0, none⟩ x).setCell ⟨q + 1, 1, none⟩ y) :
    ∃ gv c, vo = .slice (some ⟨gv, 0, none⟩) m.cs.length c ∧ Bus w' q gv c pm m vm us ∧ Below q w0 w' := by
  have hnn := h.nums
  have h1 := h.res.lt
  obtain ⟨gv, c, cur, hv, hbg, hbk, _, _, _, _⟩ := own_open h.cs.row hn
  have hg1 : Below (q + 1) w w' := by subst hw'; exact (((Below.refl (q + 1) w).setCell (p := ⟨q + 1, 0, none⟩) (Nat.le_refl _) x)).setCell (p := ⟨q + 1, 1, none⟩) (Nat.le_refl _) y
  have keep : ∀ (e : TypeId) (s n : Nat) (v : Value) (xs : List Value), w.ownsRow (q + 1 + 1) e s v n xs → w'.ownsRow (q + 1 + 1) e s v n xs := fun e s n v xs hh => by
    subst hw'
    exact ownsRow_setCell_below (ownsRow_setCell_below hh (a := ⟨q + 1, 0, none⟩) (Nat.lt_succ_self _) x) (a := ⟨q + 1, 1, none⟩) (Nat.lt_succ_self _) y
  have hcell : Bk w' pm #[vm] 116 := by
    subst hw'
    exact (h.cell.far (p := ⟨q + 1, 0, none⟩) (by simp only; omega) x).far (p := ⟨q + 1, 1, none⟩) (by simp only; omega) y
  subst hv
  refine ⟨gv, c, rfl, ⟨own_mono (keep _ _ _ _ _ (own_mono h.cs.row (by omega))) (by omega), h.cs.len, fun i u hi hu => own_mono (keep _ _ _ _ _ (own_mono (h.cs.rows i u hi hu) (by omega))) (by omega), own_mono (keep _ _ _ _ _ h.mem) (by omega), hcell, by omega, h.cs.apart, fun u hu b hb => ⟨fun e => ?_, ?_, fun e => ?_⟩, ?_, fun e => ?_, fun e => ?_⟩, h.old.trans (hg1.mono (Nat.le_succ _))⟩
  · subst e; exact h.cs.far u hu _ hb rfl
  · have := h.cs.lt hu hb; omega
  · have := h.cs.lt hu hb; have := hnn.2 b e; omega
  · omega
  · have := hnn.2 gv e; omega
  · have := hnn.2 pm e; omega

set_option maxRecDepth 100000 in
set_option maxHeartbeats 3200000 in
theorem busOf_any {n L : Nat} (m : Mac) (A A' : Option Addr) (c c' : Nat) (w : World) (G : GoodM n L m) (hm : m.mem.length ≤ 1000) (h : RdMac w w.heap.size A A' m) :
    Calls Try.prog 65 #[macV A m.cs.length c A' m.mem.length c'] w (BusOfPost m w) := by
  unfold BusOfPost
  obtain ⟨i0, hi, hz0, hz1, hz2⟩ := info_parts info_cell
  obtain ⟨j0, hj, hy0, hy1, hy2⟩ := info_parts info_cache
  obtain ⟨l0, hl, hx0, hx1, hx2⟩ := info_parts info_state
  have hL : 1 ≤ L ∧ L ≤ 4 := by have := G.nL; omega
  have hn4 : 1 ≤ n ∧ n ≤ 4 := by have := G.nL; omega
  obtain ⟨hL1, hL4⟩ := hL
  obtain ⟨hn1, hn4⟩ := hn4
  have hn := G.shp.1
  subst hn
  obtain ⟨W, hW⟩ : ∃ W, W = (w.alloc (Obj.cells #[.slice A m.cs.length c, .slice A' m.mem.length c'] 27)).alloc (Obj.cells #[.slice none 0 0, .pointer none] 102) := ⟨_, rfl⟩
  obtain ⟨k1, k2, hz, B0⟩ := two_new _ _ _ _ _ W hW
  have hRW := (h.below B0).lt
  obtain ⟨vm, W2, hr, o2, g2, _⟩ := run_append_rc (P := Try.prog) W (w.heap.size + 1 + 1) 116 116 120 i0 (.agg #[.int .i64 0, .int .i64 0]) 16 Try.underlying116 hi hz0 hz1 hz2 rfl (.slice none 0 0) 0 [] (World.ownsRow_nil _ _ _ _) A' m.mem c' W.heap.size hRW.mem (by unfold maxLen; omega) (by omega) (by omega)
  rw [← append_types W 116 25 116 120 120 i0 Try.underlying116 Try.underlying25 hi] at hr
  rw [Nat.zero_add, List.nil_append] at o2
  obtain ⟨AM, cM, rfl⟩ := own_shape o2
  have B2 : Below W.heap.size W W2 := ⟨g2.os, g2.tape, g2.output, g2.size, fun k hk => g2.block k hk (by simp [Value.ownBlock])⟩
  obtain ⟨pm, hpm⟩ : ∃ pm, pm = W2.heap.size := ⟨_, rfl⟩
  have hz2 := B2.size
  obtain ⟨W4, hW4⟩ : ∃ W4, W4 = (W2.alloc (Obj.cells #[.slice AM m.mem.length cM] 116)).alloc (Obj.cells #[.slice none 0 0, .pointer (some ⟨W2.heap.size, 0, none⟩)] 102) := ⟨_, rfl⟩
  obtain ⟨k3, k4, hz4, B4⟩ := two_new _ _ _ _ _ W4 hW4
  have D0 : Bld w W4 w.heap.size pm #[.slice A m.cs.length c, .slice A' m.mem.length c'] m (.slice AM m.mem.length cM) (.slice none 0 0) (m.cs.take 0) [] := by
    rw [← hpm] at k3 k4
    exact ⟨(k1.kept B2).kept B4, (k2.kept B2).kept B4, own_below o2 B4 (Nat.le_refl _), k3, k4, Chs.nil_ _ _ _, (B0.trans (B2.mono B0.size)).trans (B4.mono (by omega)), by omega, fun b e => by rw [hpm]; exact (o2.lt b e).2⟩
  have HW := hide hW
  have HR := hide hr
  have HW4 := hide hW4
  have hpb : W.heap.size ≤ pm := by omega
  have HPM := hide hpm
  have q1 := (k1.cell 1).trans (rfl : _ = some (Value.slice A' m.mem.length c'))
  have q0 := ((k1.kept B2).cell 0).trans (rfl : _ = some (Value.slice A m.cs.length c))
  have hwz : w.heap.size < W2.heap.size := by omega
  have hmc : m.cs.length ≤ maxLen := by unfold maxLen; omega
  have HH := hide h.cs
  have hgz := D0.b.lt
  clear hW k1 k2 hRW hr o2 g2 hW4 k3 k4 B4 h B2 hpm hz2 hz4
  go_enter Try.func65, Try.ntmps65
  go_upto_region 1 with fail
  rw [← HW.out]
  go_wp2_with (at_builtin; refine Go.Lib.wpList_append_run _ rfl _ _ _ _ rfl _ _ rfl rfl _ _ HR.out ?_)
  rw [← HW4.out, ← HPM.out]
  clear q1 q0 hwz
  go_loopw [17] (fun s wr => ∃ (i : Nat) (vo : Value) (us : List Value), i ≤ m.cs.length ∧ s = .int .i64 i ∧ Bld w wr w.heap.size pm #[.slice A m.cs.length c, .slice A' m.mem.length c'] m (.slice AM m.mem.length cM) vo (m.cs.take i) us) (fun s _ => m.cs.length - (intOf s).toNat)
  case atStart => exact ⟨0, _, _, Nat.zero_le _, rfl, D0⟩
  case round =>
    clear D0 hgz
    obtain ⟨i, vo, us, hin, rfl, D⟩ := hrel
    obtain ⟨wo, hwo⟩ : ∃ x, x = wr := ⟨_, rfl⟩
    subst hwo
    by_cases hlt : i < m.cs.length
    · have hi' : i < m.cs.length := by omega
      obtain ⟨b, off, a, d, hA, hbb, hcw, hle, hcm, hrw⟩ := HH.out.get hi'
      subst hA
      obtain ⟨l, hld⟩ : ∃ l, l = m.cs[i] := ⟨_, rfl⟩
      have hll : l.length = L := by rw [hld]; exact G.shp.2 _ (List.getElem_mem hi')
      have hln : ∀ k (hk : k < L), l[k]'(by omega) = ln m.cs i k := fun k hk => by subst hld; rw [ln_get m.cs i k hi' (by omega)]
      have HLN := hide hln
      have hT := (show m.cs.take (i + 1) = m.cs.take i ++ [l] by rw [List.take_succ_eq_append_getElem hi', ← hld])
      have HT := hide hT
      rw [← hld, hll] at hcw
      rw [← hld] at hrw
      have HRW := hide hrw
      have y0 := (D.old.cell (p := ⟨b, off + i, none⟩) hbb).trans hcw
      have y1 := (D.b.cell 1).trans (rfl : _ = some (Value.pointer (some ⟨pm, 0, none⟩)))
      have hwr := D.b.lt
      have HD := hide D
      clear hT hln hld hcw hrw D hle hcm
      go_wp2
      have c0 := Bk.new wo #[.slice none 0 0, .pointer (some ⟨pm, 0, none⟩)] 167
      have bW1 := (Below.refl wo.heap.size wo).alloc (Nat.le_refl _) (Obj.cells #[.slice none 0 0, .pointer (some ⟨pm, 0, none⟩)] 167)
      generalize wo.alloc (Obj.cells #[.slice none 0 0, .pointer (some ⟨pm, 0, none⟩)] 167) = W1 at *
      clear y0 y1
      go_loopw [26] (fun s w2 => ∃ (k : Nat) (vl : Value), k ≤ L ∧ s = .int .i64 k ∧ Bk w2 wo.heap.size #[vl, .pointer (some ⟨pm, 0, none⟩)] 167 ∧ w2.ownsRow (wo.heap.size + 1) 169 1 vl k (lnsV (l.take k)) ∧ Below wo.heap.size wo w2) (fun s _ => L - (intOf s).toNat)
      case atStart => exact ⟨0, _, Nat.zero_le _, rfl, c0, World.ownsRow_nil _ _ _ _, bW1⟩
      case round =>
        clear bW1 c0
        obtain ⟨k, vl, hkL, rfl, kc, ov, hb2⟩ := hrel
        have hb2s := hb2.size
        have hkc := kc.lt
        by_cases hk : k < L
        · have hb3 := HD.out.old.trans (hb2.mono (by omega))
          obtain ⟨bl, ol, hal, hblk, x0, x1, x2⟩ := (HRW.out.below hb3).get (i := k) (by omega)
          subst hal
          have hkd := G.kind hlt hk
          have e1 := HLN.out k hk
          obtain ⟨X, hX⟩ : ∃ X, X = ln m.cs i k := ⟨_, rfl⟩
          rw [e1, ← hX] at x0 x1 x2
          rw [← hX] at hkd e1
          have HTK := hide (show l.take (k + 1) = l.take k ++ [X] by rw [List.take_succ_eq_append_getElem (by omega), e1])
          obtain ⟨TS, VS, hTV⟩ := stV_if X
          have HX := hide (fun W => stateOf_any X W hkd)
          rw [hTV] at HX
          have HTV := hide hTV
          clear hTV
          clear hX e1 hkd hb3
          obtain ⟨Al, cl, rfl⟩ := own_shape ov
          go_wp2_with fail
          clear x0 x1 x2
          have bx := Bk.new wr #[.int .i64 X.k, .int .i64 X.a, .int .i64 X.v] 115
          have kc1 := kc.alloc (Obj.cells #[.int .i64 X.k, .int .i64 X.a, .int .i64 X.v] 115)
          have ov1 := ov.alloc (Obj.cells #[.int .i64 X.k, .int .i64 X.a, .int .i64 X.v] 115)
          have hb1 := hb2.alloc hb2s (Obj.cells #[.int .i64 X.k, .int .i64 X.a, .int .i64 X.v] 115)
          have hqa : ∀ b, (Value.slice Al k cl).ownBlock = some b → b < wr.heap.size := fun b e => (ov.lt b e).2
          obtain ⟨qx, hqx⟩ : ∃ qx, qx = wr.heap.size := ⟨_, rfl⟩
          rw [← hqx] at bx hkc hqa ⊢
          have HQA := hide hqa
          clear hqa
          generalize wr.alloc (Obj.cells #[.int .i64 X.k, .int .i64 X.a, .int .i64 X.v] 115) = Y at *
          have hqy := bx.lt
          clear hqx kc ov hb2 hb2s
          have x0 : Y.drew.cell? ⟨qx, 0, none⟩ = some (.int .i64 X.k) := (bx.cell 0).trans rfl
          have x1 : Y.drew.cell? ⟨qx, 1, none⟩ = some (.int .i64 X.a) := (bx.cell 1).trans rfl
          have x2 : Y.drew.cell? ⟨qx, 2, none⟩ = some (.int .i64 X.v) := (bx.cell 2).trans rfl
          have s0 : Y.drew.cell? ⟨wo.heap.size, 0, none⟩ = some (.slice Al k cl) := (kc1.cell 0).trans rfl
          have kd : Bk Y.drew wo.heap.size #[.slice Al k cl, .pointer (some ⟨pm, 0, none⟩)] 167 := kc1
          have od : Y.drew.ownsRow (wo.heap.size + 1) 169 1 (.slice Al k cl) k (lnsV (l.take k)) := ov1.drew
          have bd : Below wo.heap.size wo Y.drew := hb1.drew
          have hYd : Y.drew.heap.size = Y.heap.size := rfl
          clear kc1 ov1 hb1
          refine wp_region_F 5 (fun w' => w'.cell? ⟨qx, 0, none⟩ = some (Value.int .i64 X.k) ∧ w'.cell? ⟨qx, 1, none⟩ = some (Value.int .i64 X.a) ∧ w'.cell? ⟨qx, 2, none⟩ = some (Value.int .i64 X.v)) (fun w' => w'.cell? ⟨wo.heap.size, 0, none⟩ = some (Value.slice Al k cl)) (by kernel_rfl) ⟨⟨x0, x1, x2⟩, s0⟩ (fun hHeld => ?_)
          try simp only [Act.put, List.setIfInBounds_toArray, List.set_cons_zero, List.set_cons_succ]
          have bd0 : Bk Y.drew qx #[.int .i64 X.k, .int .i64 X.a, .int .i64 X.v] 115 := bx
          clear x0 x1 x2 s0 bx hYd
          have hqz : qx < Y.drew.heap.size := hqy
          clear hqy
          generalize Y.drew = Z at *
          refine wpAnyF_take (i := 0) (v := ?_) (by (simp only [List.getElem?_toArray, List.getElem?_cons_zero]; rfl)) (by kernel_rfl) (by kernel_rfl) (by kernel_rfl) (by decide) (by exact fun _ _ _ h => h) ⟨hHeld.1, .inr hHeld.2⟩ (Or.inl ⟨by rfl, ?_⟩) ?_
          rotate_left
          · (intro w' _; go_simp <;> with_reducible rfl)
          try simp only [Act.put, List.setIfInBounds_toArray, List.set_cons_zero, List.set_cons_succ]
          refine wpAnyF_load (i := 1) (v := ?_) (by (simp only [List.getElem?_toArray, List.getElem?_cons_succ, List.getElem?_cons_zero]; rfl)) (by kernel_rfl) (by kernel_rfl) (by kernel_rfl) (by decide) (by exact fun _ _ _ h => h) hHeld (by kernel_rfl) (by kernel_rfl) (Or.inl ⟨by rfl, ?_⟩) ?_
          rotate_left
          · (intro w' hSw; (try dsimp only at hSw); obtain hSb0 := hSw; go_simp <;> with_reducible rfl)
          try simp only [Act.put, List.setIfInBounds_toArray, List.set_cons_zero, List.set_cons_succ]
          refine wpAnyF_keep (i := 2) (v := ?_) (by (simp only [List.getElem?_toArray, List.getElem?_cons_succ, List.getElem?_cons_zero]; rfl)) (by kernel_rfl) (by kernel_rfl) (by kernel_rfl) (by decide) (by exact fun _ _ _ h => h) ⟨hHeld.1, .inr hHeld.2⟩ (Or.inl ⟨by rfl, ?_⟩) ?_
          rotate_left
          · (intro w' hSw; (try dsimp only at hSw); obtain ⟨hSa0, hSa1, hSa2⟩ := hSw; go_simp <;> with_reducible rfl)
          try simp only [Act.put, List.setIfInBounds_toArray, List.set_cons_zero, List.set_cons_succ]
          refine wpAnyF_ready (rs := [3]) (by kernel_rfl) (by simp) ?_
          refine AllReadyF.cons (by (simp only [List.getElem?_toArray, List.getElem?_cons_succ, List.getElem?_cons_zero]; rfl)) (fun K hK => ?_) AllReadyF.nil
          go_simp
          go_at_call 114
          refine (HX.out _).mono ?_
          rintro e w3 ⟨rfl, b3⟩
          have kd3 := kd.kept b3
          have od3 := own_below od b3 (Nat.le_refl _)
          have bx3 := bd0.kept b3
          have bd3 := bd.trans (b3.mono bd.size)
          have hz3 := b3.size
          refine hK.out _ _ ⟨⟨cell_kept b3 hHeld.1.1, cell_kept b3 hHeld.1.2.1, cell_kept b3 hHeld.1.2.2⟩, (cell_kept b3 hHeld.2)⟩ (fun hNew => ?_)
          clear hK K hHeld
          have hHeld := hNew
          clear hNew
          try simp only [Act.put, List.setIfInBounds_toArray, List.set_cons_zero, List.set_cons_succ]
          clear kd od bd0 bd b3
          refine wpAnyF_ready (rs := [4]) (by kernel_rfl) (by simp) ?_
          refine AllReadyF.cons (by (simp only [List.getElem?_toArray, List.getElem?_cons_succ, List.getElem?_cons_zero]; rfl)) (fun K hK => ?_) AllReadyF.nil
          go_simp
          have ba := (Below.refl w3.heap.size w3).alloc (Nat.le_refl _) (Obj.cells #[.iface TS VS] 169)
          have kd4 := kd3.alloc (Obj.cells #[.iface TS VS] 169)
          have od4 := od3.alloc (Obj.cells #[.iface TS VS] 169)
          have bx4 := bx3.alloc (Obj.cells #[.iface TS VS] 169)
          have bd4 := bd3.alloc bd3.size (Obj.cells #[.iface TS VS] 169)
          have hz4 : w3.heap.size + 1 = (w3.alloc (Obj.cells #[.iface TS VS] 169)).heap.size := by simp
          refine hK.out _ _ ⟨⟨cell_kept ba hHeld.1.1, cell_kept ba hHeld.1.2.1, cell_kept ba hHeld.1.2.2⟩, (cell_kept ba hHeld.2)⟩ (fun hNew => ?_)
          clear hK K hHeld
          have hHeld := hNew
          clear hNew
          try simp only [Act.put, List.setIfInBounds_toArray, List.set_cons_zero, List.set_cons_succ]
          clear kd3 od3 bx3 bd3 ba
          refine wpAnyF_ready (rs := [5]) (by kernel_rfl) (by simp) ?_
          refine AllReadyF.last (by (simp only [List.getElem?_toArray, List.getElem?_cons_succ, List.getElem?_cons_zero]; rfl)) (by kernel_rfl) (fun K hK => ?_) AllReadyF.nil
          refine step_append_at _ (by rfl) (.tmp 31) (.tmp 34) 165 (by rfl) (wo.heap.size + 1) 169 l0 .nilIface 1 16 Try.underlying165 hl hx0 hx1 hx2 rfl (by decide) (.slice Al k cl) k (lnsV (l.take k)) (by rfl) od4 ⟨w3.heap.size, 0, none⟩ 1 1 [.iface TS VS] (by rfl) rfl (cells_one1 _ _ _) (by intro u hu; rw [List.mem_singleton] at hu; rw [hu]; rfl) (by unfold maxLen; omega) (by omega) (by omega) ?_
          intro v5 w5 o5 g5 hat5
          have bd5 := bd4.trans (grown_below od4 g5 (B := wo.heap.size) (by omega) (by omega))
          have kd5 := kd4.grown g5 (fun e => by have := od4.lt _ e.symm; omega)
          have bx5 := bx4.grown g5 (fun e => by have := HQA.out _ e.symm; omega)
          have o6 : w5.ownsRow (wo.heap.size + 1) 169 1 v5 (k + 1) (lnsV (l.take (k + 1))) := by rw [HTK.out]; unfold lnsV; rw [List.map_append, List.map_cons, HTV.out]; exact o5
          obtain ⟨A5, c5, hv5⟩ := own_shape o6
          subst hv5
          have bx6 := bx5.far (p := ⟨wo.heap.size, 0, none⟩) (by simp only; omega) (.slice A5 (k + 1) c5)
          have f5 := kd5.frozen 0
          have e5 := (kd5.cell 0).trans (rfl : _ = some (Value.slice Al k cl))
          have a6 : _ ∧ _ ∧ _ := ⟨(bx6.cell 0).trans rfl, (bx6.cell 1).trans rfl, (bx6.cell 2).trans rfl⟩
          have H5 := hide (show Bk (w5.setCell ⟨wo.heap.size, 0, none⟩ (.slice A5 (k + 1) c5)) wo.heap.size #[.slice A5 (k + 1) c5, .pointer (some ⟨pm, 0, none⟩)] 167 ∧ (w5.setCell ⟨wo.heap.size, 0, none⟩ (.slice A5 (k + 1) c5)).ownsRow (wo.heap.size + 1) 169 1 (.slice A5 (k + 1) c5) (k + 1) (lnsV (l.take (k + 1))) ∧ Below wo.heap.size wo (w5.setCell ⟨wo.heap.size, 0, none⟩ (.slice A5 (k + 1) c5)) from ⟨by have := kd5.set_ 0 (.slice A5 (k + 1) c5); simpa using this, ownsRow_setCell_below o6 (a := ⟨wo.heap.size, 0, none⟩) (Nat.lt_succ_self _) _, bd5.setCell (Nat.le_refl _) _⟩)
          clear o5 g5 hat5 o6 bd5 kd5 bx6 kd4 od4 bx4 bd4
          refine hK.out _ _ ⟨(bx5.cell 0).trans rfl, (bx5.cell 1).trans rfl, (bx5.cell 2).trans rfl⟩ ?_
          clear hK K
          try simp only [Act.put, List.setIfInBounds_toArray, List.set_cons_zero, List.set_cons_succ]
          refine wpAnyF_take (i := 6) (v := ?_) (by (simp only [List.getElem?_toArray, List.getElem?_cons_succ, List.getElem?_cons_zero]; rfl)) (by kernel_rfl) (by kernel_rfl) (by kernel_rfl) (by decide) (by exact fun _ _ _ h => h) ⟨⟨(bx5.cell 0).trans rfl, (bx5.cell 1).trans rfl, (bx5.cell 2).trans rfl⟩, .inl (by kernel_rfl)⟩ (Or.inl ⟨by rfl, ?_⟩) ?_
          rotate_left
          · (intro w' _; go_simp <;> with_reducible rfl)
          try simp only [Act.put, List.setIfInBounds_toArray, List.set_cons_zero, List.set_cons_succ]
          refine wpAnyF_ready (rs := [7]) (by kernel_rfl) (by simp) ?_
          refine AllReadyF.last (by (simp only [List.getElem?_toArray, List.getElem?_cons_succ, List.getElem?_cons_zero]; rfl)) (by kernel_rfl) (fun K hK => ?_) AllReadyF.nil
          go_simp
          refine hK.out _ _ a6 ?_
          clear hK K
          try simp only [Act.put, List.setIfInBounds_toArray, List.set_cons_zero, List.set_cons_succ]
          refine wpAnyF_done (by kernel_rfl) ?_ _
          go_wp2
          go_roundw
          case rel => exact ⟨k + 1, _, by omega, by go_num, H5.out⟩
          case measure => simp [intOf]; omega
        · have hkl : k = L := by omega
          rw [hkl, List.take_of_length_le (by omega)] at ov
          have ov' : wr.ownsRow (wo.heap.size + 1) 169 1 vl L (lnsV l) := ov
          have D1 := HD.out.below hb2
          have orow := D1.cs.row
          have hti : (m.cs.take i).length = i := by rw [List.length_take]; omega
          have orow0 := HD.out.cs
          rw [hti] at orow
          obtain ⟨Ao, co, rfl⟩ := own_shape orow
          obtain ⟨Av, cv, rfl⟩ := own_shape ov'
          have y0 := (D1.b.cell 0).trans (rfl : _ = some (Value.slice Ao i co))
          have f0 := D1.b.frozen 0
          have c0 := (kc.cell 0).trans (rfl : _ = some (Value.slice Av L cv))
          have c1 := (kc.cell 1).trans (rfl : _ = some (Value.pointer (some ⟨pm, 0, none⟩)))
          have hf : ∀ b, (Value.slice Av L cv).ownBlock = some b → (Value.slice Ao i co).ownBlock ≠ some b ∧ ∀ x ∈ us, x.ownBlock ≠ some b := fun b e => by
            have h1 := ov'.lt b e
            refine ⟨fun e2 => ?_, fun x hx e2 => ?_⟩
            · have := orow0.row.lt b e2; omega
            · have := orow0.lt hx e2; omega
          have HTI := hide hti
          have HFR := hide hf
          have HD1 := hide D1
          have ov2 := own_mono (base' := pm + 1 + 1) ov' (by omega)
          clear ov hti hf D1 orow0 kc hb2 ov'
          have PU := hide (show ∀ v' w4, w4.ownsRow (pm + 1 + 1) 167 2 v' (i + 1) (cchV pm us ++ [.slice Av L cv, .pointer (some ⟨pm, 0, none⟩)]) → (wr.alloc (.cells #[.slice Av L cv, .pointer (some ⟨pm, 0, none⟩)] 167)).grownBy w4 (Value.slice Ao i co).ownBlock → (v'.ownBlock = (Value.slice Ao i co).ownBlock ∨ v'.ownBlock = some (wr.alloc (.cells #[.slice Av L cv, .pointer (some ⟨pm, 0, none⟩)] 167)).heap.size) → Bld w (w4.setCell ⟨pm + 1, 0, none⟩ v') w.heap.size pm #[.slice (some ⟨b, off, none⟩) m.cs.length c, .slice A' m.mem.length c'] m (.slice AM m.mem.length cM) v' (m.cs.take (i + 1)) (us ++ [.slice Av L cv]) ∧ w4.cell? ⟨pm + 1, 0, none⟩ = some (.slice Ao i co) ∧ w4.frozen? ⟨pm + 1, 0, none⟩ = false from fun v' w4 ho hg hat => by
            have DA := HD1.out.below ((Below.refl wr.heap.size wr).alloc (Nat.le_refl _) (.cells #[.slice Av L cv, .pointer (some ⟨pm, 0, none⟩)] 167))
            have hP := DA.push (l := l) (by rw [hll]; exact ov2.alloc _) HFR.out (by rw [HTI.out]; exact ho) hg hat
            rw [← HT.out] at hP
            have k44 := DA.b.grown hg (fun e => by have := orow.lt _ e.symm; omega)
            exact ⟨hP, (k44.cell 0).trans rfl, k44.frozen 0⟩)
          have hone : ∀ u ∈ [Value.slice Av L cv, .pointer (some ⟨pm, 0, none⟩)], u.oneCell' = true := by
            intro u hu
            simp only [List.mem_cons, List.not_mem_nil, or_false] at hu
            rcases hu with hu | hu <;> (rw [hu]; rfl)
          have hmx : i + 1 ≤ maxLen := by unfold maxLen; omega
          have h32 : (i + 1) * 32 ≤ 140737488355328 := by omega
          have hpz : pm + 1 + 1 ≤ wr.heap.size + 1 := by omega
          have orow1 := orow.alloc (.cells #[.slice Av L cv, .pointer (some ⟨pm, 0, none⟩)] 167)
          have ct := cells_two wr (.slice Av L cv) (.pointer (some ⟨pm, 0, none⟩)) 167
          have hpz1 : pm + 1 + 1 ≤ (wr.alloc (.cells #[.slice Av L cv, .pointer (some ⟨pm, 0, none⟩)] 167)).heap.size := by simp; omega
          clear orow
          go_wp2_with (at_builtin; go_loud (refine wpList_append_own_at _ rfl _ _ 99 rfl (pm + 1 + 1) 167 j0 (.agg #[.slice none 0 0, .pointer none]) 2 32 Try.underlying99 hj hy0 hy1 hy2 rfl (by decide) _ _ _ rfl orow1 ⟨_, 0, none⟩ 1 1 [.slice Av L cv, .pointer (some ⟨pm, 0, none⟩)] rfl rfl ct hone hmx h32 hpz1 ?_; intro v' w4 hown' hgrow _ hat; have h5 := PU.out v' w4 hown' hgrow hat; obtain ⟨A4, c4, rfl⟩ := own_shape hown'; obtain ⟨h6, y4, f4⟩ := h5; have HH4 := hide h6; clear hown' hgrow hat h6))
          go_roundw
          case rel => exact ⟨i + 1, _, _, by omega, by go_num, HH4.out⟩
          case measure => simp [intOf]; omega
    · have hie : i = m.cs.length := by omega
      rw [hie, List.take_of_length_le (by omega)] at D
      have hor := D.cs.row
      obtain ⟨gv, co, cur, hv, _⟩ := own_open hor (by omega)
      subst hv
      have y0 := (D.b.cell 0).trans (rfl : _ = some (Value.slice (some ⟨gv, 0, none⟩) m.cs.length co))
      have y1 := (D.b.cell 1).trans (rfl : _ = some (Value.pointer (some ⟨pm, 0, none⟩)))
      have z0 := (D.res.cell 0).trans (rfl : _ = some (Value.slice none 0 0))
      have z1 := (D.res.cell 1).trans (rfl : _ = some (Value.pointer none))
      have f0 := D.res.frozen 0
      have f1 := D.res.frozen 1
      have HD := hide D
      have HN := hide (show 0 < m.cs.length by omega)
      clear D hor
      go_wp2
      refine bodyPost_ret (v := .agg #[.slice (some ⟨gv, 0, none⟩) m.cs.length co, .pointer (some ⟨pm, 0, none⟩)]) (by simp [results, Try.results65, go_sem, z0, z1]) rfl ?_
      obtain ⟨gv2, c2, e2, hB, hBl⟩ := HD.out.bus HN.out _ _ rfl
      simp only [Value.slice.injEq, Option.some.injEq, Addr.mk.injEq, and_true, true_and] at e2
      obtain ⟨rfl, rfl⟩ := e2
      exact ⟨gv, co, pm, .slice AM m.mem.length cM, us, rfl, hB, hBl⟩
end Go.Proofs.Ytifijhfeeammkaa
