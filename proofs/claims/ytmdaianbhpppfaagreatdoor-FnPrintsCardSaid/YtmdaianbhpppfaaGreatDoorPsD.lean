/- The contracts of the document's l5Parse and ParseTrace. -/
import Derived.Test.YtmdaianbhpppfaaGreatDoorLn
import Derived.Test.YtmdaianbhpppfaaGreatDoorAddE
import Derived.Test.YtmdaianbhpppfaaGreatDoorPsI
import Derived.Test.YtmdaianbhpppfaaGreatDoorGTxB
namespace Go.Proofs.YtmdaianbhpppfaaGreatDoor
open Go.RowKit

theorem cell_blk {w w' : World} {b : Nat} (h : w'.heap[b]? = w.heap[b]?) (o : Nat) : w'.cell? ⟨b, o, none⟩ = w.cell? ⟨b, o, none⟩ := by
  unfold World.cell?
  rw [h]
/-- Where the reading of the lines stands: the trace of the call's own, the lines in block g apart from it. -/
structure PsAt (w0 w2 : World) (base g : Nat) (v : Value) (t : List (List Ev)) (us : List Value) (w : World) : Prop where
  own : OwnT w base v t us
  old : Below base w0 w
  blk : w.heap[g]? = w2.heap[g]?
  lt : g < w.heap.size
  nv : v.ownBlock ≠ some g
  nu : ∀ u ∈ us, u.ownBlock ≠ some g
  lo : base ≤ w.heap.size
section
variable {w0 w2 w w' : World} {base g : Nat} {v v' : Value} {t : List (List Ev)} {us : List Value}
theorem PsAt.below (h : PsAt w0 w2 base g v t us w) (hb : Below w.heap.size w w') : PsAt w0 w2 base g v t us w' :=
  ⟨h.own.below hb, h.old.trans (hb.mono h.lo), (hb.block g h.lt).trans h.blk, Nat.lt_of_lt_of_le h.lt hb.size, h.nv, h.nu, Nat.le_trans h.lo hb.size⟩
theorem PsAt.push (h : PsAt w0 w2 base g v t us w) {w1 : World} (hw : w1 = w.alloc (.cells #[.slice none 0 0] 55)) (ho : w'.ownsRow base 55 1 v' (t.length + 1) (us ++ [.slice none 0 0])) (hg : w1.grownBy w' v.ownBlock) (hat : v'.ownBlock = v.ownBlock ∨ v'.ownBlock = some w1.heap.size) :
    PsAt w0 w2 base g v' (t ++ [[]]) (us ++ [.slice none 0 0]) w' := by
  have hA : PsAt w0 w2 base g v t us w1 := by rw [hw]; exact h.below ((Below.refl _ _).alloc (Nat.le_refl _) _)
  refine ⟨hA.own.push (es := []) (World.ownsRow_nil _ _ _ _) (fun b hb => by simp [Value.ownBlock] at hb) ho hg hat, hA.old.trans (grown_below hA.own.row hg hA.lo (Nat.le_refl _)), (hg.block g hA.lt (fun e => hA.nv e.symm)).trans hA.blk, Nat.lt_of_lt_of_le hA.lt hg.size, ?_, ?_, Nat.le_trans hA.lo hg.size⟩
  · rcases hat with e | e
    · rw [e]; exact hA.nv
    · rw [e]; intro e2; simp only [Option.some.injEq] at e2; have := hA.lt; omega
  · intro u hu
    rcases List.mem_append.1 hu with hu | hu
    · exact hA.nu u hu
    · simp only [List.mem_singleton] at hu; rw [hu]; simp [Value.ownBlock]
theorem PsAt.swap {gv c j : Nat} {u u' : Value} {es' : List Ev} {w7 : World} (h : PsAt w0 w2 base g (.slice (some ⟨gv, 0, none⟩) t.length c) t us w) (hu : us[j]? = some u) (hg : w.grownBy w7 u.ownBlock)
    (hu' : w7.ownsRow base 39 3 u' es'.length (evs es')) (hat : u'.ownBlock = u.ownBlock ∨ u'.ownBlock = some w.heap.size) :
    PsAt w0 w2 base g (.slice (some ⟨gv, 0, none⟩) (t.set j es').length c) (t.set j es') (us.set j u') (w7.setCell ⟨gv, j, none⟩ u') := by
  have hng : g ≠ gv := fun e => h.nv (by rw [e]; rfl)
  have hgv := (h.own.row.lt gv rfl).1
  obtain ⟨_, q1, _⟩ := h.own.at_ hu
  have hnu := h.nu u (List.mem_of_getElem? hu)
  rw [List.length_set]
  refine ⟨h.own.swap hu hg (fun b e => .inl e) hu' (fun b hb => ?_), (h.old.trans (grown_below q1 hg h.lo (Nat.le_refl _))).setCell (show base ≤ gv from hgv) _, (Below.heap_setCell w7 ⟨gv, j, none⟩ u' g hng).trans ((hg.block g h.lt (fun e => hnu e.symm)).trans h.blk), ?_, h.nv, ?_, ?_⟩
  · rcases hat with e | e
    · exact .inl (e.symm.trans hb)
    · rw [e] at hb; simp only [Option.some.injEq] at hb; exact .inr (Nat.le_of_eq hb)
  · have := h.lt; have := hg.size; simp; omega
  · intro x hx
    rcases List.mem_or_eq_of_mem_set hx with hx | hx
    · exact h.nu x hx
    · rw [hx]
      rcases hat with e | e
      · rw [e]; exact hnu
      · rw [e]; intro e2; simp only [Option.some.injEq] at e2; have := h.lt; omega
  · have := h.lo; have := hg.size; simp; omega
theorem parS_core {out : List (List Ev)} {ln : List Int} {r : List (List Int)} (h : 4 < ln.length ∧ ln.take 4 = [99, 111, 114, 101]) : parS out (ln :: r) = parS (out ++ [[]]) r := by rw [parS, if_pos h]
theorem parS_ev {out : List (List Ev)} {ln : List Int} {r : List (List Int)} (h : ¬ (4 < ln.length ∧ ln.take 4 = [99, 111, 114, 101])) (h2 : lnOk (cutS 32 [] ln) ∧ 0 < out.length) : parS out (ln :: r) = parS (addE out (lnE (cutS 32 [] ln))) r := by rw [parS, if_neg h, if_pos h2]
theorem parS_no {out : List (List Ev)} {ln : List Int} {r : List (List Int)} (h : ¬ (4 < ln.length ∧ ln.take 4 = [99, 111, 114, 101])) (h2 : ¬ (lnOk (cutS 32 [] ln) ∧ 0 < out.length)) : parS out (ln :: r) = parS out r := by rw [parS, if_neg h, if_neg h2]
end
/-- What l5Parse tells. -/
def PlPost (l : List Int) (w : World) (e : Ending) (w' : World) : Prop :=
  ∃ A c us, e = .returned (.slice A (parL l).length c) ∧ OwnT w' w.heap.size (.slice A (parL l).length c) (parL l) us ∧ Below w.heap.size w w' ∧ (parL l).length ≤ 4000

set_option maxRecDepth 100000 in
set_option maxHeartbeats 6400000 in
theorem l5Parse_any (l : List Int) (w : World) (b8 : B8 l) (hl : l.length ≤ 2000) :
    Calls Tryz.prog 44 #[.string (strOfNums l)] w (PlPost l w) := by
  obtain ⟨W, hW⟩ : ∃ W, W = w.alloc (Obj.cells #[] 55) := ⟨_, rfl⟩
  have HW := hide hW
  have bW : Below w.heap.size w W := by rw [hW]; exact (Below.refl _ _).alloc (Nat.le_refl _) _
  have zW : W.heap.size = w.heap.size + 1 := by rw [hW]; simp
  have oW : OwnT W w.heap.size (.slice (some ⟨w.heap.size, 0, none⟩) 0 0) [] [] := by
    rw [hW]
    exact ⟨World.ownsRow_lit w #[] 0 (Nat.le_refl _) (by simp) rfl, fun i hi => by simp at hi, fun i j u u' _ hu => by simp at hu⟩
  have CU := hide (l1Cut_any l 10 W b8 (by omega))
  have hB8 := cutS_B8 10 l [] b8 (fun x h => by simp at h)
  have hLen := cutS_len 10 l []
  have hCnt := cutS_count 10 l []
  obtain ⟨R, hR⟩ : ∃ R, R = parL l := ⟨_, rfl⟩
  have hR2 : R = parS [] ((cutS 10 [] l).drop 1) := hR
  unfold PlPost
  rw [← hR]
  generalize cutS 10 [] l = ls at CU hB8 hLen hCnt hR2
  simp only [List.length_nil, Nat.zero_add] at hLen
  have h8 : ∀ y ∈ ls, B8 y ∧ y.length ≤ 2000 := fun y hy => ⟨hB8 y hy, by have := hLen y hy; omega⟩
  have hls : ls.length ≤ 2001 := by omega
  have hls1 : 1 ≤ ls.length := hCnt.1
  have HR2 := hide hR2
  unfold CutPost at CU
  clear hR hR2 hB8 hLen hCnt b8 hl hW
  obtain ⟨i0, hi, hz0, hz1, hz2⟩ := info_parts info_event
  obtain ⟨j0, hj, hy0, hy1, hy2⟩ := info_parts info_events
  obtain ⟨base, hbase⟩ : ∃ b, b = w.heap.size := ⟨_, rfl⟩
  rw [← hbase] at oW zW bW
  have HBS := hide hbase
  go_enter Tryz.func44, Tryz.ntmps44
  go_wp2_with fail
  rw [← HW.out, ← HBS.out]
  clear hbase
  refine CU.out.mono ?_
  rintro e w2 ⟨A1, c1, rfl, hc1, hr1, hlo1, hb1⟩
  obtain ⟨g, off, rfl, hg2, hcell⟩ := hr1.all hls1
  have hgl := hlo1 _ rfl
  have hP0 : PsAt w w2 base g (.slice (some ⟨base, 0, none⟩) 0 0) [] [] w2 := ⟨oW.below hb1, bW.trans (hb1.mono (by omega)), rfl, hg2, fun e => by simp only [Value.ownBlock, Option.some.injEq] at e; simp only at hgl; omega, fun u hu => by simp at hu, by have := hb1.size; omega⟩
  clear hr1 hb1 hlo1 oW bW CU
  go_wp2
  go_loopw [3, 5, 6, 7] (fun v i _ _ wr => ∃ (k : Nat) (t : List (List Ev)) (A : Option Addr) (c : Nat) (us : List Value), 1 ≤ k ∧ k ≤ ls.length ∧ i = .int .i64 k ∧ v = .slice A t.length c ∧ PsAt w w2 base g (.slice A t.length c) t us wr ∧ t.length ≤ k ∧ (∀ l ∈ t, l.length ≤ k) ∧ Hid (parS t (ls.drop k) = R)) (fun _ i _ _ _ => ls.length - (intOf i).toNat)
  case atStart => exact ⟨1, [], some ⟨base, 0, none⟩, 0, [], Nat.le_refl _, hls1, rfl, rfl, hP0, Nat.zero_le _, fun l hl => by simp at hl, hide HR2.out.symm⟩
  case round =>
    obtain ⟨k, t, A, c, us, hk1, hk, rfl, rfl, hp, ht, hall, HD⟩ := hrel
    by_cases hlt : k < ls.length
    · obtain ⟨hy8, hyl⟩ := h8 _ (List.getElem_mem hlt)
      have hcy : wr.cell? ⟨g, off + k, none⟩ = some (.string (strOfNums ls[k])) := (cell_blk hp.blk _).trans (hcell k hlt)
      have HDR := hide (List.drop_eq_getElem_cons hlt)
      have LN := hide (fun w => l5Line_any ls[k] w hy8 hyl)
      unfold LnPost at LN
      obtain ⟨y, hy⟩ : ∃ y, y = ls[k] := ⟨_, rfl⟩
      rw [← hy] at hcy LN HDR hy8 hyl
      have STO := fun (h4 : 4 ≤ y.length) w => run_sto (P := Tryz.prog) Tryz.underlying9 (l := y) (j := 4) h4 .i64 (z := 4) rfl w
      have hsl : (strOfNums y).size = y.length := strOfNums_size y
      clear hy
      by_cases hcore : 4 < y.length ∧ y.take 4 = [99, 111, 114, 101]
      · have HD2 := hide (show parS (t ++ [[]]) (ls.drop (k + 1)) = R by rw [← HD.out, HDR.out, parS_core hcore])
        have q1 : (4 : Int) < (y.length : Int) := by omega
        have sto := STO (by omega)
        have s0 : ((strOfNums (y.take 4)).toList == [99, 111, 114, 101]) = true := by
          rw [seq_lit (hy8.take 4) (m := [99, 111, 114, 101]) (fun z hz => by simp at hz; omega) (u := [99, 111, 114, 101]) rfl]
          exact beq_iff_eq.2 hcore.2
        have HALL := hide hall
        clear hcore HD HDR LN STO hall
        go_wp2_with (at_builtin; refine wpList_append_own_at _ rfl (.tmp 31) (.tmp 32) 24 rfl base 55 j0 (.slice none 0 0) 1 24 Tryz.underlying24 hj hy0 hy1 hy2 rfl (by decide) (.slice A t.length c) t.length us rfl (hp.own.row.alloc _) ⟨wr.heap.size, 0, none⟩ 1 1 [.slice none 0 0] rfl rfl (cell1_new _ _ _) (one_cell1 rfl) (by unfold maxLen; omega) (by omega) (by have := hp.lo; simp; omega) ?_; intro v' w4 hown' hgrow _ hat; obtain ⟨D, d, hv⟩ := own_shape hown'; subst hv; have hP := hp.push rfl hown' hgrow hat; clear hgrow hat hown')
        go_roundw
        case rel => exact ⟨k + 1, t ++ [[]], D, d, us ++ [.slice none 0 0], by omega, by omega, by go_num, by rw [List.length_append]; rfl, by rw [List.length_append]; exact hP, by rw [List.length_append]; simp only [List.length_cons, List.length_nil]; omega, fun l hl => by
          rcases List.mem_append.1 hl with hl | hl
          · have := HALL.out l hl; omega
          · simp at hl; rw [hl]; simp, HD2⟩
        case measure => simp [intOf]; omega
      · have HNC := hide hcore
        by_cases h4 : 4 < y.length
        · have q1 : (4 : Int) < (y.length : Int) := by omega
          have sto := STO (by omega)
          have s0 : ((strOfNums (y.take 4)).toList == [99, 111, 114, 101]) = false := by
            rw [seq_lit (hy8.take 4) (m := [99, 111, 114, 101]) (fun z hz => by simp at hz; omega) (u := [99, 111, 114, 101]) rfl]
            exact beq_eq_false_iff_ne.2 (fun e => hcore ⟨h4, e⟩)
          clear hcore h4 STO
          have HALL := hide hall
          clear hall hy8 hyl
          by_cases hok : lnOk (cutS 32 [] y)
          · rw [decide_eq_true hok] at LN
            by_cases ht0 : 0 < t.length
            · have HD2 := hide (show parS (addE t (lnE (cutS 32 [] y))) (ls.drop (k + 1)) = R by rw [← HD.out, HDR.out, parS_ev HNC.out ⟨hok, ht0⟩])
              have HOK := hide hok
              clear HD HDR hok
              obtain ⟨gv, rfl⟩ : ∃ g, A = some ⟨g, 0, none⟩ := by
                rcases hp.own.row.2 with ⟨h', h''⟩ | ⟨g, cap, cur, h', _⟩
                · omega
                · simp only [Value.slice.injEq, true_and] at h'
                  exact ⟨g, h'.1⟩
              obtain ⟨j, hjt⟩ : ∃ j, t.length = j + 1 := ⟨t.length - 1, by omega⟩
              have hjt2 : j < t.length := by omega
              obtain ⟨u, hu, hown, hu3⟩ := hp.own.rows j hjt2
              obtain ⟨ak, ck, hak⟩ := own_shape hown
              subst hak
              have hlk := HALL.out _ (List.getElem_mem hjt2)
              have hAdd : Hid (∀ x : Ev, addE t x = t.set j (t[j] ++ [x])) := hide (fun x => by
                unfold addE
                rw [show t.length - 1 = j by omega]
                simp [hjt2])
              have w1 : IntKind.i64.wrap ((t.length : Int) - 1) = j := by rw [show (t.length : Int) - 1 = j by omega]; exact IntWalk.i64_in _ (by omega)
              obtain ⟨L, hL⟩ : ∃ L, L = t[j] := ⟨_, rfl⟩
              rw [← hL] at hlk hu hown hu3 hAdd
              have hAk : decide (t.length ≤ j) = false := decide_eq_false (by omega)
              have hBk : ¬ t.length ≤ j := by omega
              have hka : (0 : Int) ≤ (j : Int) := by omega
              have hkb : (j : Int) < (t.length : Int) := by omega
              have hkc : (0 : Int) < (t.length : Int) := by omega
              clear hL hjt
              go_wp2_with fail
              refine (LN.out _).mono ?_
              rintro e w4 ⟨x, rfl, hx, b4⟩
              have HX := hide (hx HOK.out)
              have hp4 := hp.below b4
              have hown4 := own_below hown b4 (Nat.le_refl _)
              have hgv4 := (hp4.own.row.lt gv rfl).2
              have hru : ∀ b, (Value.slice ak L.length ck).ownBlock = some b → b < w4.heap.size := fun b e => (hown4.lt b e).2
              have hpk := hp4.below ((Below.refl _ _).alloc (Nat.le_refl _) (.cells #[.int .i64 x.k, .int .i64 x.a, .int .i64 x.v] 39))
              have kq := Bk.new w4 #[.int .i64 x.k, .int .i64 x.a, .int .i64 x.v] 39
              have hownk := hown4.alloc (.cells #[.int .i64 x.k, .int .i64 x.a, .int .i64 x.v] 39)
              obtain ⟨q, hq⟩ : ∃ q, q = w4.heap.size := ⟨_, rfl⟩
              have nqg : q ≠ gv := by omega
              rw [← hq] at kq hru
              have HQ := hide hq
              clear LN hx b4 hp hown hp4 hown4 hq
              go_wp2_with fail
              rw [← HQ.out]
              generalize w4.alloc (Obj.cells #[.int .i64 x.k, .int .i64 x.a, .int .i64 x.v] 39) = wk at *
              have AS := hide (show ∀ W, Below wk.heap.size wk W → (W.cell? ⟨q, 0, none⟩ = some (Value.int .i64 x.k) ∧ W.cell? ⟨q, 0 + 1, none⟩ = some (Value.int .i64 x.a) ∧ W.cell? ⟨q, 0 + 2, none⟩ = some (Value.int .i64 x.v)) ∧ W.cell? ⟨gv, j, none⟩ = some (Value.slice ak L.length ck) from fun W h => ⟨⟨((kq.kept h).cell 0).trans rfl, ((kq.kept h).cell 1).trans rfl, ((kq.kept h).cell 2).trans rfl⟩, by rw [(hpk.own.below h).row.cellAt j (by omega)]; exact hu⟩)
              have bW : Below wk.heap.size wk wk.drew := (Below.refl _ _).drew
              have hp3 := hpk.below bW
              have ho3 := hp3.own
              have hown3 : wk.drew.ownsRow base 39 3 (.slice ak L.length ck) L.length (evs L) := hownk
              have kq3 : Bk wk.drew q #[.int .i64 x.k, .int .i64 x.a, .int .i64 x.v] 39 := kq
              have zy : base ≤ wk.drew.heap.size := hp3.lo
              have H0 := AS.out wk.drew bW
              clear hownk kq hpk
              refine wp_region_F 12 (fun w' => w'.cell? ⟨q, 0, none⟩ = some (Value.int .i64 x.k) ∧ w'.cell? ⟨q, 0 + 1, none⟩ = some (Value.int .i64 x.a) ∧ w'.cell? ⟨q, 0 + 2, none⟩ = some (Value.int .i64 x.v)) (fun w' => w'.cell? ⟨gv, j, none⟩ = some (Value.slice ak L.length ck)) (by kernel_rfl) ⟨H0.1, H0.2⟩ (fun hHeld => ?_)
              try simp only [Act.put, List.setIfInBounds_toArray, List.set_cons_zero, List.set_cons_succ]
              have bW2 := hide bW
              clear bW H0
              generalize wk.drew = wy at *
              refine wpAnyF_take (i := 0) (v := ?_) (by (simp only [List.getElem?_toArray, List.getElem?_cons_zero]; rfl)) (by kernel_rfl) (by kernel_rfl) (by kernel_rfl) (by decide) (by exact fun _ _ _ h => h) ⟨hHeld.1, .inr hHeld.2⟩ (Or.inl ⟨by rfl, ?_⟩) ?_
              rotate_left
              · (intro w' _; go_simp <;> with_reducible rfl)
              try simp only [Act.put, List.setIfInBounds_toArray, List.set_cons_zero, List.set_cons_succ]
              refine wpAnyF_take (i := 1) (v := ?_) (by (simp only [List.getElem?_toArray, List.getElem?_cons_succ, List.getElem?_cons_zero]; rfl)) (by kernel_rfl) (by kernel_rfl) (by kernel_rfl) (by decide) (by exact fun _ _ _ h => h) ⟨hHeld.1, .inr hHeld.2⟩ (Or.inl ⟨by rfl, ?_⟩) ?_
              rotate_left
              · (intro w' _; go_simp <;> with_reducible rfl)
              try simp only [Act.put, List.setIfInBounds_toArray, List.set_cons_zero, List.set_cons_succ]
              refine wpAnyF_take (i := 2) (v := ?_) (by (simp only [List.getElem?_toArray, List.getElem?_cons_succ, List.getElem?_cons_zero]; rfl)) (by kernel_rfl) (by kernel_rfl) (by kernel_rfl) (by decide) (by exact fun _ _ _ h => h) ⟨hHeld.1, .inr hHeld.2⟩ (Or.inl ⟨by rfl, ?_⟩) ?_
              rotate_left
              · (intro w' _; go_simp <;> with_reducible rfl)
              try simp only [Act.put, List.setIfInBounds_toArray, List.set_cons_zero, List.set_cons_succ]
              refine wpAnyF_take (i := 3) (v := ?_) (by (simp only [List.getElem?_toArray, List.getElem?_cons_succ, List.getElem?_cons_zero]; rfl)) (by kernel_rfl) (by kernel_rfl) (by kernel_rfl) (by decide) (by exact fun _ _ _ h => h) ⟨hHeld.1, .inr hHeld.2⟩ (Or.inl ⟨by rfl, ?_⟩) ?_
              rotate_left
              · (intro w' _; go_simp <;> with_reducible rfl)
              try simp only [Act.put, List.setIfInBounds_toArray, List.set_cons_zero, List.set_cons_succ]
              refine wpAnyF_take (i := 4) (v := ?_) (by (simp only [List.getElem?_toArray, List.getElem?_cons_succ, List.getElem?_cons_zero]; rfl)) (by kernel_rfl) (by kernel_rfl) (by kernel_rfl) (by decide) (by exact fun _ _ _ h => h) ⟨hHeld.1, .inr hHeld.2⟩ (Or.inl ⟨by rfl, ?_⟩) ?_
              rotate_left
              · (intro w' _; go_simp <;> with_reducible rfl)
              try simp only [Act.put, List.setIfInBounds_toArray, List.set_cons_zero, List.set_cons_succ]
              refine wpAnyF_take (i := 5) (v := ?_) (by (simp only [List.getElem?_toArray, List.getElem?_cons_succ, List.getElem?_cons_zero]; rfl)) (by kernel_rfl) (by kernel_rfl) (by kernel_rfl) (by decide) (by exact fun _ _ _ h => h) ⟨hHeld.1, .inr hHeld.2⟩ (Or.inl ⟨by rfl, ?_⟩) ?_
              rotate_left
              · (intro w' _; go_simp <;> with_reducible rfl)
              try simp only [Act.put, List.setIfInBounds_toArray, List.set_cons_zero, List.set_cons_succ]
              refine wpAnyF_take (i := 6) (v := ?_) (by (simp only [List.getElem?_toArray, List.getElem?_cons_succ, List.getElem?_cons_zero]; rfl)) (by kernel_rfl) (by kernel_rfl) (by kernel_rfl) (by decide) (by exact fun _ _ _ h => h) ⟨hHeld.1, .inr hHeld.2⟩ (Or.inl ⟨by rfl, ?_⟩) ?_
              rotate_left
              · (intro w' _; go_simp <;> with_reducible rfl)
              try simp only [Act.put, List.setIfInBounds_toArray, List.set_cons_zero, List.set_cons_succ]
              refine wpAnyF_take (i := 7) (v := ?_) (by (simp only [List.getElem?_toArray, List.getElem?_cons_succ, List.getElem?_cons_zero]; rfl)) (by kernel_rfl) (by kernel_rfl) (by kernel_rfl) (by decide) (by exact fun _ _ _ h => h) ⟨hHeld.1, .inr hHeld.2⟩ (Or.inl ⟨by rfl, ?_⟩) ?_
              rotate_left
              · (intro w' _; go_simp <;> with_reducible rfl)
              try simp only [Act.put, List.setIfInBounds_toArray, List.set_cons_zero, List.set_cons_succ]
              refine wpAnyF_take (i := 8) (v := ?_) (by (simp only [List.getElem?_toArray, List.getElem?_cons_succ, List.getElem?_cons_zero]; rfl)) (by kernel_rfl) (by kernel_rfl) (by kernel_rfl) (by decide) (by exact fun _ _ _ h => h) ⟨hHeld.1, .inr hHeld.2⟩ (Or.inl ⟨by rfl, ?_⟩) ?_
              rotate_left
              · (intro w' _; go_simp <;> with_reducible rfl)
              try simp only [Act.put, List.setIfInBounds_toArray, List.set_cons_zero, List.set_cons_succ]
              refine wpAnyF_load (i := 9) (v := ?_) (by (simp only [List.getElem?_toArray, List.getElem?_cons_succ, List.getElem?_cons_zero]; rfl)) (by kernel_rfl) (by kernel_rfl) (by kernel_rfl) (by decide) (by exact fun _ _ _ h => h) hHeld (by kernel_rfl) (by kernel_rfl) (Or.inl ⟨by rfl, ?_⟩) ?_
              rotate_left
              · (intro w' hSw; (try dsimp only at hSw); obtain hSb0 := hSw; go_simp <;> with_reducible rfl)
              try simp only [Act.put, List.setIfInBounds_toArray, List.set_cons_zero, List.set_cons_succ]
              refine wpAnyF_keep (i := 10) (v := ?_) (by (simp only [List.getElem?_toArray, List.getElem?_cons_succ, List.getElem?_cons_zero]; rfl)) (by kernel_rfl) (by kernel_rfl) (by kernel_rfl) (by decide) (by exact fun _ _ _ h => h) ⟨hHeld.1, .inr hHeld.2⟩ (Or.inl ⟨by rfl, ?_⟩) ?_
              rotate_left
              · (intro w' hSw; (try dsimp only at hSw); obtain ⟨hSa0, hSa1, hSa2⟩ := hSw; go_simp <;> with_reducible rfl)
              try simp only [Act.put, List.setIfInBounds_toArray, List.set_cons_zero, List.set_cons_succ]
              refine wpAnyF_ready (rs := [11]) (by kernel_rfl) (by simp) ?_
              refine AllReadyF.cons (by (simp only [List.getElem?_toArray, List.getElem?_cons_succ, List.getElem?_cons_zero]; rfl)) (fun K hK => ?_) AllReadyF.nil
              go_simp
              have hR := RdE.one_new wy x 39
              have HS := AS.out (wy.alloc (.cells #[.int .i64 x.k, .int .i64 x.a, .int .i64 x.v] 39)) (bW2.out.alloc bW2.out.size _)
              refine hK.out _ _ ⟨HS.1, HS.2⟩ (fun hNew => ?_)
              clear hK K hHeld
              have hHeld := hNew
              clear hNew
              try simp only [Act.put, List.setIfInBounds_toArray, List.set_cons_zero, List.set_cons_succ]
              refine wpAnyF_ready (rs := [12]) (by kernel_rfl) (by simp) ?_
              refine AllReadyF.last (by (simp only [List.getElem?_toArray, List.getElem?_cons_succ, List.getElem?_cons_zero]; rfl)) (by kernel_rfl) (fun K hK => ?_) AllReadyF.nil
              refine step_append_re _ (by rfl) (.tmp 57) (.tmp 59) 55 (by rfl) base 39 i0 (.agg #[.int .i64 0, .int .i64 0, .int .i64 0]) 24 Tryz.underlying55 hi hz0 hz1 hz2 rfl (.slice ak L.length ck) L.length (evs L) (by rfl) (hown3.alloc (.cells #[.int .i64 x.k, .int .i64 x.a, .int .i64 x.v] 39)) (some ⟨wy.heap.size, 0, none⟩) [x] 1 (wy.heap.size + 1) (by rfl) hR (by unfold maxLen; simp only [List.length_cons, List.length_nil]; omega) (by simp only [List.length_cons, List.length_nil]; omega) (by simp; omega) ?_
              intro v' w7 hown' hgrow hat
              simp only [List.length_cons, List.length_nil, Nat.zero_add] at hown'
              obtain ⟨D5, d5, hv5⟩ := own_shape hown'
              subst hv5
              have k17 := (kq3.alloc (.cells #[.int .i64 x.k, .int .i64 x.a, .int .i64 x.v] 39)).grown hgrow (fun e => by have := hru q e.symm; omega)
              have row5 := (ho3.row.alloc (.cells #[.int .i64 x.k, .int .i64 x.a, .int .i64 x.v] 39)).kept hgrow (own_sep fun b hb e => by simp only [Value.ownBlock, Option.some.injEq] at hb; subst hb; exact hu3 _ e rfl)
              have hf5 := row5.frozenAt j
              have hc5 : w7.cell? ⟨gv, j, none⟩ = some (.slice ak L.length ck) := by rw [row5.cellAt j (by omega)]; exact hu
              have A5 : w7.cell? ⟨q, 0, none⟩ = some (Value.int .i64 x.k) ∧ w7.cell? ⟨q, 0 + 1, none⟩ = some (Value.int .i64 x.a) ∧ w7.cell? ⟨q, 0 + 2, none⟩ = some (Value.int .i64 x.v) := ⟨(k17.cell 0).trans rfl, (k17.cell 1).trans rfl, (k17.cell 2).trans rfl⟩
              have A6 : ∀ y, (w7.setCell ⟨gv, j, none⟩ y).cell? ⟨q, 0, none⟩ = some (Value.int .i64 x.k) ∧ (w7.setCell ⟨gv, j, none⟩ y).cell? ⟨q, 0 + 1, none⟩ = some (Value.int .i64 x.a) ∧ (w7.setCell ⟨gv, j, none⟩ y).cell? ⟨q, 0 + 2, none⟩ = some (Value.int .i64 x.v) := fun y => ⟨((k17.far (p := ⟨gv, j, none⟩) nqg y).cell 0).trans rfl, ((k17.far (p := ⟨gv, j, none⟩) nqg y).cell 1).trans rfl, ((k17.far (p := ⟨gv, j, none⟩) nqg y).cell 2).trans rfl⟩
              have HOX := hide hown'
              have HGR := hide hgrow
              have HAT := hide hat
              clear hown' hgrow hat row5 k17 hR HS
              refine hK.out _ _ A5 ?_
              clear hK K
              try simp only [Act.put, List.setIfInBounds_toArray, List.set_cons_zero, List.set_cons_succ]
              refine wpAnyF_take (i := 13) (v := ?_) (by (simp only [List.getElem?_toArray, List.getElem?_cons_succ, List.getElem?_cons_zero]; rfl)) (by kernel_rfl) (by kernel_rfl) (by kernel_rfl) (by decide) (by exact fun _ _ _ h => h) ⟨A5, .inl (by kernel_rfl)⟩ (Or.inl ⟨by rfl, ?_⟩) ?_
              rotate_left
              · (intro w' _; go_simp <;> with_reducible rfl)
              try simp only [Act.put, List.setIfInBounds_toArray, List.set_cons_zero, List.set_cons_succ]
              refine wpAnyF_ready (rs := [14]) (by kernel_rfl) (by simp) ?_
              refine AllReadyF.last (by (simp only [List.getElem?_toArray, List.getElem?_cons_succ, List.getElem?_cons_zero]; rfl)) (by kernel_rfl) (fun K hK => ?_) AllReadyF.nil
              go_simp
              refine hK.out _ _ (A6 _) ?_
              clear hK K
              try simp only [Act.put, List.setIfInBounds_toArray, List.set_cons_zero, List.set_cons_succ]
              refine wpAnyF_done (by kernel_rfl) ?_ _
              go_wp2
              have hl1 : (L ++ [x]).length = L.length + 1 := by simp
              have oS := (hp3.below ((Below.refl _ _).alloc (Nat.le_refl _) (.cells #[.int .i64 x.k, .int .i64 x.a, .int .i64 x.v] 39))).swap (es' := L ++ [x]) hu HGR.out (by rw [evs_append, hl1]; exact HOX.out) HAT.out
              have HL2 := hide (show addE t (lnE (cutS 32 [] y)) = t.set j (L ++ [x]) by rw [← HX.out]; exact hAdd.out x)
              rw [HL2.out] at HD2
              have HS := hide oS
              have HLK := hide hlk
              clear HOX HGR HAT A5 A6 AS hc5 hf5 oS hp3 ho3 hown3 kq3 hlk
              go_roundw
              case rel => exact ⟨k + 1, t.set j (L ++ [x]), some ⟨gv, 0, none⟩, c, us.set j (.slice D5 (L.length + 1) d5), by omega, by omega, by go_num, by rw [List.length_set], HS.out, by rw [List.length_set]; omega, fun l hl => by
                rcases List.mem_or_eq_of_mem_set hl with hl | hl
                · have := HALL.out l hl; omega
                · rw [hl, hl1]; have := HLK.out; omega, HD2⟩
              case measure => simp [intOf]; omega
            · have HD2 := hide (show parS t (ls.drop (k + 1)) = R by rw [← HD.out, HDR.out, parS_no HNC.out (fun h => ht0 h.2)])
              have q2 : ¬ (0 : Int) < (t.length : Int) := by omega
              clear HD HDR hok
              go_wp2_with fail
              refine (LN.out _).mono ?_
              rintro e w4 ⟨x, rfl, hx, b4⟩
              have hp5 := (hp.below b4).below ((Below.refl _ _).alloc (Nat.le_refl _) (.cells #[.int .i64 x.k, .int .i64 x.a, .int .i64 x.v] 39))
              clear LN hx b4 hp
              go_wp2
              go_roundw
              case rel => exact ⟨k + 1, t, A, c, us, by omega, by omega, by go_num, rfl, hp5, by omega, fun l hl => by have := HALL.out l hl; omega, HD2⟩
              case measure => simp [intOf]; omega
          · rw [decide_eq_false hok] at LN
            have HD2 := hide (show parS t (ls.drop (k + 1)) = R by rw [← HD.out, HDR.out, parS_no HNC.out (fun h => hok h.1)])
            clear HD HDR hok
            go_wp2_with fail
            refine (LN.out _).mono ?_
            rintro e w4 ⟨x, rfl, hx, b4⟩
            have hp5 := (hp.below b4).below ((Below.refl _ _).alloc (Nat.le_refl _) (.cells #[.int .i64 x.k, .int .i64 x.a, .int .i64 x.v] 39))
            clear LN hx b4 hp
            go_wp2
            go_roundw
            case rel => exact ⟨k + 1, t, A, c, us, by omega, by omega, by go_num, rfl, hp5, by omega, fun l hl => by have := HALL.out l hl; omega, HD2⟩
            case measure => simp [intOf]; omega
        · have q1 : ¬ (4 : Int) < (y.length : Int) := by omega
          clear hcore h4 STO
          have HALL := hide hall
          clear hall hy8 hyl
          by_cases hok : lnOk (cutS 32 [] y)
          · rw [decide_eq_true hok] at LN
            by_cases ht0 : 0 < t.length
            · have HD2 := hide (show parS (addE t (lnE (cutS 32 [] y))) (ls.drop (k + 1)) = R by rw [← HD.out, HDR.out, parS_ev HNC.out ⟨hok, ht0⟩])
              have HOK := hide hok
              clear HD HDR hok
              obtain ⟨gv, rfl⟩ : ∃ g, A = some ⟨g, 0, none⟩ := by
                rcases hp.own.row.2 with ⟨h', h''⟩ | ⟨g, cap, cur, h', _⟩
                · omega
                · simp only [Value.slice.injEq, true_and] at h'
                  exact ⟨g, h'.1⟩
              obtain ⟨j, hjt⟩ : ∃ j, t.length = j + 1 := ⟨t.length - 1, by omega⟩
              have hjt2 : j < t.length := by omega
              obtain ⟨u, hu, hown, hu3⟩ := hp.own.rows j hjt2
              obtain ⟨ak, ck, hak⟩ := own_shape hown
              subst hak
              have hlk := HALL.out _ (List.getElem_mem hjt2)
              have hAdd : Hid (∀ x : Ev, addE t x = t.set j (t[j] ++ [x])) := hide (fun x => by
                unfold addE
                rw [show t.length - 1 = j by omega]
                simp [hjt2])
              have w1 : IntKind.i64.wrap ((t.length : Int) - 1) = j := by rw [show (t.length : Int) - 1 = j by omega]; exact IntWalk.i64_in _ (by omega)
              obtain ⟨L, hL⟩ : ∃ L, L = t[j] := ⟨_, rfl⟩
              rw [← hL] at hlk hu hown hu3 hAdd
              have hAk : decide (t.length ≤ j) = false := decide_eq_false (by omega)
              have hBk : ¬ t.length ≤ j := by omega
              have hka : (0 : Int) ≤ (j : Int) := by omega
              have hkb : (j : Int) < (t.length : Int) := by omega
              have hkc : (0 : Int) < (t.length : Int) := by omega
              clear hL hjt
              go_wp2_with fail
              refine (LN.out _).mono ?_
              rintro e w4 ⟨x, rfl, hx, b4⟩
              have HX := hide (hx HOK.out)
              have hp4 := hp.below b4
              have hown4 := own_below hown b4 (Nat.le_refl _)
              have hgv4 := (hp4.own.row.lt gv rfl).2
              have hru : ∀ b, (Value.slice ak L.length ck).ownBlock = some b → b < w4.heap.size := fun b e => (hown4.lt b e).2
              have hpk := hp4.below ((Below.refl _ _).alloc (Nat.le_refl _) (.cells #[.int .i64 x.k, .int .i64 x.a, .int .i64 x.v] 39))
              have kq := Bk.new w4 #[.int .i64 x.k, .int .i64 x.a, .int .i64 x.v] 39
              have hownk := hown4.alloc (.cells #[.int .i64 x.k, .int .i64 x.a, .int .i64 x.v] 39)
              obtain ⟨q, hq⟩ : ∃ q, q = w4.heap.size := ⟨_, rfl⟩
              have nqg : q ≠ gv := by omega
              rw [← hq] at kq hru
              have HQ := hide hq
              clear LN hx b4 hp hown hp4 hown4 hq
              go_wp2_with fail
              rw [← HQ.out]
              generalize w4.alloc (Obj.cells #[.int .i64 x.k, .int .i64 x.a, .int .i64 x.v] 39) = wk at *
              have AS := hide (show ∀ W, Below wk.heap.size wk W → (W.cell? ⟨q, 0, none⟩ = some (Value.int .i64 x.k) ∧ W.cell? ⟨q, 0 + 1, none⟩ = some (Value.int .i64 x.a) ∧ W.cell? ⟨q, 0 + 2, none⟩ = some (Value.int .i64 x.v)) ∧ W.cell? ⟨gv, j, none⟩ = some (Value.slice ak L.length ck) from fun W h => ⟨⟨((kq.kept h).cell 0).trans rfl, ((kq.kept h).cell 1).trans rfl, ((kq.kept h).cell 2).trans rfl⟩, by rw [(hpk.own.below h).row.cellAt j (by omega)]; exact hu⟩)
              have bW : Below wk.heap.size wk wk.drew := (Below.refl _ _).drew
              have hp3 := hpk.below bW
              have ho3 := hp3.own
              have hown3 : wk.drew.ownsRow base 39 3 (.slice ak L.length ck) L.length (evs L) := hownk
              have kq3 : Bk wk.drew q #[.int .i64 x.k, .int .i64 x.a, .int .i64 x.v] 39 := kq
              have zy : base ≤ wk.drew.heap.size := hp3.lo
              have H0 := AS.out wk.drew bW
              clear hownk kq hpk
              refine wp_region_F 12 (fun w' => w'.cell? ⟨q, 0, none⟩ = some (Value.int .i64 x.k) ∧ w'.cell? ⟨q, 0 + 1, none⟩ = some (Value.int .i64 x.a) ∧ w'.cell? ⟨q, 0 + 2, none⟩ = some (Value.int .i64 x.v)) (fun w' => w'.cell? ⟨gv, j, none⟩ = some (Value.slice ak L.length ck)) (by kernel_rfl) ⟨H0.1, H0.2⟩ (fun hHeld => ?_)
              try simp only [Act.put, List.setIfInBounds_toArray, List.set_cons_zero, List.set_cons_succ]
              have bW2 := hide bW
              clear bW H0
              generalize wk.drew = wy at *
              refine wpAnyF_take (i := 0) (v := ?_) (by (simp only [List.getElem?_toArray, List.getElem?_cons_zero]; rfl)) (by kernel_rfl) (by kernel_rfl) (by kernel_rfl) (by decide) (by exact fun _ _ _ h => h) ⟨hHeld.1, .inr hHeld.2⟩ (Or.inl ⟨by rfl, ?_⟩) ?_
              rotate_left
              · (intro w' _; go_simp <;> with_reducible rfl)
              try simp only [Act.put, List.setIfInBounds_toArray, List.set_cons_zero, List.set_cons_succ]
              refine wpAnyF_take (i := 1) (v := ?_) (by (simp only [List.getElem?_toArray, List.getElem?_cons_succ, List.getElem?_cons_zero]; rfl)) (by kernel_rfl) (by kernel_rfl) (by kernel_rfl) (by decide) (by exact fun _ _ _ h => h) ⟨hHeld.1, .inr hHeld.2⟩ (Or.inl ⟨by rfl, ?_⟩) ?_
              rotate_left
              · (intro w' _; go_simp <;> with_reducible rfl)
              try simp only [Act.put, List.setIfInBounds_toArray, List.set_cons_zero, List.set_cons_succ]
              refine wpAnyF_take (i := 2) (v := ?_) (by (simp only [List.getElem?_toArray, List.getElem?_cons_succ, List.getElem?_cons_zero]; rfl)) (by kernel_rfl) (by kernel_rfl) (by kernel_rfl) (by decide) (by exact fun _ _ _ h => h) ⟨hHeld.1, .inr hHeld.2⟩ (Or.inl ⟨by rfl, ?_⟩) ?_
              rotate_left
              · (intro w' _; go_simp <;> with_reducible rfl)
              try simp only [Act.put, List.setIfInBounds_toArray, List.set_cons_zero, List.set_cons_succ]
              refine wpAnyF_take (i := 3) (v := ?_) (by (simp only [List.getElem?_toArray, List.getElem?_cons_succ, List.getElem?_cons_zero]; rfl)) (by kernel_rfl) (by kernel_rfl) (by kernel_rfl) (by decide) (by exact fun _ _ _ h => h) ⟨hHeld.1, .inr hHeld.2⟩ (Or.inl ⟨by rfl, ?_⟩) ?_
              rotate_left
              · (intro w' _; go_simp <;> with_reducible rfl)
              try simp only [Act.put, List.setIfInBounds_toArray, List.set_cons_zero, List.set_cons_succ]
              refine wpAnyF_take (i := 4) (v := ?_) (by (simp only [List.getElem?_toArray, List.getElem?_cons_succ, List.getElem?_cons_zero]; rfl)) (by kernel_rfl) (by kernel_rfl) (by kernel_rfl) (by decide) (by exact fun _ _ _ h => h) ⟨hHeld.1, .inr hHeld.2⟩ (Or.inl ⟨by rfl, ?_⟩) ?_
              rotate_left
              · (intro w' _; go_simp <;> with_reducible rfl)
              try simp only [Act.put, List.setIfInBounds_toArray, List.set_cons_zero, List.set_cons_succ]
              refine wpAnyF_take (i := 5) (v := ?_) (by (simp only [List.getElem?_toArray, List.getElem?_cons_succ, List.getElem?_cons_zero]; rfl)) (by kernel_rfl) (by kernel_rfl) (by kernel_rfl) (by decide) (by exact fun _ _ _ h => h) ⟨hHeld.1, .inr hHeld.2⟩ (Or.inl ⟨by rfl, ?_⟩) ?_
              rotate_left
              · (intro w' _; go_simp <;> with_reducible rfl)
              try simp only [Act.put, List.setIfInBounds_toArray, List.set_cons_zero, List.set_cons_succ]
              refine wpAnyF_take (i := 6) (v := ?_) (by (simp only [List.getElem?_toArray, List.getElem?_cons_succ, List.getElem?_cons_zero]; rfl)) (by kernel_rfl) (by kernel_rfl) (by kernel_rfl) (by decide) (by exact fun _ _ _ h => h) ⟨hHeld.1, .inr hHeld.2⟩ (Or.inl ⟨by rfl, ?_⟩) ?_
              rotate_left
              · (intro w' _; go_simp <;> with_reducible rfl)
              try simp only [Act.put, List.setIfInBounds_toArray, List.set_cons_zero, List.set_cons_succ]
              refine wpAnyF_take (i := 7) (v := ?_) (by (simp only [List.getElem?_toArray, List.getElem?_cons_succ, List.getElem?_cons_zero]; rfl)) (by kernel_rfl) (by kernel_rfl) (by kernel_rfl) (by decide) (by exact fun _ _ _ h => h) ⟨hHeld.1, .inr hHeld.2⟩ (Or.inl ⟨by rfl, ?_⟩) ?_
              rotate_left
              · (intro w' _; go_simp <;> with_reducible rfl)
              try simp only [Act.put, List.setIfInBounds_toArray, List.set_cons_zero, List.set_cons_succ]
              refine wpAnyF_take (i := 8) (v := ?_) (by (simp only [List.getElem?_toArray, List.getElem?_cons_succ, List.getElem?_cons_zero]; rfl)) (by kernel_rfl) (by kernel_rfl) (by kernel_rfl) (by decide) (by exact fun _ _ _ h => h) ⟨hHeld.1, .inr hHeld.2⟩ (Or.inl ⟨by rfl, ?_⟩) ?_
              rotate_left
              · (intro w' _; go_simp <;> with_reducible rfl)
              try simp only [Act.put, List.setIfInBounds_toArray, List.set_cons_zero, List.set_cons_succ]
              refine wpAnyF_load (i := 9) (v := ?_) (by (simp only [List.getElem?_toArray, List.getElem?_cons_succ, List.getElem?_cons_zero]; rfl)) (by kernel_rfl) (by kernel_rfl) (by kernel_rfl) (by decide) (by exact fun _ _ _ h => h) hHeld (by kernel_rfl) (by kernel_rfl) (Or.inl ⟨by rfl, ?_⟩) ?_
              rotate_left
              · (intro w' hSw; (try dsimp only at hSw); obtain hSb0 := hSw; go_simp <;> with_reducible rfl)
              try simp only [Act.put, List.setIfInBounds_toArray, List.set_cons_zero, List.set_cons_succ]
              refine wpAnyF_keep (i := 10) (v := ?_) (by (simp only [List.getElem?_toArray, List.getElem?_cons_succ, List.getElem?_cons_zero]; rfl)) (by kernel_rfl) (by kernel_rfl) (by kernel_rfl) (by decide) (by exact fun _ _ _ h => h) ⟨hHeld.1, .inr hHeld.2⟩ (Or.inl ⟨by rfl, ?_⟩) ?_
              rotate_left
              · (intro w' hSw; (try dsimp only at hSw); obtain ⟨hSa0, hSa1, hSa2⟩ := hSw; go_simp <;> with_reducible rfl)
              try simp only [Act.put, List.setIfInBounds_toArray, List.set_cons_zero, List.set_cons_succ]
              refine wpAnyF_ready (rs := [11]) (by kernel_rfl) (by simp) ?_
              refine AllReadyF.cons (by (simp only [List.getElem?_toArray, List.getElem?_cons_succ, List.getElem?_cons_zero]; rfl)) (fun K hK => ?_) AllReadyF.nil
              go_simp
              have hR := RdE.one_new wy x 39
              have HS := AS.out (wy.alloc (.cells #[.int .i64 x.k, .int .i64 x.a, .int .i64 x.v] 39)) (bW2.out.alloc bW2.out.size _)
              refine hK.out _ _ ⟨HS.1, HS.2⟩ (fun hNew => ?_)
              clear hK K hHeld
              have hHeld := hNew
              clear hNew
              try simp only [Act.put, List.setIfInBounds_toArray, List.set_cons_zero, List.set_cons_succ]
              refine wpAnyF_ready (rs := [12]) (by kernel_rfl) (by simp) ?_
              refine AllReadyF.last (by (simp only [List.getElem?_toArray, List.getElem?_cons_succ, List.getElem?_cons_zero]; rfl)) (by kernel_rfl) (fun K hK => ?_) AllReadyF.nil
              refine step_append_re _ (by rfl) (.tmp 57) (.tmp 59) 55 (by rfl) base 39 i0 (.agg #[.int .i64 0, .int .i64 0, .int .i64 0]) 24 Tryz.underlying55 hi hz0 hz1 hz2 rfl (.slice ak L.length ck) L.length (evs L) (by rfl) (hown3.alloc (.cells #[.int .i64 x.k, .int .i64 x.a, .int .i64 x.v] 39)) (some ⟨wy.heap.size, 0, none⟩) [x] 1 (wy.heap.size + 1) (by rfl) hR (by unfold maxLen; simp only [List.length_cons, List.length_nil]; omega) (by simp only [List.length_cons, List.length_nil]; omega) (by simp; omega) ?_
              intro v' w7 hown' hgrow hat
              simp only [List.length_cons, List.length_nil, Nat.zero_add] at hown'
              obtain ⟨D5, d5, hv5⟩ := own_shape hown'
              subst hv5
              have k17 := (kq3.alloc (.cells #[.int .i64 x.k, .int .i64 x.a, .int .i64 x.v] 39)).grown hgrow (fun e => by have := hru q e.symm; omega)
              have row5 := (ho3.row.alloc (.cells #[.int .i64 x.k, .int .i64 x.a, .int .i64 x.v] 39)).kept hgrow (own_sep fun b hb e => by simp only [Value.ownBlock, Option.some.injEq] at hb; subst hb; exact hu3 _ e rfl)
              have hf5 := row5.frozenAt j
              have hc5 : w7.cell? ⟨gv, j, none⟩ = some (.slice ak L.length ck) := by rw [row5.cellAt j (by omega)]; exact hu
              have A5 : w7.cell? ⟨q, 0, none⟩ = some (Value.int .i64 x.k) ∧ w7.cell? ⟨q, 0 + 1, none⟩ = some (Value.int .i64 x.a) ∧ w7.cell? ⟨q, 0 + 2, none⟩ = some (Value.int .i64 x.v) := ⟨(k17.cell 0).trans rfl, (k17.cell 1).trans rfl, (k17.cell 2).trans rfl⟩
              have A6 : ∀ y, (w7.setCell ⟨gv, j, none⟩ y).cell? ⟨q, 0, none⟩ = some (Value.int .i64 x.k) ∧ (w7.setCell ⟨gv, j, none⟩ y).cell? ⟨q, 0 + 1, none⟩ = some (Value.int .i64 x.a) ∧ (w7.setCell ⟨gv, j, none⟩ y).cell? ⟨q, 0 + 2, none⟩ = some (Value.int .i64 x.v) := fun y => ⟨((k17.far (p := ⟨gv, j, none⟩) nqg y).cell 0).trans rfl, ((k17.far (p := ⟨gv, j, none⟩) nqg y).cell 1).trans rfl, ((k17.far (p := ⟨gv, j, none⟩) nqg y).cell 2).trans rfl⟩
              have HOX := hide hown'
              have HGR := hide hgrow
              have HAT := hide hat
              clear hown' hgrow hat row5 k17 hR HS
              refine hK.out _ _ A5 ?_
              clear hK K
              try simp only [Act.put, List.setIfInBounds_toArray, List.set_cons_zero, List.set_cons_succ]
              refine wpAnyF_take (i := 13) (v := ?_) (by (simp only [List.getElem?_toArray, List.getElem?_cons_succ, List.getElem?_cons_zero]; rfl)) (by kernel_rfl) (by kernel_rfl) (by kernel_rfl) (by decide) (by exact fun _ _ _ h => h) ⟨A5, .inl (by kernel_rfl)⟩ (Or.inl ⟨by rfl, ?_⟩) ?_
              rotate_left
              · (intro w' _; go_simp <;> with_reducible rfl)
              try simp only [Act.put, List.setIfInBounds_toArray, List.set_cons_zero, List.set_cons_succ]
              refine wpAnyF_ready (rs := [14]) (by kernel_rfl) (by simp) ?_
              refine AllReadyF.last (by (simp only [List.getElem?_toArray, List.getElem?_cons_succ, List.getElem?_cons_zero]; rfl)) (by kernel_rfl) (fun K hK => ?_) AllReadyF.nil
              go_simp
              refine hK.out _ _ (A6 _) ?_
              clear hK K
              try simp only [Act.put, List.setIfInBounds_toArray, List.set_cons_zero, List.set_cons_succ]
              refine wpAnyF_done (by kernel_rfl) ?_ _
              go_wp2
              have hl1 : (L ++ [x]).length = L.length + 1 := by simp
              have oS := (hp3.below ((Below.refl _ _).alloc (Nat.le_refl _) (.cells #[.int .i64 x.k, .int .i64 x.a, .int .i64 x.v] 39))).swap (es' := L ++ [x]) hu HGR.out (by rw [evs_append, hl1]; exact HOX.out) HAT.out
              have HL2 := hide (show addE t (lnE (cutS 32 [] y)) = t.set j (L ++ [x]) by rw [← HX.out]; exact hAdd.out x)
              rw [HL2.out] at HD2
              have HS := hide oS
              have HLK := hide hlk
              clear HOX HGR HAT A5 A6 AS hc5 hf5 oS hp3 ho3 hown3 kq3 hlk
              go_roundw
              case rel => exact ⟨k + 1, t.set j (L ++ [x]), some ⟨gv, 0, none⟩, c, us.set j (.slice D5 (L.length + 1) d5), by omega, by omega, by go_num, by rw [List.length_set], HS.out, by rw [List.length_set]; omega, fun l hl => by
                rcases List.mem_or_eq_of_mem_set hl with hl | hl
                · have := HALL.out l hl; omega
                · rw [hl, hl1]; have := HLK.out; omega, HD2⟩
              case measure => simp [intOf]; omega
            · have HD2 := hide (show parS t (ls.drop (k + 1)) = R by rw [← HD.out, HDR.out, parS_no HNC.out (fun h => ht0 h.2)])
              have q2 : ¬ (0 : Int) < (t.length : Int) := by omega
              clear HD HDR hok
              go_wp2_with fail
              refine (LN.out _).mono ?_
              rintro e w4 ⟨x, rfl, hx, b4⟩
              have hp5 := (hp.below b4).below ((Below.refl _ _).alloc (Nat.le_refl _) (.cells #[.int .i64 x.k, .int .i64 x.a, .int .i64 x.v] 39))
              clear LN hx b4 hp
              go_wp2
              go_roundw
              case rel => exact ⟨k + 1, t, A, c, us, by omega, by omega, by go_num, rfl, hp5, by omega, fun l hl => by have := HALL.out l hl; omega, HD2⟩
              case measure => simp [intOf]; omega
          · rw [decide_eq_false hok] at LN
            have HD2 := hide (show parS t (ls.drop (k + 1)) = R by rw [← HD.out, HDR.out, parS_no HNC.out (fun h => hok h.1)])
            clear HD HDR hok
            go_wp2_with fail
            refine (LN.out _).mono ?_
            rintro e w4 ⟨x, rfl, hx, b4⟩
            have hp5 := (hp.below b4).below ((Below.refl _ _).alloc (Nat.le_refl _) (.cells #[.int .i64 x.k, .int .i64 x.a, .int .i64 x.v] 39))
            clear LN hx b4 hp
            go_wp2
            go_roundw
            case rel => exact ⟨k + 1, t, A, c, us, by omega, by omega, by go_num, rfl, hp5, by omega, fun l hl => by have := HALL.out l hl; omega, HD2⟩
            case measure => simp [intOf]; omega
    · have HN := hide (show t = R by rw [← HD.out, List.drop_eq_nil_of_le (by omega)]; rfl)
      have hpo := hp.own
      have hpb := hp.old
      clear HD hp
      go_wp2
      go_ret
      rw [← HN.out]
      exact ⟨A, c, us, rfl, by rw [← HBS.out]; exact hpo, by rw [← HBS.out]; exact hpb, by omega⟩
end Go.Proofs.YtmdaianbhpppfaaGreatDoor
