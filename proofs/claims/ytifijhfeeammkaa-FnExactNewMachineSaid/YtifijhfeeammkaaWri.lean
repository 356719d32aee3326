/- The contract of (*cells).write, in the program. -/
import Derived.Test.YtifijhfeeammkaaIns
import Derived.Test.YtifijhfeeammkaaBin
import Derived.Test.YtifijhfeeammkaaBut
import Derived.Test.YtifijhfeeammkaaGHeld
import Derived.OneCell
namespace Go.Proofs.Ytifijhfeeammkaa
open Go.RowKit

theorem moved_trans {v v1 v2 : Value} {w w1 : World} (h : Moved v v1 w) (k : Moved v1 v2 w1) (hw : w.heap.size ≤ w1.heap.size) : Moved v v2 w := by
  rcases k with e | ⟨b, e, hb⟩
  · rcases h with e2 | ⟨b, e2, hb⟩
    · exact .inl (e.trans e2)
    · exact .inr ⟨b, e.trans e2, hb⟩
  · exact .inr ⟨b, e, Nat.le_trans hw hb⟩
theorem found_back {mem : List Cel} {a v : Int} {i : Nat} {f : Bool} (hr : rise mem = true) (h : Found mem a i f) : putAt mem i f a v = backM mem a v := putAt_back hr h.low h.high h.hit
theorem found_lt {mem : List Cel} {a : Int} {i : Nat} (h : Found mem a i true) : i < mem.length := by
  obtain ⟨c, hc, _⟩ := h.hit.1 rfl
  rcases Nat.lt_or_ge i mem.length with e | e
  · exact e
  · rw [List.getElem?_eq_none e] at hc; cases hc
/-- What write leaves. -/
def WrPost (base pm : Nat) (vm : Value) (m' : List Cel) (w : World) (e : Ending) (w' : World) : Prop :=
  ∃ v', e = .returned (.tuple #[]) ∧ Bk w' pm #[v'] 116 ∧ w'.ownsRow base 120 2 v' m'.length (cels m') ∧ Moved vm v' w ∧ v'.ownBlock ≠ some pm ∧ But (fun k => k = pm ∨ vm.ownBlock = some k) w w'

set_option maxRecDepth 100000 in
set_option maxHeartbeats 3200000 in
theorem write_any (base pm : Nat) (vm : Value) (mem : List Cel) (a v : Int) (w : World) (hr : rise mem = true) (hb : mem.length ≤ 1000000) (kp : Bk w pm #[vm] 116) (o : w.ownsRow base 120 2 vm mem.length (cels mem)) (hnep : vm.ownBlock ≠ some pm) (hbase : base ≤ w.heap.size) :
    Calls Try.prog 141 #[.pointer (some ⟨pm, 0, none⟩), .agg #[.int .i64 a, .int .i64 v]] w (WrPost base pm vm (backM mem a v) w) := by
  obtain ⟨W, hW⟩ : ∃ W, W = w.alloc (Obj.cells #[.int .i64 a, .int .i64 v] 120) := ⟨_, rfl⟩
  have kb : Bk W w.heap.size #[.int .i64 a, .int .i64 v] 120 := by rw [hW]; exact Bk.new w _ _
  have kp0 := kp
  have hneb : vm.ownBlock ≠ some w.heap.size := fun e => by have := o.lt _ e; omega
  have hpb : w.heap.size ≠ pm := by have := kp.lt; omega
  have BT : But (fun k => k = pm ∨ vm.ownBlock = some k) w W := by rw [hW]; exact But.of_below ((Below.refl _ _).alloc (Nat.le_refl _) _)
  have hSub : ∀ x, vm.ownBlock = some x → (x = pm ∨ vm.ownBlock = some x) ∨ w.heap.size ≤ x := fun x e => .inl (.inr e)
  have hzW : W.heap.size = w.heap.size + 1 := by rw [hW]; simp
  replace kp : Bk W pm #[vm] 116 := by rw [hW]; exact kp.alloc _
  replace o : W.ownsRow base 120 2 vm mem.length (cels mem) := by rw [hW]; exact o.alloc _
  have HW := hide hW
  clear hW kp0
  obtain ⟨A, c, rfl⟩ := own_shape o
  have p0 := (kp.cell 0).trans (rfl : _ = some (Value.slice A mem.length c))
  have b0 := (kb.cell 0).trans (rfl : _ = some (Value.int .i64 a))
  have b1 := (kb.cell 1).trans (rfl : _ = some (Value.int .i64 v))
  have HS := hide (fun V (hV : Below W.heap.size W V) => search_any mem A c a v V hb hr ((RdC.of_own o).below hV |>.more hV.size))
  go_enter Try.func141, Try.ntmps141
  go_wp2_with fail
  rw [← HW.out]
  go_cut [4, 5] (fun s4 s5 wx => ∃ i f, s4 = .int .i64 (i : Nat) ∧ s5 = .bool f ∧ Found mem a i f ∧ Below W.heap.size W wx)
  case first =>
    go_region_held3 (fun w' => w'.cell? ⟨pm, 0, none⟩ = some (Value.slice A mem.length c) ∧ w'.cell? ⟨w.heap.size, 0, none⟩ = some (Value.int .i64 a) ∧ w'.cell? ⟨w.heap.size, 1, none⟩ = some (Value.int .i64 v) ∧ Below W.heap.size W w')
      (first | assumption | exact ⟨p0, b0, b1, (Below.refl _ _).drew⟩ | (go_split_ands; exact ⟨cell_kept (by assumption) (by assumption), cell_kept (by assumption) (by assumption), cell_kept (by assumption) (by assumption), Below.trans (by assumption) (Below.mono (by assumption) (Below.size (by assumption)))⟩))
      (first
        | (go_at_call 151; (with_reducible refine (HS.out _ ?_).mono ?_); (go_split_ands; assumption); rintro e wa ⟨i, f, rfl, hF, ba⟩))
    all_goals
      go_wp2_with fail
      go_meet
      exact ⟨i, f, rfl, rfl, hF, by go_split_ands; assumption⟩
  case rest =>
    obtain ⟨i, f, rfl, rfl, hF, C1⟩ := hcut
    replace kb := kb.kept C1
    replace kp := kp.kept C1
    replace o := own_below o C1 (Nat.le_refl _)
    replace BT := BT.trans (S' := fun _ => False) (But.of_below C1) (fun _ e => e.elim)
    have hPB := found_back (v := v) hr hF
    have hzc := C1.size
    clear p0 b0 b1 C1 HS
    cases f
    · by_cases hv : v = 0
      · subst hv
        have hl : mem = backM mem a 0 := by rw [← hPB]; unfold putAt; simp
        have HL := hide hl
        have b1 := (kb.cell 1).trans (rfl : _ = some (Value.int .i64 0))
        clear hPB hl
        go_wp2
        go_end0
        refine ⟨_, rfl, kp, ?_, .inl rfl, hnep, BT⟩
        rw [← HL.out]
        exact o
      · have f1 : (v != 0) = true := bne_iff_ne.2 hv
        have f2 : (v == 0) = false := beq_eq_false_iff_ne.2 hv
        have hl : mem.take i ++ [⟨a, v⟩] ++ mem.drop i = backM mem a v := by rw [← hPB]; unfold putAt; rw [if_neg hv]; simp
        have hn1 : mem.length = mem.length := rfl
        have hi1 := hF.le
        have hb1 := hb
        have HL := hide hl
        have HLn := hide (show mem.length + 1 = (mem.take i ++ [(⟨a, v⟩ : Cel)] ++ mem.drop i).length by simp; omega)
        have hMv : Moved (.slice A mem.length c) (.slice A mem.length c) w := .inl rfl
        have q1 := (kb.cell 1).trans (rfl : _ = some (Value.int .i64 v))
        clear hPB hl hv
        go_wp2_with fail
        clear q1
        have b0 := ((show Bk wc.drew w.heap.size #[.int .i64 a, .int .i64 v] 120 from kb).cell 0).trans (rfl : _ = some (Value.int .i64 a))
        have b1 := ((show Bk wc.drew w.heap.size #[.int .i64 a, .int .i64 v] 120 from kb).cell 1).trans (rfl : _ = some (Value.int .i64 v))
        have p0 := ((show Bk wc.drew pm #[.slice A mem.length c] 116 from kp).cell 0).trans (rfl : _ = some (Value.slice A mem.length c))
        refine wp_region_F 7 (fun w' => w'.cell? ⟨w.heap.size, 0, none⟩ = some (Value.int .i64 a) ∧ w'.cell? ⟨w.heap.size, 1, none⟩ = some (Value.int .i64 v)) (fun w' => w'.cell? ⟨pm, 0, none⟩ = some (Value.slice A mem.length c)) (by kernel_rfl) ⟨⟨b0, b1⟩, p0⟩ (fun hHeld => ?_)
        try simp only [Act.put, List.setIfInBounds_toArray, List.set_cons_zero, List.set_cons_succ]
        have kbd : Bk wc.drew w.heap.size #[.int .i64 a, .int .i64 v] 120 := kb
        have kpd : Bk wc.drew pm #[.slice A mem.length c] 116 := kp
        have od := o.drew
        have Bd := But.trans BT (S' := fun _ => False) (But.of_below (Below.refl wc.heap.size wc).drew) (fun _ e => e.elim)
        have zd : wc.heap.size ≤ wc.drew.heap.size := Nat.le_refl _
        clear kb kp o BT b0 b1 p0
        generalize wc.drew = wy at *
        refine wpAnyF_take (i := 0) (v := ?_) (by (simp only [List.getElem?_toArray, List.getElem?_cons_zero]; rfl)) (by kernel_rfl) (by kernel_rfl) (by kernel_rfl) (by decide) (by exact fun _ _ _ h => h) ⟨hHeld.1, .inr hHeld.2⟩ (Or.inl ⟨by rfl, ?_⟩) ?_
        rotate_left
        · (intro w' _; go_simp <;> with_reducible rfl)
        try simp only [Act.put, List.setIfInBounds_toArray, List.set_cons_zero, List.set_cons_succ]
        refine wpAnyF_take (i := 1) (v := ?_) (by (simp only [List.getElem?_toArray, List.getElem?_cons_succ, List.getElem?_cons_zero]; rfl)) (by kernel_rfl) (by kernel_rfl) (by kernel_rfl) (by decide) (by exact fun _ _ _ h => h) ⟨hHeld.1, .inr hHeld.2⟩ (Or.inl ⟨by rfl, ?_⟩) ?_
        rotate_left
        · (intro w' _; go_simp <;> with_reducible rfl)
        try simp only [Act.put, List.setIfInBounds_toArray, List.set_cons_zero, List.set_cons_succ]
        refine wpAnyF_take (i := 2) (v := ?_) (by (simp only [List.getElem?_toArray, List.getElem?_cons_succ, List.getElem?_cons_zero]; rfl)) (by kernel_rfl) (by kernel_rfl) (by kernel_rfl) (by decide) (by exact fun _ _ _ h => h) ⟨hHeld.1, .inr hHeld.2⟩ (Or.inl ⟨by rfl, ?_⟩) ?_
        rotate_left
        · (intro w' _; go_simp <;> with_reducible rfl)
        try simp only [Act.put, List.setIfInBounds_toArray, List.set_cons_zero, List.set_cons_succ]
        refine wpAnyF_load (i := 3) (v := ?_) (by (simp only [List.getElem?_toArray, List.getElem?_cons_succ, List.getElem?_cons_zero]; rfl)) (by kernel_rfl) (by kernel_rfl) (by kernel_rfl) (by decide) (by exact fun _ _ _ h => h) hHeld (by kernel_rfl) (by kernel_rfl) (Or.inl ⟨by rfl, ?_⟩) ?_
        rotate_left
        · (intro w' hSw; (try dsimp only at hSw); obtain hSb0 := hSw; go_simp <;> with_reducible rfl)
        try simp only [Act.put, List.setIfInBounds_toArray, List.set_cons_zero, List.set_cons_succ]
        refine wpAnyF_take (i := 4) (v := ?_) (by (simp only [List.getElem?_toArray, List.getElem?_cons_succ, List.getElem?_cons_zero]; rfl)) (by kernel_rfl) (by kernel_rfl) (by kernel_rfl) (by decide) (by exact fun _ _ _ h => h) ⟨hHeld.1, .inr hHeld.2⟩ (Or.inl ⟨by rfl, ?_⟩) ?_
        rotate_left
        · (intro w' _; go_simp <;> with_reducible rfl)
        try simp only [Act.put, List.setIfInBounds_toArray, List.set_cons_zero, List.set_cons_succ]
        refine wpAnyF_keep (i := 5) (v := ?_) (by (simp only [List.getElem?_toArray, List.getElem?_cons_succ, List.getElem?_cons_zero]; rfl)) (by kernel_rfl) (by kernel_rfl) (by kernel_rfl) (by decide) (by exact fun _ _ _ h => h) ⟨hHeld.1, .inr hHeld.2⟩ (Or.inl ⟨by rfl, ?_⟩) ?_
        rotate_left
        · (intro w' hSw; (try dsimp only at hSw); obtain ⟨hSa0, hSa1⟩ := hSw; go_simp <;> with_reducible rfl)
        try simp only [Act.put, List.setIfInBounds_toArray, List.set_cons_zero, List.set_cons_succ]
        refine wpAnyF_ready (rs := [6]) (by kernel_rfl) (by simp) ?_
        refine AllReadyF.cons (by (simp only [List.getElem?_toArray, List.getElem?_cons_succ, List.getElem?_cons_zero]; rfl)) (fun K hK => ?_) AllReadyF.nil
        go_simp
        have kb2 := kbd.alloc (.cells #[.int .i64 a, .int .i64 v] 120)
        have kp2 := kpd.alloc (.cells #[.int .i64 a, .int .i64 v] 120)
        refine hK.out _ _ ⟨⟨(kb2.cell 0).trans rfl, (kb2.cell 1).trans rfl⟩, (kp2.cell 0).trans rfl⟩ (fun hNew => ?_)
        clear hK K hHeld
        have hHeld := hNew
        clear hNew
        try simp only [Act.put, List.setIfInBounds_toArray, List.set_cons_zero, List.set_cons_succ]
        refine wpAnyF_ready (rs := [7]) (by kernel_rfl) (by simp) ?_
        refine AllReadyF.last (by (simp only [List.getElem?_toArray, List.getElem?_cons_succ, List.getElem?_cons_zero]; rfl)) (by kernel_rfl) (fun K hK => ?_) AllReadyF.nil
        go_simp
        go_at_call 155
        refine (insert_any base wy.heap.size i (mem.length) (.slice A mem.length c) (mem) a v _ (by first | exact hn1 | rfl) hi1 (od.alloc _) hb1 (Bk.new wy #[.int .i64 a, .int .i64 v] 120) (fun e => by have := od.lt _ e; omega) (by have := Bd.size; simp; omega)).mono ?_
        rintro e w7 ⟨v', rfl, o7, g7, m7⟩
        obtain ⟨A9, c9, rfl⟩ := own_shape o7
        have kb7 := kb2.grown g7 (fun e => hneb e.symm)
        have kp7 := kp2.grown g7 (fun e => hnep e.symm)
        have B7 := (Bd.trans (S' := fun _ => False) (But.of_below ((Below.refl wy.heap.size wy).alloc (Nat.le_refl _) (.cells #[.int .i64 a, .int .i64 v] 120))) (fun _ e => e.elim)).trans (S' := fun k => (Value.slice A mem.length c).ownBlock = some k) (But.of_grown g7 (fun b e => e)) hSub
        have p7 := (kp7.cell 0).trans (rfl : _ = some (Value.slice A mem.length c))
        have f7 := kp7.frozen 0
        have A7 : w7.cell? ⟨w.heap.size, 0, none⟩ = some (Value.int .i64 a) ∧ w7.cell? ⟨w.heap.size, 1, none⟩ = some (Value.int .i64 v) := ⟨(kb7.cell 0).trans rfl, (kb7.cell 1).trans rfl⟩
        have A8 : ∀ x, (w7.setCell ⟨pm, 0, none⟩ x).cell? ⟨w.heap.size, 0, none⟩ = some (Value.int .i64 a) ∧ (w7.setCell ⟨pm, 0, none⟩ x).cell? ⟨w.heap.size, 1, none⟩ = some (Value.int .i64 v) := fun x => ⟨((kb7.far (p := ⟨pm, 0, none⟩) hpb x).cell 0).trans rfl, ((kb7.far (p := ⟨pm, 0, none⟩) hpb x).cell 1).trans rfl⟩
        refine hK.out _ _ A7 ?_
        clear hK K
        try simp only [Act.put, List.setIfInBounds_toArray, List.set_cons_zero, List.set_cons_succ]
        refine wpAnyF_take (i := 8) (v := ?_) (by (simp only [List.getElem?_toArray, List.getElem?_cons_succ, List.getElem?_cons_zero]; rfl)) (by kernel_rfl) (by kernel_rfl) (by kernel_rfl) (by decide) (by exact fun _ _ _ h => h) ⟨A7, .inl (by kernel_rfl)⟩ (Or.inl ⟨by rfl, ?_⟩) ?_
        rotate_left
        · (intro w' _; go_simp <;> with_reducible rfl)
        try simp only [Act.put, List.setIfInBounds_toArray, List.set_cons_zero, List.set_cons_succ]
        refine wpAnyF_ready (rs := [9]) (by kernel_rfl) (by simp) ?_
        refine AllReadyF.last (by (simp only [List.getElem?_toArray, List.getElem?_cons_succ, List.getElem?_cons_zero]; rfl)) (by kernel_rfl) (fun K hK => ?_) AllReadyF.nil
        go_simp
        refine hK.out _ _ (A8 _) ?_
        clear hK K
        try simp only [Act.put, List.setIfInBounds_toArray, List.set_cons_zero, List.set_cons_succ]
        refine wpAnyF_done (by kernel_rfl) ?_ _
        go_wp2
        go_end0
        have hnp7 : (Value.slice A9 (mem.length + 1) c9).ownBlock ≠ some pm := fun e => by
          rcases m7 with e7 | ⟨x, e7, hx⟩
          · rw [e7] at e; exact hnep e
          · rw [e7] at e; simp only [Option.some.injEq] at e; have := kpd.lt; simp at hx; omega
        refine ⟨_, rfl, by have := kp7.set_ 0 (.slice A9 (mem.length + 1) c9); simpa using this, ?_, ?_, hnp7, B7.set_ (.inl rfl) 0 _⟩
        · rw [← HL.out]
          rw [← HLn.out]
          exact ownsRow_setCell_other o7 hnp7 _
        · exact moved_trans hMv m7 (by have := Bd.size; simp; omega)
    · have hlt := found_lt hF
      obtain ⟨g, cap, cur, hvm, hbg, hg, hnc, hcm, hs, hx⟩ := own_open o (by omega)
      simp only [Value.slice.injEq, true_and] at hvm
      obtain ⟨rfl, rfl⟩ := hvm
      have hgp : g ≠ pm := fun e => hnep (by rw [e]; rfl)
      have hgb : g ≠ w.heap.size := fun e => hneb (by rw [e]; rfl)
      have q0 := (kp.cell 0).trans (rfl : _ = some (Value.slice (some ⟨g, 0, none⟩) mem.length c))
      have hi2 : (0 : Int) ≤ (i : Int) := by omega
      go_wp2_with fail
      refine (delete_any g mem.length c i cur mem _ hg rfl hnc hs hx hlt hb).mono ?_
      rintro e w3 ⟨rfl, cur', h1, h2, h3, g3⟩
      clear q0
      replace kb := kb.grown g3 (fun e => by simp only [Option.some.injEq] at e; omega)
      replace kp := kp.grown g3 (fun e => by simp only [Option.some.injEq] at e; omega)
      replace BT := BT.trans (S' := fun k => k = g) (But.of_grown g3 (fun b e => by cases e; rfl)) (fun x e => .inl (.inr (by rw [e]; rfl)))
      have o3 : w3.ownsRow base 120 2 (.slice (some ⟨g, 0, none⟩) (mem.length - 1) c) (mem.length - 1) (cels (mem.take i ++ mem.drop (i + 1))) := own_mk hbg h1 (by omega) hcm h2 h3
      have q0 := (kp.cell 0).trans (rfl : _ = some (Value.slice (some ⟨g, 0, none⟩) mem.length c))
      have qf := kp.frozen 0
      have hz3 := g3.size
      clear h1 h2 h3 g3 o hg hs hx
      obtain ⟨w4, hw4⟩ : ∃ w4, w4 = w3.setCell ⟨pm, 0, none⟩ (Value.slice (some ⟨g, 0, none⟩) (mem.length - 1) c) := ⟨_, rfl⟩
      have kp4 : Bk w4 pm #[.slice (some ⟨g, 0, none⟩) (mem.length - 1) c] 116 := by rw [hw4]; have := kp.set_ 0 (.slice (some ⟨g, 0, none⟩) (mem.length - 1) c); simpa using this
      have kb4 : Bk w4 w.heap.size #[.int .i64 a, .int .i64 v] 120 := by rw [hw4]; exact kb.far (p := ⟨pm, 0, none⟩) hpb _
      have o4 : w4.ownsRow base 120 2 (.slice (some ⟨g, 0, none⟩) (mem.length - 1) c) (mem.length - 1) (cels (mem.take i ++ mem.drop (i + 1))) := by rw [hw4]; exact ownsRow_setCell_other o3 (fun e => hgp (by simpa [Value.ownBlock] using e)) _
      have BT4 : But (fun k => k = pm ∨ (Value.slice (some ⟨g, 0, none⟩) mem.length c).ownBlock = some k) w w4 := by rw [hw4]; exact BT.set_ (.inl rfl) 0 _
      have hz4 : w4.heap.size = w3.heap.size := by rw [hw4]; simp
      have HW4 := hide hw4
      clear hw4 o3 BT
      have hlen1 : (mem.take i ++ mem.drop (i + 1)).length = mem.length - 1 := by simp; omega
      have hMv : Moved (.slice (some ⟨g, 0, none⟩) mem.length c) (.slice (some ⟨g, 0, none⟩) (mem.length - 1) c) w := .inl rfl
      by_cases hv : v = 0
      · subst hv
        have hl : mem.take i ++ mem.drop (i + 1) = backM mem a 0 := by rw [← hPB]; unfold putAt; simp
        have HL := hide hl
        have HH := hide hlen1
        clear hPB hl hlen1
        have b1 := (kb4.cell 1).trans (rfl : _ = some (Value.int .i64 0))
        clear kb kp
        go_wp2_with (rw [← HW4.out])
        go_end0
        refine ⟨_, rfl, kp4, ?_, hMv, hnep, BT4⟩
        rw [← HL.out, HH.out]
        exact o4
      · have f1 : (v != 0) = true := bne_iff_ne.2 hv
        have f2 : (v == 0) = false := beq_eq_false_iff_ne.2 hv
        have hm1 : (mem.take i ++ mem.drop (i + 1)).take i = mem.take i := by rw [List.take_append_of_le_length (by simp; omega), List.take_take, Nat.min_self]
        have hm2 : (mem.take i ++ mem.drop (i + 1)).drop i = mem.drop (i + 1) := by
          have e1 : (mem.take i).length = i := by simp; omega
          have e2 := List.drop_left (l₁ := mem.take i) (l₂ := mem.drop (i + 1))
          rw [e1] at e2
          exact e2
        have hl : (mem.take i ++ mem.drop (i + 1)).take i ++ [⟨a, v⟩] ++ (mem.take i ++ mem.drop (i + 1)).drop i = backM mem a v := by rw [← hPB, hm1, hm2]; unfold putAt; rw [if_neg hv]; simp
        obtain ⟨mem1, hmem1⟩ : ∃ x, x = mem.take i ++ mem.drop (i + 1) := ⟨_, rfl⟩
        rw [← hmem1] at hl o4 hlen1
        have hn1 := hlen1
        have hi1 : i ≤ mem.length - 1 := by omega
        have hb1 : mem.length - 1 ≤ 1000000 := by omega
        have HL := hide hl
        have HLn := hide (show mem.length - 1 + 1 = (mem1.take i ++ [(⟨a, v⟩ : Cel)] ++ mem1.drop i).length by simp; omega)
        have q1 := (kb4.cell 1).trans (rfl : _ = some (Value.int .i64 v))
        clear hPB hl hv hm1 hm2 hmem1 hlen1 kb kp
        go_wp2_with (rw [← HW4.out])
        have kb := kb4
        have kp := kp4
        have o := o4
        have BT := BT4
        clear q1 q0 qf kb4 kp4 o4 BT4
        have b0 := ((show Bk w4.drew w.heap.size #[.int .i64 a, .int .i64 v] 120 from kb).cell 0).trans (rfl : _ = some (Value.int .i64 a))
        have b1 := ((show Bk w4.drew w.heap.size #[.int .i64 a, .int .i64 v] 120 from kb).cell 1).trans (rfl : _ = some (Value.int .i64 v))
        have p0 := ((show Bk w4.drew pm #[.slice (some ⟨g, 0, none⟩) (mem.length - 1) c] 116 from kp).cell 0).trans (rfl : _ = some (Value.slice (some ⟨g, 0, none⟩) (mem.length - 1) c))
        refine wp_region_F 7 (fun w' => w'.cell? ⟨w.heap.size, 0, none⟩ = some (Value.int .i64 a) ∧ w'.cell? ⟨w.heap.size, 1, none⟩ = some (Value.int .i64 v)) (fun w' => w'.cell? ⟨pm, 0, none⟩ = some (Value.slice (some ⟨g, 0, none⟩) (mem.length - 1) c)) (by kernel_rfl) ⟨⟨b0, b1⟩, p0⟩ (fun hHeld => ?_)
        try simp only [Act.put, List.setIfInBounds_toArray, List.set_cons_zero, List.set_cons_succ]
        have kbd : Bk w4.drew w.heap.size #[.int .i64 a, .int .i64 v] 120 := kb
        have kpd : Bk w4.drew pm #[.slice (some ⟨g, 0, none⟩) (mem.length - 1) c] 116 := kp
        have od := o.drew
        have Bd := But.trans BT (S' := fun _ => False) (But.of_below (Below.refl w4.heap.size w4).drew) (fun _ e => e.elim)
        have zd : w4.heap.size ≤ w4.drew.heap.size := Nat.le_refl _
        clear kb kp o BT b0 b1 p0
        generalize w4.drew = wy at *
        refine wpAnyF_take (i := 0) (v := ?_) (by (simp only [List.getElem?_toArray, List.getElem?_cons_zero]; rfl)) (by kernel_rfl) (by kernel_rfl) (by kernel_rfl) (by decide) (by exact fun _ _ _ h => h) ⟨hHeld.1, .inr hHeld.2⟩ (Or.inl ⟨by rfl, ?_⟩) ?_
        rotate_left
        · (intro w' _; go_simp <;> with_reducible rfl)
        try simp only [Act.put, List.setIfInBounds_toArray, List.set_cons_zero, List.set_cons_succ]
        refine wpAnyF_take (i := 1) (v := ?_) (by (simp only [List.getElem?_toArray, List.getElem?_cons_succ, List.getElem?_cons_zero]; rfl)) (by kernel_rfl) (by kernel_rfl) (by kernel_rfl) (by decide) (by exact fun _ _ _ h => h) ⟨hHeld.1, .inr hHeld.2⟩ (Or.inl ⟨by rfl, ?_⟩) ?_
        rotate_left
        · (intro w' _; go_simp <;> with_reducible rfl)
        try simp only [Act.put, List.setIfInBounds_toArray, List.set_cons_zero, List.set_cons_succ]
        refine wpAnyF_take (i := 2) (v := ?_) (by (simp only [List.getElem?_toArray, List.getElem?_cons_succ, List.getElem?_cons_zero]; rfl)) (by kernel_rfl) (by kernel_rfl) (by kernel_rfl) (by decide) (by exact fun _ _ _ h => h) ⟨hHeld.1, .inr hHeld.2⟩ (Or.inl ⟨by rfl, ?_⟩) ?_
        rotate_left
        · (intro w' _; go_simp <;> with_reducible rfl)
        try simp only [Act.put, List.setIfInBounds_toArray, List.set_cons_zero, List.set_cons_succ]
        refine wpAnyF_load (i := 3) (v := ?_) (by (simp only [List.getElem?_toArray, List.getElem?_cons_succ, List.getElem?_cons_zero]; rfl)) (by kernel_rfl) (by kernel_rfl) (by kernel_rfl) (by decide) (by exact fun _ _ _ h => h) hHeld (by kernel_rfl) (by kernel_rfl) (Or.inl ⟨by rfl, ?_⟩) ?_
        rotate_left
        · (intro w' hSw; (try dsimp only at hSw); obtain hSb0 := hSw; go_simp <;> with_reducible rfl)
        try simp only [Act.put, List.setIfInBounds_toArray, List.set_cons_zero, List.set_cons_succ]
        refine wpAnyF_take (i := 4) (v := ?_) (by (simp only [List.getElem?_toArray, List.getElem?_cons_succ, List.getElem?_cons_zero]; rfl)) (by kernel_rfl) (by kernel_rfl) (by kernel_rfl) (by decide) (by exact fun _ _ _ h => h) ⟨hHeld.1, .inr hHeld.2⟩ (Or.inl ⟨by rfl, ?_⟩) ?_
        rotate_left
        · (intro w' _; go_simp <;> with_reducible rfl)
        try simp only [Act.put, List.setIfInBounds_toArray, List.set_cons_zero, List.set_cons_succ]
        refine wpAnyF_keep (i := 5) (v := ?_) (by (simp only [List.getElem?_toArray, List.getElem?_cons_succ, List.getElem?_cons_zero]; rfl)) (by kernel_rfl) (by kernel_rfl) (by kernel_rfl) (by decide) (by exact fun _ _ _ h => h) ⟨hHeld.1, .inr hHeld.2⟩ (Or.inl ⟨by rfl, ?_⟩) ?_
        rotate_left
        · (intro w' hSw; (try dsimp only at hSw); obtain ⟨hSa0, hSa1⟩ := hSw; go_simp <;> with_reducible rfl)
        try simp only [Act.put, List.setIfInBounds_toArray, List.set_cons_zero, List.set_cons_succ]
        refine wpAnyF_ready (rs := [6]) (by kernel_rfl) (by simp) ?_
        refine AllReadyF.cons (by (simp only [List.getElem?_toArray, List.getElem?_cons_succ, List.getElem?_cons_zero]; rfl)) (fun K hK => ?_) AllReadyF.nil
        go_simp
        have kb2 := kbd.alloc (.cells #[.int .i64 a, .int .i64 v] 120)
        have kp2 := kpd.alloc (.cells #[.int .i64 a, .int .i64 v] 120)
        refine hK.out _ _ ⟨⟨(kb2.cell 0).trans rfl, (kb2.cell 1).trans rfl⟩, (kp2.cell 0).trans rfl⟩ (fun hNew => ?_)
        clear hK K hHeld
        have hHeld := hNew
        clear hNew
        try simp only [Act.put, List.setIfInBounds_toArray, List.set_cons_zero, List.set_cons_succ]
        refine wpAnyF_ready (rs := [7]) (by kernel_rfl) (by simp) ?_
        refine AllReadyF.last (by (simp only [List.getElem?_toArray, List.getElem?_cons_succ, List.getElem?_cons_zero]; rfl)) (by kernel_rfl) (fun K hK => ?_) AllReadyF.nil
        go_simp
        go_at_call 155
        refine (insert_any base wy.heap.size i ((mem.length - 1)) (.slice (some ⟨g, 0, none⟩) (mem.length - 1) c) (mem1) a v _ (by first | exact hn1 | rfl) hi1 (od.alloc _) hb1 (Bk.new wy #[.int .i64 a, .int .i64 v] 120) (fun e => by have := od.lt _ e; omega) (by have := Bd.size; simp; omega)).mono ?_
        rintro e w7 ⟨v', rfl, o7, g7, m7⟩
        obtain ⟨A9, c9, rfl⟩ := own_shape o7
        have kb7 := kb2.grown g7 (fun e => hneb e.symm)
        have kp7 := kp2.grown g7 (fun e => hnep e.symm)
        have B7 := (Bd.trans (S' := fun _ => False) (But.of_below ((Below.refl wy.heap.size wy).alloc (Nat.le_refl _) (.cells #[.int .i64 a, .int .i64 v] 120))) (fun _ e => e.elim)).trans (S' := fun k => (Value.slice (some ⟨g, 0, none⟩) (mem.length - 1) c).ownBlock = some k) (But.of_grown g7 (fun b e => e)) hSub
        have p7 := (kp7.cell 0).trans (rfl : _ = some (Value.slice (some ⟨g, 0, none⟩) (mem.length - 1) c))
        have f7 := kp7.frozen 0
        have A7 : w7.cell? ⟨w.heap.size, 0, none⟩ = some (Value.int .i64 a) ∧ w7.cell? ⟨w.heap.size, 1, none⟩ = some (Value.int .i64 v) := ⟨(kb7.cell 0).trans rfl, (kb7.cell 1).trans rfl⟩
        have A8 : ∀ x, (w7.setCell ⟨pm, 0, none⟩ x).cell? ⟨w.heap.size, 0, none⟩ = some (Value.int .i64 a) ∧ (w7.setCell ⟨pm, 0, none⟩ x).cell? ⟨w.heap.size, 1, none⟩ = some (Value.int .i64 v) := fun x => ⟨((kb7.far (p := ⟨pm, 0, none⟩) hpb x).cell 0).trans rfl, ((kb7.far (p := ⟨pm, 0, none⟩) hpb x).cell 1).trans rfl⟩
        refine hK.out _ _ A7 ?_
        clear hK K
        try simp only [Act.put, List.setIfInBounds_toArray, List.set_cons_zero, List.set_cons_succ]
        refine wpAnyF_take (i := 8) (v := ?_) (by (simp only [List.getElem?_toArray, List.getElem?_cons_succ, List.getElem?_cons_zero]; rfl)) (by kernel_rfl) (by kernel_rfl) (by kernel_rfl) (by decide) (by exact fun _ _ _ h => h) ⟨A7, .inl (by kernel_rfl)⟩ (Or.inl ⟨by rfl, ?_⟩) ?_
        rotate_left
        · (intro w' _; go_simp <;> with_reducible rfl)
        try simp only [Act.put, List.setIfInBounds_toArray, List.set_cons_zero, List.set_cons_succ]
        refine wpAnyF_ready (rs := [9]) (by kernel_rfl) (by simp) ?_
        refine AllReadyF.last (by (simp only [List.getElem?_toArray, List.getElem?_cons_succ, List.getElem?_cons_zero]; rfl)) (by kernel_rfl) (fun K hK => ?_) AllReadyF.nil
        go_simp
        refine hK.out _ _ (A8 _) ?_
        clear hK K
        try simp only [Act.put, List.setIfInBounds_toArray, List.set_cons_zero, List.set_cons_succ]
        refine wpAnyF_done (by kernel_rfl) ?_ _
        go_wp2
        go_end0
        have hnp7 : (Value.slice A9 ((mem.length - 1) + 1) c9).ownBlock ≠ some pm := fun e => by
          rcases m7 with e7 | ⟨x, e7, hx⟩
          · rw [e7] at e; exact hnep e
          · rw [e7] at e; simp only [Option.some.injEq] at e; have := kpd.lt; simp at hx; omega
        refine ⟨_, rfl, by have := kp7.set_ 0 (.slice A9 ((mem.length - 1) + 1) c9); simpa using this, ?_, ?_, hnp7, B7.set_ (.inl rfl) 0 _⟩
        · rw [← HL.out]
          rw [← HLn.out]
          exact ownsRow_setCell_other o7 hnp7 _
        · exact moved_trans hMv m7 (by have := Bd.size; simp; omega)
end Go.Proofs.Ytifijhfeeammkaa
