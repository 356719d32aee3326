/- What the laws' walks rest upon, part 27. -/
import Derived.Test.YtnnfkmjhaljplaaGreatDoorM25
import Derived.Test.YtnnfkmjhaljplaaGreatDoorM26
import Derived.Test.YtnnfkmjhaljplaaGreatDoorM06
namespace Go.Proofs.YtnnfkmjhaljplaaGreatDoor
open Go.RowKit Go.Shelf Go.Maps
attribute [local go_sem] Oper.semAt_some
/-- Where a merging stands: O has gone; the map in block M, its variable in block q, the log's variable behind it. -/
structure MgS (w1 : World) (M q n : Nat) (t : List (List Ev)) (O : List Int) (v : Value) (w : World) : Prop where
  left : LeftM w M M n t O
  mv : Bk w q #[.map (some M)] 273
  lv : Bk w (q + 1) #[v] 28
  row : w.ownsRow (q + 4) 121 4 v O.length (stps (logO t O))
  old : Below M w1 w
  top : q + 4 ≤ w.heap.size
section
variable {w1 w w' : World} {M q n : Nat} {t : List (List Ev)} {O : List Int} {v : Value}
theorem MgS.below (h : MgS w1 M q n t O v w) (hb : Below w.heap.size w w') (hM : M ≤ w.heap.size) : MgS w1 M q n t O v w' :=
  ⟨h.left.below hb hM, h.mv.kept hb, h.lv.kept hb, own_below h.row hb (Nat.le_refl _), h.old.trans (hb.mono hM), Nat.le_trans h.top hb.size⟩
theorem MgS.own {β : Type} {B : Nat} (hM : M < B) (hMw : M ≤ w1.heap.size) : OwnFrom B (fun (_ : β) w => MgS w1 M q n t O v w) := fun _ X Y row hs hg hr => by
  have hrow : ∀ g cs t, Bk X g cs t → some g ≠ row := fun g cs t hb e => by
    obtain ⟨_, o, ho, hc⟩ := hr g e.symm
    rw [show X.heap[g]? = _ from hb] at ho; cases ho; cases hc
  have hb : Below M X Y := (Below.refl M X).grown hg (Nat.le_trans hMw hs.old.size) (fun k e => by have := (hr k e).1; omega)
  refine ⟨hs.left.other hg (fun e => by have := (hr M e.symm).1; omega) hb, hs.mv.grown hg (hrow _ _ _ hs.mv), hs.lv.grown hg (hrow _ _ _ hs.lv), hs.row.kept hg ?_, hs.old.trans hb, Nat.le_trans hs.top hg.size⟩
  rcases hs.row.2 with ⟨rfl, _⟩ | ⟨g, cap, cur, rfl, _, hgb, _⟩
  · exact .inl rfl
  · refine .inr fun e' => ?_
    obtain ⟨_, o, ho, hc⟩ := hr g (by simpa [Value.ownBlock] using e'.symm)
    rw [hgb] at ho; cases ho; cases hc
end
theorem row_cells {w : World} {base : Nat} {e : TypeId} {size n : Nat} {v : Value} {xs : List Value} (h : w.ownsRow base e size v n xs) (j : Nat) (o : Obj) (ej : v.ownBlock = some j) (hj : w.heap[j]? = some o) : o.isCells = true := by
  rcases h.2 with ⟨rfl, _⟩ | ⟨g, cap, cur, rfl, _, hgb, _⟩
  · simp [Value.ownBlock] at ej
  · obtain rfl : g = j := by simpa [Value.ownBlock] using ej
    rw [hgb] at hj; cases hj; rfl
/-- The log's variable, behind an append and ahead of the store. -/
theorem MgS.var5 {w1 W' w4 w5 : World} {M q n : Nat} {t : List (List Ev)} {O : List Int} {v : Value} (hs : MgS w1 M q n t O v W') (hMq : M < q) (hg4 : W'.grownBy w4 (some M)) {o1 o2 : Obj} (g5 : ((w4.alloc o1).alloc o2).grownBy w5 v.ownBlock) :
    w5.cell? ⟨q + 1, 0, none⟩ = some v ∧ w5.frozen? ⟨q + 1, 0, none⟩ = false := by
  have row4 := hs.row.kept hg4 (own_sep fun b hb e => by have := hs.row.lt b hb; simp at e; omega)
  have rowB := (row4.alloc o1).alloc o2
  have lv4 := hs.lv.grown hg4 (by simp; omega)
  have lv5 := ((lv4.alloc o1).alloc o2).grown g5 (own_apart rowB (q + 1) (.inl (by omega)))
  exact ⟨(lv5.cell 0).trans rfl, lv5.frozen 0⟩
/-- A turn that was taken, behind the store. -/
theorem MgS.step {w1 W' w4 w5 : World} {M q n : Nat} {t : List (List Ev)} {O : List Int} {p : Int} {v v5 : Value} (hs : MgS w1 M q n t O v W') (hMq : M < q) (hMW : M ≤ W'.heap.size) (hg4 : W'.grownBy w4 (some M)) (hl4 : LeftM w4 M M (n + 1) t (O ++ [p])) {o1 o2 : Obj}
    (o5 : w5.ownsRow (q + 4) 121 4 v5 (O.length + 1) (stps (logO t O) ++ stps [⟨p, evAtO t p (cntO O p)⟩])) (g5 : ((w4.alloc o1).alloc o2).grownBy w5 v.ownBlock) :
    MgS w1 M q (n + 1) t (O ++ [p]) v5 (w5.setCell ⟨q + 1, 0, none⟩ v5) ∧ KeepsFrom (q + 4) W' (w5.setCell ⟨q + 1, 0, none⟩ v5) ∧ KpT M (q + 1 + 1 + 1) (q + 1 + 1) W' (w5.setCell ⟨q + 1, 0, none⟩ v5) := by
  have row4 := hs.row.kept hg4 (own_sep fun b hb e => by have := hs.row.lt b hb; simp at e; omega)
  have rowB := (row4.alloc o1).alloc o2
  have z4 := hg4.size
  have b4 : Below M W' w4 := (Below.refl _ _).grown hg4 hMW (fun k e => by cases e; exact Nat.le_refl _)
  have bA : Below M w4 ((w4.alloc o1).alloc o2) := ((Below.refl _ _).alloc (by omega) _).alloc (by simp; omega) _
  have b5 : Below M ((w4.alloc o1).alloc o2) w5 := grown_below rowB g5 (by simp; omega) (by omega)
  have b6 : Below M w5 (w5.setCell ⟨q + 1, 0, none⟩ v5) := (Below.refl _ _).setCell (by simp only; omega) _
  have bB : Below w4.heap.size w4 ((w4.alloc o1).alloc o2) := ((Below.refl _ _).alloc (Nat.le_refl _) _).alloc (by simp) _
  have hn : ∀ g, g < q + 4 → some g ≠ v.ownBlock := fun g hg => own_apart rowB g (.inl hg)
  have box : ∀ (g : Nat) (u : Value) (ty : TypeId), Bk W' g #[u] ty → g ≠ M → g < q + 4 → g ≠ q + 1 → Bk (w5.setCell ⟨q + 1, 0, none⟩ v5) g #[u] ty := fun g u ty h h1 h2 h3 =>
    ((((h.grown hg4 (by simp; omega)).alloc o1).alloc o2).grown g5 (hn g h2)).far (p := ⟨q + 1, 0, none⟩) h3 v5
  have lv5 := (((hs.lv.grown hg4 (by simp; omega)).alloc o1).alloc o2).grown g5 (hn (q + 1) (by omega))
  refine ⟨⟨?_, box q _ _ hs.mv (by omega) (by omega) (by omega), ?_, ?_, hs.old.trans (((b4.trans bA).trans b5).trans b6), Nat.le_trans (Nat.le_trans hs.top (Nat.le_trans z4 (show w4.heap.size ≤ w5.heap.size by have h1 := g5.size; simp at h1; omega))) (by simp)⟩, ?_, ((b4.trans bA).trans b5).trans b6, fun u hu => box _ u _ hu (by omega) (by omega) (by omega), fun u hu => box _ u _ hu (by omega) (by omega) (by omega)⟩
  · exact ((hl4.below bB (by omega)).other g5 (hn M (by omega)) b5).other (grown_set w5 (q + 1) 0 v5) (by simp; omega) b6
  · have := lv5.set_ 0 v5
    exact this
  · rw [logO_snoc, stps_append, List.length_append, List.length_singleton]
    exact ownsRow_setCell_below o5 (a := ⟨q + 1, 0, none⟩) (by simp only; omega) v5
  · exact (KeepsFrom.of_grownBy hg4 (fun j e => by cases e; omega)).trans (((KeepsOthers.alloc w4 o1).trans ((KeepsOthers.alloc _ o2).trans ((KeepsOthers.of_grownBy g5 (fun j o ej hj => row_cells rowB j o ej hj)).trans (KeepsOthers.setCell _ _ _)))).from _)
/-- What MergeTrace tells. -/
def MgPost (t : List (List Ev)) (picks : List Int) (w : World) (e : Ending) (w' : World) : Prop :=
  ∃ A c, e = .returned (.agg #[.int .i64 (mgC t picks), .slice A (mgL t picks).length c]) ∧ w'.ownsRow w.heap.size 121 4 (.slice A (mgL t picks).length c) (mgL t picks).length (stps (mgL t picks)) ∧ Below w.heap.size w w'
set_option maxRecDepth 100000 in
set_option maxHeartbeats 2000000 in
theorem implMg_ok (t : List (List Ev)) (picks : List Int) (A Ap : Option Addr) (c cp : Nat) (w : World) (h0 : trF t = 0) (hpk : picks.length ≤ 100) (hpI : ∀ p ∈ picks, I64 p) (h : RdT w w.heap.size A t) (hp : Rd .i64 w w.heap.size Ap picks) :
    Calls Tryz.prog 153 #[.slice A t.length c, .slice Ap picks.length cp] w fun e w' => ∃ A c, e = .returned (.agg #[.int .i64 0, .slice A (logO t (ordF t picks)).length c]) ∧ w'.ownsRow w.heap.size 121 4 (.slice A (logO t (ordF t picks)).length c) (logO t (ordF t picks)).length (stps (logO t (ordF t picks))) ∧ Below w.heap.size w w' := by
  obtain ⟨ht1, ht4, hall⟩ : 1 ≤ t.length ∧ t.length ≤ 4 ∧ ∀ l ∈ t, l.length ≤ 8 := by
    have h1 : 1 ≤ t.length ∧ t.length ≤ 4 := by
      by_cases h : 1 ≤ t.length ∧ t.length ≤ 4
      · exact h
      · unfold trF at h0; rw [if_neg h] at h0; omega
    refine ⟨h1.1, h1.2, ?_⟩
    unfold trF at h0
    rw [if_pos h1] at h0
    have key : ∀ u : List (List Ev), stsF u = 0 → ∀ l ∈ u, l.length ≤ 8 := by
      intro u
      induction u with
      | nil => intro _ l hl; simp at hl
      | cons x r ih =>
        intro h l hl
        rw [stsF] at h
        by_cases hx : stF x = 0
        · rw [if_pos hx] at h
          rcases List.mem_cons.1 hl with rfl | hl
          · exact (stF_zero hx).1
          · exact ih h l hl
        · rw [if_neg hx] at h; exact absurd h hx
    exact key t h0
  obtain ⟨W, hW⟩ : ∃ W, W = w.alloc (Obj.cells #[Value.int .i64 0, .slice none 0 0] 209) := ⟨_, rfl⟩
  have HW := hide hW
  have hR : RdT W W.heap.size A t := by subst hW; exact (h.alloc (Nat.le_refl _) _).lt
  have hP : Rd .i64 W W.heap.size Ap picks := by subst hW; exact (hp.alloc (Nat.le_refl _) _).lt
  clear hW h hp
  have TF := hide (implTrF_any t A c W (by unfold maxLen; omega) hR)
  rw [h0] at TF
  obtain ⟨i0, hi, hz0, hz1, hz2⟩ := info_parts info_step
  have HTN := hide (turnsT_len (picks := picks) hall)
  have HOF := hide (ordF_eq t picks)
  have HT0 := hide h0
  clear h0
  refine (callsIn_wide (n := 3)).1 (callsIn_of_wp_marks Tryz.func153 rfl trivial (wpIn_wide.2 (wp_mono (Q := retOnly _) ?_ retOnly_up)) rfl)
  simp only [Tryz.ntmps153, List.size_toArray, List.length_cons, List.length_nil, Nat.reduceAdd, Nat.reduceSub, Array.replicate_succ, Array.replicate_zero, List.push_toArray, List.append_toArray, List.nil_append, List.cons_append]
  go_wp2_with fail
  rw [← HW.out]
  refine TF.out.mono ?_
  rintro e w1 ⟨rfl, b1⟩
  have hR1 := (hR.below b1).lt
  have hP1 := (hP.below b1).lt
  have LA := hide (left_any t A c w1 ht4 hall hR1)
  go_wp2_with fail
  refine LA.out.mono ?_
  rintro e w2 ⟨rfl, hL2, b2⟩
  go_wp2_with fail
  have hMq := hL2.lt
  obtain ⟨M, hM⟩ : ∃ M, M = w1.heap.size := ⟨_, rfl⟩
  obtain ⟨q, hq⟩ : ∃ q, q = w2.heap.size := ⟨_, rfl⟩
  have X1 := Bk.new w2 #[.map (some M)] 273
  have X2 := Bk.new (w2.alloc (Obj.cells #[.map (some M)] 273)) #[.slice none 0 0] 28
  have X3 := Bk.new ((w2.alloc (Obj.cells #[.map (some M)] 273)).alloc (Obj.cells #[.slice none 0 0] 28)) #[.slice A t.length c] 34
  have X4 := Bk.new (((w2.alloc (Obj.cells #[.map (some M)] 273)).alloc (Obj.cells #[.slice none 0 0] 28)).alloc (Obj.cells #[.slice A t.length c] 34)) #[.slice Ap picks.length cp] 25
  have X1 := ((X1.alloc (Obj.cells #[.slice none 0 0] 28)).alloc (Obj.cells #[.slice A t.length c] 34)).alloc (Obj.cells #[.slice Ap picks.length cp] 25)
  have X2 := (X2.alloc (Obj.cells #[.slice A t.length c] 34)).alloc (Obj.cells #[.slice Ap picks.length cp] 25)
  have X3 := X3.alloc (Obj.cells #[.slice Ap picks.length cp] 25)
  have bX := ((((Below.refl w2.heap.size w2).alloc (Nat.le_refl _) (Obj.cells #[.map (some M)] 273)).alloc (by simp) (Obj.cells #[.slice none 0 0] 28)).alloc (by simp; omega) (Obj.cells #[.slice A t.length c] 34)).alloc (by simp; omega) (Obj.cells #[.slice Ap picks.length cp] 25)
  refine (turns_any A Ap t.length c picks.length cp _).mono ?_
  rintro e w3 ⟨rfl, hw3⟩
  go_wp2_with fail
  simp only [World.size_alloc] at X2 X3 X4 hw3 ⊢
  rw [← hM] at hw3 ⊢
  rw [← hq] at X1 X2 X3 X4 hMq ⊢
  obtain ⟨X, hX⟩ : ∃ X, X = (((w2.alloc (Obj.cells #[.map (some M)] 273)).alloc (Obj.cells #[.slice none 0 0] 28)).alloc (Obj.cells #[.slice A t.length c] 34)).alloc (Obj.cells #[.slice Ap picks.length cp] 25) := ⟨_, rfl⟩
  have zX : X.heap.size = q + 4 := by rw [hX, hq]; simp
  rw [← hX] at X1 X2 X3 X4 bX ⊢
  rw [← hM] at hL2 hMq hR1 hP1 b2
  have bw1 : Below M w1 X := b2.trans (bX.mono (by omega))
  have s0 : MgS w1 M q 4 t [] (.slice none 0 0) X := ⟨hL2.below bX (by omega), X1, X2, World.ownsRow_nil _ _ _ _, bw1, by omega⟩
  have hRX := hR1.below bw1
  have hPX := hP1.below bw1
  have hMX : M ≤ X.heap.size := by omega
  have hMw1 : M ≤ w1.heap.size := by omega
  have hWM : W.heap.size ≤ M := by rw [hM]; exact b1.size
  have hgJ : w.heap.size < M := by have := W_size HW.out; omega
  have hJ : Bk w1 w.heap.size #[Value.int .i64 0, .slice none 0 0] 209 := by
    have h1 : Bk W w.heap.size #[Value.int .i64 0, .slice none 0 0] 209 := by rw [HW.out]; exact Bk.new w _ _
    exact h1.kept b1
  clear hw3 hX hM hq hL2 b2 bX hR hP hR1 hP1 TF LA X1 X2
  refine wpIn_wide.1 (wpIn_rangeFunc_ownG (F := Fence.wide) (n := 4) rfl (by decide) (gf := 244) (lb := #[.pointer (some ⟨q + 1 + 1 + 1, 0, none⟩), .pointer (some ⟨q + 1 + 1, 0, none⟩)]) rfl trivial (enters_of Tryz.func244 (by kernel_rfl) rfl)
    (turns_stops Fence.wide 3 trivial rfl (by decide) (q + 1 + 1 + 1) (q + 1 + 1) M t A c picks Ap cp ht4 hall hpk hpI X hMX X4 X3 hPX hRX) (fun h k => kpT_t h k) (kpT_b hMX) (Below.refl _ _) (fun _ => rfl)
    (fun pre W' => ∃ (O : List Int) (v : Value) (n : Nat), MgS w1 M q n t O v W' ∧ n ≤ 4 + pre.length ∧ Hid (O = ordL t [] (pre.map (·.1))))
    (fun _ _ _ => False)
    (fun s X' Y' row hs hg hr' => by
      obtain ⟨O, v, n, h1, h2, h3⟩ := hs
      exact ⟨O, v, n, MgS.own (β := Unit) (B := X.heap.size) (by omega) hMw1 () X' Y' row h1 hg hr', h2, h3⟩)
    (fun _ _ _ _ _ hs _ _ => hs)
    ⟨[], _, 4, s0, by simp, hide rfl⟩
    (fun x => { tmps :=
        #[Value.slice A t.length c, Value.slice Ap picks.length cp, undef, undef,
          Value.pointer (some { block := w.heap.size, off := 0 }), Value.int IntKind.i64 0,
          Value.pointer (some { block := q, off := 0 }),
          Value.pointer (some { block := q + 1, off := 0 }), Value.int .i64 x.1, undef, undef, Value.slice A t.length c,
          Value.int IntKind.i64 0, Value.int IntKind.i64 0, Value.bool false, undef, undef,
          Value.slice Ap picks.length cp, Value.int IntKind.i64 ↑picks.length,
          Value.bool (decide (100 < (picks.length : Int))), undef, Value.slice A t.length c, Value.map (some M),
          Value.slice A t.length c, Value.slice Ap picks.length cp,
          Value.func (Fn.func 244) #[]
            #[Value.pointer (some { block := q + 1 + 1 + 1, off := 0 }),
              Value.pointer (some { block := q + 1 + 1, off := 0 })],
          Value.int .i64 x.1, undef, undef, undef, undef, undef, undef, undef, undef, undef, undef, undef, undef, undef, undef,
          undef], defers := [] }) ?assign ?body ?done ?stop)
  case assign =>
    intro l x W' K hK'
    simp only [encN]
    gi_wp2
    exact hK'
  case body =>
    rintro l pre ⟨p, hp⟩ W' ⟨O, v, n, hs, hn, HO⟩ hlenN
    have hn2 : n ≤ 200 := by have := HTN.out; omega
    have zW' : M ≤ W'.heap.size := by have := hs.old.size; omega
    have TN := hide (takeN_any W' M M n t O p hp zW' (Nat.le_refl _) (by omega) hs.left)
    unfold TnPost at TN
    have cm : W'.cell? ⟨q, 0, none⟩ = some (.map (some M)) := by rw [hs.mv.cell 0]; rfl
    obtain ⟨D, d, rfl⟩ := own_shape hs.row
    have hOl : O.length ≤ 200 := by
      have := ordL_len t (pre.map (·.1)) []
      rw [← HO.out, List.length_map] at this
      simp only [List.length_nil] at this
      have := HTN.out
      omega
    gi_wp2
    refine ⟨trivial, (CallsIn.inRound l (callsIn_wide.2 TN.out)).mono ?_⟩
    rintro e w4 (⟨hc, rfl, hl4, hg4⟩ | ⟨hc, rfl, hl4, hb4⟩)
    · have HO2 := hide (show O ++ [p] = ordL t [] ((pre ++ [(⟨p, hp⟩ : Num64)]).map (·.1)) by
        rw [List.map_append, List.map_cons, List.map_nil, ordL_snoc, ← HO.out]
        exact (ordS_yes hc).symm)
      have ST := fun v5 w5 o5 g5 => hs.step (v5 := v5) (w5 := w5) (o1 := Obj.cells #[.int .i64 (evAtO t p (cntO O p)).k, .int .i64 (evAtO t p (cntO O p)).a, .int .i64 (evAtO t p (cntO O p)).v] 48) (o2 := Obj.cells #[.int .i64 p, .int .i64 (evAtO t p (cntO O p)).k, .int .i64 (evAtO t p (cntO O p)).a, .int .i64 (evAtO t p (cntO O p)).v] 121) hMq zW' hg4 hl4 o5 g5
      have V5 := fun w5 g5 => hs.var5 (w5 := w5) (o1 := Obj.cells #[.int .i64 (evAtO t p (cntO O p)).k, .int .i64 (evAtO t p (cntO O p)).a, .int .i64 (evAtO t p (cntO O p)).v] 48) (o2 := Obj.cells #[.int .i64 p, .int .i64 (evAtO t p (cntO O p)).k, .int .i64 (evAtO t p (cntO O p)).a, .int .i64 (evAtO t p (cntO O p)).v] 121) hMq hg4 g5
      have row4 := hs.row.kept hg4 (own_sep fun b hb e => by have := hs.row.lt b hb; simp at e; omega)
      have lv4 := hs.lv.grown hg4 (by simp; omega)
      have cl : w4.cell? ⟨q + 1, 0, none⟩ = some (.slice D O.length d) := (lv4.cell 0).trans rfl
      have hlq := lv4.lt
      obtain ⟨x, hx⟩ : ∃ x, x = evAtO t p (cntO O p) := ⟨_, rfl⟩
      rw [← hx] at ST V5 ⊢
      have hBl0 := RdP.one_new (w4.alloc (Obj.cells #[.int .i64 x.k, .int .i64 x.a, .int .i64 x.v] 48)) ⟨p, x⟩ 121
      have rowB := (row4.alloc (Obj.cells #[.int .i64 x.k, .int .i64 x.a, .int .i64 x.v] 48)).alloc (Obj.cells #[.int .i64 p, .int .i64 x.k, .int .i64 x.a, .int .i64 x.v] 121)
      simp only [World.size_alloc] at hBl0
      have HST := hide ST
      have HV5 := hide V5
      have hz4 : q + 4 ≤ w4.heap.size := by have := hg4.size; have := hs.top; omega
      clear hx hl4 hg4 hs TN lv4 row4 ST V5 cm hc
      gi_wp2_with (gi_at_builtin; refine wpListIn_append_rp _ rfl (.tmp 34) (.tmp 38) 28 rfl (q + 4) 121 i0 (.agg #[.int .i64 0, .int .i64 0, .int .i64 0, .int .i64 0]) 32 Tryz.underlying28 hi hz0 hz1 hz2 rfl _ _ _ rfl rowB (some ⟨w4.heap.size + 1, 0, none⟩) [⟨p, x⟩] 1 _ rfl hBl0 (by unfold maxLen; simp only [List.length_cons, List.length_nil]; omega) (by simp only [List.length_cons, List.length_nil]; omega) (by simp; omega) ?_; intro v5 w5 o5 g5 hat5; obtain ⟨D5, d5, hv5⟩ := own_shape o5; subst hv5; obtain ⟨c5, f5⟩ := HV5.out w5 g5; have FIN := hide (HST.out _ w5 o5 g5); clear o5 g5 hat5 rowB hBl0)
      exact ⟨by rw [zX]; exact FIN.out.2.1, FIN.out.2.2, _, _, n + 1, FIN.out.1, by rw [List.length_append, List.length_singleton]; omega, HO2⟩
    · have HO2 := hide (show O = ordL t [] ((pre ++ [(⟨p, hp⟩ : Num64)]).map (·.1)) by
        rw [List.map_append, List.map_cons, List.map_nil, ordL_snoc, ← HO.out]
        exact (ordS_no hc).symm)
      have bF := hb4.alloc hb4.size (Obj.cells #[.int .i64 0, .int .i64 0, .int .i64 0] 48)
      have hs6 := hs.below bF zW'
      have kF : KeepsOthers W' (w4.alloc (Obj.cells #[.int .i64 0, .int .i64 0, .int .i64 0] 48)) := ⟨bF.size, fun k _ hk _ => (bF.block k (Array.getElem?_eq_some_iff.1 hk).1).trans hk⟩
      have kp6 : KpT M (q + 1 + 1 + 1) (q + 1 + 1) W' (w4.alloc (Obj.cells #[.int .i64 0, .int .i64 0, .int .i64 0] 48)) := ⟨bF.mono zW', fun u hu => hu.kept bF, fun u hu => hu.kept bF⟩
      clear hl4 hb4 TN cm hc
      gi_wp2
      exact ⟨kF.from _, kp6, _, _, n, hs6, by rw [List.length_append]; omega, HO2⟩
  case done =>
    rintro D ys W3 hD hys ⟨O, v, n, hs, hn, HO⟩ hKD
    have hO : O = ordF t picks := by rw [HO.out, hys, HOF.out]
    subst hO
    obtain ⟨Dv, d, rfl⟩ := own_shape hs.row
    have hrow := hs.row
    rw [← logO_length t] at hrow
    have hlv : Bk W3 (q + 1) #[.slice Dv (logO t (ordF t picks)).length d] 28 := by rw [logO_length]; exact hs.lv
    obtain ⟨L, hL⟩ : ∃ L, L = logO t (ordF t picks) := ⟨_, rfl⟩
    rw [← hL] at hrow hlv
    have HL := hide hL
    have hgq : w.heap.size < q + 4 := by omega
    have cl := (hlv.cell 0).trans (rfl : _ = some (Value.slice Dv L.length d))
    have j7 := hJ.below hs.old hgJ
    have q0 := j7.cell 0
    have q1 := j7.cell 1
    have f0 := j7.frozen 0
    have f1 := j7.frozen 1
    simp at q0 q1
    have j8 : Bk ((W3.setCell ⟨w.heap.size, 0, none⟩ (.int .i64 0)).setCell ⟨w.heap.size, 1, none⟩ (.slice Dv L.length d)) w.heap.size #[Value.int .i64 0, .slice Dv L.length d] 209 := by
      have := (j7.set_ 0 (.int .i64 0)).set_ 1 (.slice Dv L.length d)
      simpa using this
    have o8 := ownsRow_setCell_below (ownsRow_setCell_below hrow (a := ⟨w.heap.size, 0, none⟩) hgq (.int .i64 0)) (a := ⟨w.heap.size, 1, none⟩) hgq (.slice Dv L.length d)
    have bw : Below w.heap.size w W3 := (W_below HW.out b1).trans (hs.old.mono (by omega))
    have b8 := (bw.setCell (p := ⟨w.heap.size, 0, none⟩) (Nat.le_refl _) (.int .i64 0)).setCell (p := ⟨w.heap.size, 1, none⟩) (Nat.le_refl _) (.slice Dv L.length d)
    have m3 : Mks X.heap.size [D] W3 := ⟨by simp, fun E hE => by simp at hE; subst hE; exact ⟨hD, hKD⟩⟩
    have m8 := (m3.others (KeepsOthers.setCell W3 ⟨w.heap.size, 0, none⟩ (.int .i64 0))).others (KeepsOthers.setCell _ ⟨w.heap.size, 1, none⟩ (.slice Dv L.length d))
    have hwX : w.heap.size < X.heap.size := by omega
    clear hs hys HO hL hrow hlv j7 bw m3
    go_wp2
    refine leaves_marks (B := X.heap.size) (Φ := fun w' => Bk w' w.heap.size #[Value.int .i64 0, .slice Dv L.length d] 209 ∧ w'.ownsRow (q + 4) 121 4 (.slice Dv L.length d) L.length (stps L) ∧ Below w.heap.size w w') ?_ ?_ [D] _ m8 ⟨j8, o8, b8⟩
    · rintro s X' Y row ⟨h1, h2, h3⟩ hg hr
      refine ⟨h1.grown hg (fun e => ?_), h2.kept hg ?_, h3.grown hg (Nat.le_trans h3.size (Nat.le_refl _)) (fun k e => by have := (hr k e).1; omega)⟩
      · have := (hr _ e.symm).1
        omega
      · rcases h2.2 with ⟨h', _⟩ | ⟨g, cap, cur, h', _, hgb, _⟩
        · exact .inl (by rw [h']; rfl)
        · refine .inr fun e' => ?_
          rw [h'] at e'
          obtain ⟨_, o, ho, hc⟩ := hr g (by simpa [Value.ownBlock] using e'.symm)
          rw [hgb] at ho; cases ho; cases hc
    · rintro w' ⟨h1, h2, h3⟩
      have q0 := h1.cell 0
      have q1 := h1.cell 1
      simp at q0 q1
      have e := HL.out
      subst e
      exact ⟨.agg #[.int .i64 0, .slice Dv (logO t (ordF t picks)).length d], by simp [results, Tryz.results153, go_sem, q0, q1], ⟨Dv, d, rfl, own_mono h2 (by omega), h3⟩⟩
  case stop =>
    rintro D c' pre W' _ _ h'
    exact h'.elim
set_option maxRecDepth 100000 in
set_option maxHeartbeats 800000 in
theorem implMg_any (t : List (List Ev)) (picks : List Int) (A Ap : Option Addr) (c cp : Nat) (w : World) (hm : t.length ≤ maxLen) (hpm : picks.length ≤ maxLen) (hpI : ∀ p ∈ picks, I64 p) (h : RdT w w.heap.size A t) (hp : Rd .i64 w w.heap.size Ap picks) :
    Calls Tryz.prog 153 #[.slice A t.length c, .slice Ap picks.length cp] w (MgPost t picks w) := by
  unfold MgPost
  unfold maxLen at hpm
  by_cases h0 : trF t = 0
  · by_cases hpk : picks.length ≤ 100
    · have e := mgC_ok h0 hpk
      rw [mgL_ok e, e]
      exact implMg_ok t picks A Ap c cp w h0 hpk hpI h hp
    · have e := mgC_many h0 hpk
      rw [mgL_bad (by rw [e]; decide), e]
      obtain ⟨W, hW⟩ : ∃ W, W = w.alloc (Obj.cells #[Value.int .i64 0, .slice none 0 0] 209) := ⟨_, rfl⟩
      have HW := hide hW
      have hR : RdT W W.heap.size A t := by subst hW; exact (h.alloc (Nat.le_refl _) _).lt
      clear hW h
      have TF := hide (implTrF_any t A c W hm hR)
      rw [h0] at TF
      have hpk' : 100 < picks.length := by omega
      clear hpk h0 e
      go_enter Tryz.func153, Tryz.ntmps153
      go_wp2_with fail
      rw [← HW.out]
      refine TF.out.mono ?_
      rintro e w1 ⟨rfl, hb⟩
      have q0 := W_cell HW.out hb 0
      have q1 := W_cell HW.out hb 1
      have f0 := W_frozen HW.out hb 0
      have f1 := W_frozen HW.out hb 1
      simp at q0 q1
      go_wp2
      refine bodyPost_ret (v := .agg #[.int .i64 2, .slice none 0 0]) (by simp [results, Tryz.results153, go_sem, q0, q1]) rfl ?_
      exact ⟨none, 0, rfl, World.ownsRow_nil _ _ _ _, ((W_below HW.out hb).setCell (Nat.le_refl _) _).setCell (Nat.le_refl _) _⟩
  · have e := mgC_bad (picks := picks) h0
    rw [mgL_bad (by rw [e]; exact h0), e]
    obtain ⟨W, hW⟩ : ∃ W, W = w.alloc (Obj.cells #[Value.int .i64 0, .slice none 0 0] 209) := ⟨_, rfl⟩
    have HW := hide hW
    have hR : RdT W W.heap.size A t := by subst hW; exact (h.alloc (Nat.le_refl _) _).lt
    clear hW h
    have TF := hide (implTrF_any t A c W hm hR)
    obtain ⟨F, hF⟩ : ∃ F, F = trF t := ⟨_, rfl⟩
    rw [← hF] at TF h0 ⊢
    have g0 : (F != 0) = true := bne_iff_ne.2 h0
    have g1 : (F == 0) = false := beq_eq_false_iff_ne.2 h0
    clear hF h0 e
    go_enter Tryz.func153, Tryz.ntmps153
    go_wp2_with fail
    rw [← HW.out]
    refine TF.out.mono ?_
    rintro e w1 ⟨rfl, hb⟩
    have q0 := W_cell HW.out hb 0
    have q1 := W_cell HW.out hb 1
    have f0 := W_frozen HW.out hb 0
    have f1 := W_frozen HW.out hb 1
    simp at q0 q1
    go_wp2
    refine bodyPost_ret (v := .agg #[.int .i64 F, .slice none 0 0]) (by simp [results, Tryz.results153, go_sem, q0, q1]) rfl ?_
    exact ⟨none, 0, rfl, World.ownsRow_nil _ _ _ _, ((W_below HW.out hb).setCell (Nat.le_refl _) _).setCell (Nat.le_refl _) _⟩
end Go.Proofs.YtnnfkmjhaljplaaGreatDoor
