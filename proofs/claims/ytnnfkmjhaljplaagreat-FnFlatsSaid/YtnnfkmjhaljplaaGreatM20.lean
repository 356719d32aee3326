/- What the laws' walks rest upon, part 20. -/
import Derived.Test.YtnnfkmjhaljplaaGreatM17
import Derived.Test.YtnnfkmjhaljplaaGreatM15
import Derived.Test.YtnnfkmjhaljplaaGreatM16
import Derived.Test.YtnnfkmjhaljplaaGreatM07
import Derived.BigQuiet
import Derived.Test.YtnnfkmjhaljplaaGreatM04
import Derived.Deep.DeepCutAuto
namespace Go.Proofs.YtnnfkmjhaljplaaGreat
open Go.RowKit
/-- A line has been written back: the machine's block has a new memory. -/
def BackPost (v0 : Value) (g : Nat) (mem' : List Cel) (w : World) (e : Ending) (w' : World) : Prop :=
  ∃ A2 c2, e = .returned (.tuple #[]) ∧ Bk w' g #[v0, .slice A2 mem'.length c2] 35 ∧ w'.ownsRow w.heap.size 139 2 (.slice A2 mem'.length c2) mem'.length (cels mem') ∧ w.grownBy w' (some g)
/-- While it is written: the row that grows, the line's box. -/
structure BkI (w wr : World) (Q : Nat) (s a v : Int) (P : List Cel) (vo : Value) : Prop where
  row : wr.ownsRow (Q + 1) 139 2 vo P.length (cels P)
  box : Bk wr Q #[.int .i64 s, .int .i64 a, .int .i64 v] 129
  below : Below Q w wr
section
variable {w wr w' : World} {Q : Nat} {s a v : Int} {P : List Cel} {vo v' : Value}
theorem BkI.lt (h : BkI w wr Q s a v P vo) : Q < wr.heap.size := h.box.lt
theorem BkI.alloc (h : BkI w wr Q s a v P vo) (o : Obj) : BkI w (wr.alloc o) Q s a v P vo := ⟨h.row.alloc o, h.box.alloc o, h.below.alloc (by have := h.lt; omega) o⟩
theorem BkI.drewN (h : BkI w wr Q s a v P vo) (n : Nat) : BkI w (wr.drewN n) Q s a v P vo := ⟨h.row, h.box.drewN n, below_drewN h.below n⟩
theorem BkI.push (h : BkI w wr Q s a v P vo) (x : Cel) (ho : w'.ownsRow (Q + 1) 139 2 v' (P.length + 1) (cels P ++ cels [x])) (hg : wr.grownBy w' vo.ownBlock) : BkI w w' Q s a v (P ++ [x]) v' :=
  ⟨by rw [List.length_append, List.length_singleton, cels_append]; exact ho, h.box.grown hg (fun e => by have := h.row.lt Q e.symm; omega), h.below.trans (grown_below h.row hg (by have := h.lt; omega) (Nat.le_succ Q))⟩
end
theorem BkI.done {w wr : World} {Q : Nat} {s a v : Int} {P mem' : List Cel} {vo x v0 : Value} {g dc : Nat} {D : Option Addr} {e : Ending} (h : BkI w wr Q s a v P vo) (hQ : w.heap.size = Q) (kg : Bk w g #[v0, x] 35) (hv : vo = .slice D P.length dc) (he : e = .returned (.tuple #[])) (hM : mem' = P) : BackPost v0 g mem' w e (wr.setCell ⟨g, 1, none⟩ vo) := by
  subst hM
  subst hv
  subst hQ
  have hg := kg.lt
  have kgr := kg.below h.below hg
  have hb := h.below
  refine ⟨D, dc, he, by have := kgr.set_ 1 (.slice D mem'.length dc); simpa using this, own_mono (ownsRow_setCell_below h.row (a := ⟨g, 1, none⟩) (by simp; omega) _) (by omega), ?_⟩
  exact World.grownBy.trans ⟨hb.os, hb.tape, hb.output, hb.size, fun k hk _ => hb.block k hk⟩ (grown_set wr g 1 _)
theorem backL_cons (a v : Int) (d : Bool) (c : Cel) (r : List Cel) : backL a v d (c :: r) = (if d = false ∧ a < c.a then [⟨a, v⟩] else []) ++ ((if c.a ≠ a then [c] else []) ++ backL a v (d || decide (a < c.a)) r) := rfl
set_option maxRecDepth 100000 in
set_option maxHeartbeats 2000000 in
theorem l7Back_any (mem : List Cel) (v0 : Value) (s a v : Int) (g : Nat) (A' : Option Addr) (c' : Nat) (w : World) (hm : mem.length ≤ 100) (kg : Bk w g #[v0, .slice A' mem.length c'] 35) (h : RdC w w.heap.size A' mem) :
    Calls Tryz.prog 76 #[.pointer (some ⟨g, 0, none⟩), evV s a v] w (BackPost v0 g (backM mem a v) w) := by
  obtain ⟨i0, hi, hz0, hz1, hz2⟩ := info_parts info_cell
  have hgl := kg.lt
  obtain ⟨W, hW⟩ : ∃ W, W = (w.alloc (Obj.cells #[.int .i64 s, .int .i64 a, .int .i64 v] 129)).alloc (Obj.cells #[] 139) := ⟨_, rfl⟩
  obtain ⟨k1, k2, hz, B0⟩ := two_new _ _ _ _ _ W hW
  have rO : W.ownsRow (w.heap.size + 1) 139 2 (.slice (some ⟨w.heap.size + 1, 0, none⟩) 0 0) 0 [] := by
    have e1 : (w.alloc (Obj.cells #[.int .i64 s, .int .i64 a, .int .i64 v] 129)).heap.size = w.heap.size + 1 := by simp
    have := World.ownsRow_lit (base := w.heap.size + 1) (e := 139) (size := 2) (w.alloc (Obj.cells #[.int .i64 s, .int .i64 a, .int .i64 v] 129)) #[] 0 (by rw [e1]; exact Nat.le_refl _) (by simp) rfl
    rw [e1, ← hW] at this
    exact this
  have HI : BkI w W w.heap.size s a v [] (.slice (some ⟨w.heap.size + 1, 0, none⟩) 0 0) := ⟨rO, k1, B0⟩
  have GK := hide (fun V (hV : Below w.heap.size w V) => ((kg.below hV hgl).cell 1).trans (rfl : _ = some (Value.slice A' mem.length c')))
  have XK := hide (fun V (hV : Bk V w.heap.size #[.int .i64 s, .int .i64 a, .int .i64 v] 129) => And.intro ((hV.cell 1).trans (rfl : _ = some (Value.int .i64 a))) ((hV.cell 2).trans (rfl : _ = some (Value.int .i64 v))))
  have x2 := (XK.out W k1).2
  have g1 := GK.out W B0
  have hd0 : ∃ d0, d0 = decide (v = 0) := ⟨_, rfl⟩
  obtain ⟨d0, hd0⟩ := hd0
  have HM := hide (show backM mem a v = [] ++ backL a v d0 (mem.drop 0) by rw [hd0]; rfl)
  have hvd : (v == 0) = d0 := by rw [hd0]; rfl
  have HW := hide hW
  clear hW k1 k2 rO hd0
  go_enter Tryz.func76, Tryz.ntmps76
  generalize hQ : w.heap.size = Q at *
  go_wp2_with (rw [← HW.out])
  go_loopw [4, 5, 16] (fun o dn i wr => ∃ (k : Nat) (d : Bool) (P : List Cel) (D : Option Addr) (dc : Nat), k ≤ mem.length ∧ i = .int .i64 k ∧ dn = .bool d ∧ o = .slice D P.length dc ∧ P.length ≤ 2 * k ∧ BkI w wr Q s a v P o ∧ Hid (backM mem a v = P ++ backL a v d (mem.drop k))) (fun _ _ i _ => mem.length - (intOf i).toNat)
  case atStart => exact ⟨0, d0, [], some ⟨Q + 1, 0, none⟩, 0, Nat.zero_le _, rfl, rfl, rfl, by simp, HI, HM⟩
  case round =>
    clear HI g1 x2
    obtain ⟨k, d, P, D, dc, hk, rfl, rfl, rfl, hPk, hI, HR⟩ := hrel
    have g1 := GK.out _ hI.below
    have x12 := XK.out _ hI.box
    obtain ⟨x1, x2⟩ := x12
    by_cases hlt : k < mem.length
    · obtain ⟨b, off, rfl, hbb, c0, c1⟩ := (h.below hI.below).get hlt
      have hdr : mem.drop k = mem[k] :: mem.drop (k + 1) := List.drop_eq_getElem_cons hlt
      have hR := HR.out
      rw [hdr, backL_cons] at hR
      obtain ⟨C, hC⟩ : ∃ C, C = mem[k] := ⟨_, rfl⟩
      rw [← hC] at c0 c1 hR
      have hbw : b < wr.heap.size := by have := hI.lt; omega
      have HC := hide hC
      clear hdr hC HR
      cases d with
      | true =>
        simp only [Bool.true_eq_false, false_and, if_false, List.nil_append, Bool.true_or] at hR
        go_wp2
        go_quiet (fail)
        by_cases hne : C.a = a
        · have n1 : (C.a != a) = false := by simp [hne]
          rw [if_neg (fun hh => hh hne), List.nil_append] at hR
          have HR := hide hR
          clear hR hne
          go_wp2
          go_quiet (fail)
          go_wp2
          go_roundw
          case rel => exact ⟨k + 1, true, P, D, dc, by omega, by go_num, rfl, by first | rfl | simp, by first | omega | (simp; omega), (hI.drewN _), hide (by rw [HR.out] <;> simp)⟩
          case measure => simp [intOf]; omega
        · have n1 : (C.a != a) = true := bne_iff_ne.2 hne
          rw [if_pos hne] at hR
          have HR := hide hR
          clear hR hne
          go_wp2
          go_quiet (fail)
          go_wp2_with (at_builtin; refine wpList_append_rc _ rfl (.tmp 53) (.tmp 61) 33 rfl (Q + 1) 139 i0 (.agg #[.int .i64 0, .int .i64 0]) 16 Tryz.underlying33 hi hz0 hz1 hz2 rfl _ _ _ rfl ((hI.drewN _).row.alloc _) (some ⟨_, 0, none⟩) [C] 1 _ rfl (RdC.one_new _ C _) (by unfold maxLen; simp; omega) (by simp; omega) (by have := hI.lt; simp; omega) ?_; intro v4 w4 o4 g4 _)
          have HY := ((hI.drewN _).alloc (Obj.cells #[.int .i64 (C : Cel).a, .int .i64 (C : Cel).v] 139)).push C o4 g4
          obtain ⟨HYD, HYd, hv4⟩ := own_shape o4
          rw [hv4] at HY ⊢
          clear o4 g4 hv4
          go_wp2
          go_roundw
          case rel => exact ⟨k + 1, true, P ++ [C], HYD, HYd, by omega, by go_num, rfl, by first | rfl | simp, by first | omega | (simp; omega), HY, hide (by rw [HR.out] <;> simp)⟩
          case measure => simp [intOf]; omega
      | false =>
        by_cases hac : a < C.a
        · have l1 : decide (a < C.a) = true := decide_eq_true hac
          rw [if_pos ⟨rfl, hac⟩, l1, Bool.false_or, if_pos (by omega)] at hR
          have n1 : (C.a != a) = true := bne_iff_ne.2 (by omega)
          have HR := hide hR
          clear hR
          go_wp2
          go_quiet (fail)
          go_wp2_with (at_builtin; refine wpList_append_rc _ rfl (.tmp 34) (.tmp 40) 33 rfl (Q + 1) 139 i0 (.agg #[.int .i64 0, .int .i64 0]) 16 Tryz.underlying33 hi hz0 hz1 hz2 rfl _ _ _ rfl ((hI.drewN _).row.alloc _) (some ⟨_, 0, none⟩) [⟨a, v⟩] 1 _ rfl (RdC.one_new _ ⟨a, v⟩ _) (by unfold maxLen; simp; omega) (by simp; omega) (by have := hI.lt; simp; omega) ?_; intro v4 w4 o4 g4 _)
          have HX := ((hI.drewN _).alloc (Obj.cells #[.int .i64 (⟨a, v⟩ : Cel).a, .int .i64 (⟨a, v⟩ : Cel).v] 139)).push ⟨a, v⟩ o4 g4
          obtain ⟨HXD, HXd, hv4⟩ := own_shape o4
          rw [hv4] at HX ⊢
          clear o4 g4 hv4
          clear g1 x1 x2 c0 c1 hI
          have g1 := GK.out _ HX.below
          obtain ⟨x1, x2⟩ := XK.out _ HX.box
          obtain ⟨b', off', hA, _, c0, c1⟩ := (h.below HX.below).get hlt
          cases hA
          rw [← HC.out] at c0 c1
          go_wp2
          go_quiet (fail)
          go_wp2_with (at_builtin; refine wpList_append_rc _ rfl (.tmp 53) (.tmp 61) 33 rfl (Q + 1) 139 i0 (.agg #[.int .i64 0, .int .i64 0]) 16 Tryz.underlying33 hi hz0 hz1 hz2 rfl _ _ _ rfl ((HX.drewN _).row.alloc _) (some ⟨_, 0, none⟩) [C] 1 _ rfl (RdC.one_new _ C _) (by unfold maxLen; simp; omega) (by simp; omega) (by have := HX.lt; simp; omega) ?_; intro v4 w4 o4 g4 _)
          have HY := ((HX.drewN _).alloc (Obj.cells #[.int .i64 (C : Cel).a, .int .i64 (C : Cel).v] 139)).push C o4 g4
          obtain ⟨HYD, HYd, hv4⟩ := own_shape o4
          rw [hv4] at HY ⊢
          clear o4 g4 hv4
          go_wp2
          go_roundw
          case rel => exact ⟨k + 1, true, P ++ [⟨a, v⟩] ++ [C], HYD, HYd, by omega, by go_num, rfl, by first | rfl | simp, by first | omega | (simp; omega), HY, hide (by rw [HR.out] <;> simp)⟩
          case measure => simp [intOf]; omega
        · have l1 : decide (a < C.a) = false := decide_eq_false hac
          rw [if_neg (fun hh => hac hh.2), l1, Bool.false_or, List.nil_append] at hR
          go_wp2
          go_quiet (fail)
          by_cases hne : C.a = a
          · have n1 : (C.a != a) = false := by simp [hne]
            rw [if_neg (fun hh => hh hne), List.nil_append] at hR
            have HR := hide hR
            clear hR hne
            go_wp2
            go_quiet (fail)
            go_wp2
            go_roundw
            case rel => exact ⟨k + 1, false, P, D, dc, by omega, by go_num, rfl, by first | rfl | simp, by first | omega | (simp; omega), (hI.drewN _), hide (by rw [HR.out] <;> simp)⟩
            case measure => simp [intOf]; omega
          · have n1 : (C.a != a) = true := bne_iff_ne.2 hne
            rw [if_pos hne] at hR
            have HR := hide hR
            clear hR hne
            go_wp2
            go_quiet (fail)
            go_wp2_with (at_builtin; refine wpList_append_rc _ rfl (.tmp 53) (.tmp 61) 33 rfl (Q + 1) 139 i0 (.agg #[.int .i64 0, .int .i64 0]) 16 Tryz.underlying33 hi hz0 hz1 hz2 rfl _ _ _ rfl ((hI.drewN _).row.alloc _) (some ⟨_, 0, none⟩) [C] 1 _ rfl (RdC.one_new _ C _) (by unfold maxLen; simp; omega) (by simp; omega) (by have := hI.lt; simp; omega) ?_; intro v4 w4 o4 g4 _)
            have HY := ((hI.drewN _).alloc (Obj.cells #[.int .i64 (C : Cel).a, .int .i64 (C : Cel).v] 139)).push C o4 g4
            obtain ⟨HYD, HYd, hv4⟩ := own_shape o4
            rw [hv4] at HY ⊢
            clear o4 g4 hv4
            go_wp2
            go_roundw
            case rel => exact ⟨k + 1, false, P ++ [C], HYD, HYd, by omega, by go_num, rfl, by first | rfl | simp, by first | omega | (simp; omega), HY, hide (by rw [HR.out] <;> simp)⟩
            case measure => simp [intOf]; omega
    · have hnil : mem.drop k = [] := List.drop_eq_nil_of_le (by omega)
      cases d with
      | true =>
        have HP := hide (show backM mem a v = P by rw [HR.out, hnil]; simp [backL])
        have fz := (kg.below hI.below hgl).frozen 1
        have hI2 := hide hI
        clear hnil
        go_wp2
        go_end0
        exact hI2.out.done hQ kg rfl rfl HP.out
      | false =>
        have HP := hide (show backM mem a v = P ++ [⟨a, v⟩] by rw [HR.out, hnil]; simp [backL])
        clear hnil
        go_wp2_with (at_builtin; refine wpList_append_rc _ rfl (.tmp 66) (.tmp 72) 33 rfl (Q + 1) 139 i0 (.agg #[.int .i64 0, .int .i64 0]) 16 Tryz.underlying33 hi hz0 hz1 hz2 rfl _ _ _ rfl (hI.row.alloc _) (some ⟨_, 0, none⟩) [⟨a, v⟩] 1 _ rfl (RdC.one_new _ ⟨a, v⟩ _) (by unfold maxLen; simp; omega) (by simp; omega) (by have := hI.lt; simp; omega) ?_; intro v4 w4 o4 g4 _; obtain ⟨HXD, HXd, rfl⟩ := own_shape o4; have HX := (hI.alloc (Obj.cells #[.int .i64 a, .int .i64 v] 139)).push ⟨a, v⟩ o4 g4; have fz := (kg.below HX.below hgl).frozen 1; have g2 := GK.out _ HX.below; have hI2 := hide HX; clear o4 g4 HX hI g1 x1 x2)
        go_end0
        exact hI2.out.done (D := HXD) (dc := HXd) hQ kg (by simp) rfl HP.out
end Go.Proofs.YtnnfkmjhaljplaaGreat
namespace Go.Proofs.YtnnfkmjhaljplaaGreat
open Go.RowKit
theorem evs_set (l : List Ev) (k : Nat) (x : Ev) (hk : k < l.length) : (((evs l).set (k * 3) (.int .i64 x.k)).set (k * 3 + 1) (.int .i64 x.a)).set (k * 3 + 2) (.int .i64 x.v) = evs (l.set k x) := by
  induction l generalizing k with
  | nil => simp at hk
  | cons y r ih =>
    rcases k with _ | k
    · rfl
    · have := ih k (by simpa using hk)
      rw [show (k + 1) * 3 = k * 3 + 1 + 1 + 1 by omega]
      simp only [evs, List.set_cons_succ]
      rw [this]
theorem evs_setK (l : List Ev) (k : Nat) (s : Int) (hk : k < l.length) : (evs l).set (k * 3) (.int .i64 s) = evs (l.set k ⟨s, l[k].a, l[k].v⟩) := by
  rw [← evs_set l k _ hk]
  obtain ⟨_, g1, g2⟩ := evs_get l k hk
  have h := evs_length l
  apply List.ext_getElem?
  intro i
  simp only [List.getElem?_set, List.length_set]
  by_cases e2 : k * 3 + 2 = i
  · subst e2
    rw [if_neg (show ¬ k * 3 = k * 3 + 2 by omega), g2, if_pos rfl, if_pos (by omega)]
  · rw [if_neg e2]
    by_cases e1 : k * 3 + 1 = i
    · subst e1
      rw [if_neg (show ¬ k * 3 = k * 3 + 1 by omega), g1, if_pos rfl, if_pos (by omega)]
    · rw [if_neg e1]
theorem setL_again (cs : List (List Ev)) (i k : Nat) (x y : Ev) : setL (setL cs i k x) i k y = setL cs i k y := by
  unfold setL
  by_cases hi : i < cs.length
  · rw [List.getD_eq_getElem?_getD (l := cs.set i _), List.getElem?_set_self hi, Option.getD_some, List.set_set, List.set_set]
  · simp only [List.set_eq_of_length_le (l := cs) (show cs.length ≤ i by omega)]
section
variable {w w' : World} {base gv c n L : Nat} {t : List (List Ev)} {us : List Value}
/-- One row is turned where it lies. -/
theorem OwnTLine.turnAt {b i q cu : Nat} {l' : List Ev} (h : OwnTLine w base (.slice (some ⟨gv, 0, none⟩) n c) t us) (hu : us[i]? = some (.slice (some ⟨b, 0, none⟩) q cu)) (hg : w.grownBy w' (some b)) (ho : w'.ownsRow base 129 3 (.slice (some ⟨b, 0, none⟩) q cu) l'.length (evs l')) :
    OwnTLine w' base (.slice (some ⟨gv, 0, none⟩) n c) (t.set i l') us := by
  obtain ⟨hi, hr, hv⟩ := h.at_ hu
  have hbv := hv b rfl
  refine ⟨?_, fun j hj => ?_, h.apart⟩
  · rw [List.length_set]
    exact h.row.kept hg (own_sep fun x hx e => hbv (by rw [hx, e]))
  · rw [List.length_set] at hj
    by_cases hji : j = i
    · subst hji
      refine ⟨_, hu, ?_, hv⟩
      simp only [List.getElem_set_self]
      exact ho
    · obtain ⟨u, h1, h2, h3⟩ := h.rows j hj
      refine ⟨u, h1, ?_, h3⟩
      rw [List.getElem_set_ne (fun e => hji e.symm)]
      exact h2.kept hg (own_sep fun x hx e => h.apart i j _ _ (fun e => hji e.symm) hu h1 b rfl (by rw [hx, e]))
end
/-- A machine of one's own: g is its block, gv the row of its rows. -/
structure Mdl (w : World) (base g gv c : Nat) (m : Mac) (vm : Value) (us : List Value) : Prop where
  box : Bk w g #[.slice (some ⟨gv, 0, none⟩) m.cs.length c, vm] 35
  own : OwnMac w base (.slice (some ⟨gv, 0, none⟩) m.cs.length c) vm m us
  gb : base ≤ g
  gfar : g ≠ gv ∧ vm.ownBlock ≠ some g ∧ ∀ u ∈ us, u.ownBlock ≠ some g
/-- The blocks that it turns. -/
def MdlS (g : Nat) (us : List Value) (k : Nat) : Prop := k = g ∨ ∃ u ∈ us, u.ownBlock = some k
section
variable {w w' : World} {base g gv c n L : Nat} {m : Mac} {vm : Value} {us : List Value}
theorem Mdl.low (h : Mdl w base g gv c m vm us) {k : Nat} (hk : MdlS g us k) : base ≤ k ∧ k < w.heap.size := by
  rcases hk with rfl | ⟨u, hu, e⟩
  · exact ⟨h.gb, h.box.lt⟩
  · obtain ⟨i, hi⟩ := List.getElem?_of_mem hu
    obtain ⟨_, h1, _⟩ := h.own.cs.at_ hi
    exact h1.lt k e
theorem Mdl.below (h : Mdl w base g gv c m vm us) (hb : Below w.heap.size w w') : Mdl w' base g gv c m vm us := ⟨h.box.kept hb, h.own.below hb, h.gb, h.gfar⟩
theorem Mdl.alloc (h : Mdl w base g gv c m vm us) (o : Obj) : Mdl (w.alloc o) base g gv c m vm us := h.below ((Below.refl _ _).alloc (Nat.le_refl _) _)
theorem Mdl.shape (h : Mdl w base g gv c m vm us) : ∃ AM cM, vm = .slice AM m.mem.length cM := own_shape h.own.mem
/-- The memory is another one. -/
theorem Mdl.wrote (h : Mdl w base g gv c m vm us) {mem' : List Cel} {e : Ending} (hp : BackPost (.slice (some ⟨gv, 0, none⟩) m.cs.length c) g mem' w e w') :
    e = .returned (.tuple #[]) ∧ ∃ vm', Mdl w' base g gv c ⟨m.cs, mem'⟩ vm' us ∧ But (MdlS g us) w w' := by
  obtain ⟨A2, c2, he, hk, ho, hg⟩ := hp
  have hgl := h.box.lt
  have hold : ∀ u ∈ us, ∀ b, u.ownBlock = some b → b < w.heap.size := fun u hu b hb => (h.low (.inr ⟨u, hu, hb⟩)).2
  have hgv := (h.own.cs.row.lt gv rfl).2
  refine ⟨he, _, ⟨hk, ⟨?_, own_mono ho (by have := h.gb; omega), fun b hb => ?_⟩, h.gb, h.gfar.1, fun e2 => ?_, h.gfar.2.2⟩, But.of_grown hg fun b e2 => by cases e2; exact .inl rfl⟩
  · have hN : But (fun x => x = g) w w' := But.of_grown hg fun b e2 => by cases e2; rfl
    exact ⟨hN.own h.own.cs.row (fun b e2 e3 => by cases e2; exact h.gfar.1 e3.symm), fun i hi => by
      obtain ⟨u, h1, h2, h3⟩ := h.own.cs.rows i hi
      exact ⟨u, h1, hN.own h2 (fun b e2 e3 => h.gfar.2.2 u (List.mem_of_getElem? h1) (by rw [e2, e3])), h3⟩, h.own.cs.apart⟩
  · have hb1 := (ho.lt b hb).1
    refine ⟨fun e2 => ?_, fun u hu e2 => ?_⟩
    · simp only [Value.ownBlock, Option.some.injEq] at e2; omega
    · have := hold u hu b e2; omega
  · have := (ho.lt g e2).1; omega
theorem Mdl.get (h : Mdl w base g gv c m vm us) (hs : Shp7 n L m.cs) (hL : 0 < L) {i : Nat} (hi : i < n) : ∃ b cu, us[i]? = some (.slice (some ⟨b, 0, none⟩) L cu) ∧ L ≤ cu ∧ cu ≤ maxLen ∧ b < w.heap.size ∧ b ≠ g ∧ b ≠ gv ∧ w.cell? ⟨gv, i, none⟩ = some (.slice (some ⟨b, 0, none⟩) L cu) := by
  have hi' : i < m.cs.length := by rw [hs.1]; exact hi
  obtain ⟨u, h1, h2, h3⟩ := h.own.cs.rows i hi'
  have hLi : m.cs[i].length = L := hs.2 _ (List.getElem_mem hi')
  rw [hLi] at h2
  obtain ⟨b, cu, cur, rfl, _, hbk, hLc, hcm, _, _⟩ := own_open h2 hL
  refine ⟨b, cu, h1, hLc, hcm, (show Bk w b cur _ from hbk).lt, fun e => ?_, fun e => ?_, ?_⟩
  · subst e; exact h.gfar.2.2 _ (List.mem_of_getElem? h1) rfl
  · subst e; exact h3 b rfl rfl
  · rw [h.own.cs.row.cellAt i (by omega)]; exact h1
theorem Mdl.line (h : Mdl w base g gv c m vm us) (hs : Shp7 n L m.cs) {i k : Nat} (hi : i < n) (hk : k < L) {b cu : Nat} (hu : us[i]? = some (.slice (some ⟨b, 0, none⟩) L cu)) :
    w.cell? ⟨b, k * 3, none⟩ = some (.int .i64 (ln m.cs i k).k) ∧ w.cell? ⟨b, k * 3 + 1, none⟩ = some (.int .i64 (ln m.cs i k).a) ∧ w.cell? ⟨b, k * 3 + 2, none⟩ = some (.int .i64 (ln m.cs i k).v) ∧ ∀ j, w.frozen? ⟨b, j, none⟩ = false := by
  have hi' : i < m.cs.length := by rw [hs.1]; exact hi
  obtain ⟨_, h2, _⟩ := h.own.cs.at_ hu
  have hLi : m.cs[i].length = L := hs.2 _ (List.getElem_mem hi')
  have hk' : k < m.cs[i].length := by omega
  obtain ⟨g0, g1, g2⟩ := evs_get m.cs[i] k hk'
  rw [hLi] at h2
  rw [ln_get m.cs i k hi' hk']
  exact ⟨by rw [h2.cellAt _ (by omega), g0], by rw [h2.cellAt _ (by omega), g1], by rw [h2.cellAt _ (by omega), g2], fun j => h2.frozenAt j⟩
theorem Mdl.turn (h : Mdl w base g gv c m vm us) {i : Nat} {b cu : Nat} (hu : us[i]? = some (.slice (some ⟨b, 0, none⟩) L cu)) {l' : List Ev} (hg : w.grownBy w' (some b)) (ho : w'.ownsRow base 129 3 (.slice (some ⟨b, 0, none⟩) L cu) L (evs l')) (hl : l'.length = L) :
    Mdl w' base g gv c ⟨m.cs.set i l', m.mem⟩ vm us ∧ But (MdlS g us) w w' := by
  have hum := List.mem_of_getElem? hu
  have hB : But (fun x => x = b) w w' := But.of_grown hg fun x e => by cases e; rfl
  refine ⟨⟨?_, ⟨?_, ?_, h.own.far⟩, h.gb, h.gfar⟩, But.of_grown hg fun x e => by cases e; exact .inr ⟨_, hum, rfl⟩⟩
  · rw [List.length_set]
    exact hB.bk h.box (fun e => h.gfar.2.2 _ hum (by rw [← e]; rfl))
  · rw [List.length_set]
    exact h.own.cs.turnAt hu hg (by rw [hl]; exact ho)
  · exact hB.own h.own.mem (fun x e e2 => (h.own.far x e).2 _ hum (by rw [e2]; rfl))
/-- A line put, in three cells. -/
theorem Mdl.put (h : Mdl w base g gv c m vm us) (hs : Shp7 n L m.cs) {i k : Nat} (hi : i < n) (hk : k < L) {b cu : Nat} (hu : us[i]? = some (.slice (some ⟨b, 0, none⟩) L cu)) (x : Ev) :
    Mdl (((w.setCell ⟨b, k * 3, none⟩ (.int .i64 x.k)).setCell ⟨b, k * 3 + 1, none⟩ (.int .i64 x.a)).setCell ⟨b, k * 3 + 2, none⟩ (.int .i64 x.v)) base g gv c ⟨setL m.cs i k x, m.mem⟩ vm us ∧ But (MdlS g us) w (((w.setCell ⟨b, k * 3, none⟩ (.int .i64 x.k)).setCell ⟨b, k * 3 + 1, none⟩ (.int .i64 x.a)).setCell ⟨b, k * 3 + 2, none⟩ (.int .i64 x.v)) := by
  have hi' : i < m.cs.length := by rw [hs.1]; exact hi
  obtain ⟨_, h2, _⟩ := h.own.cs.at_ hu
  have hLi : m.cs[i].length = L := hs.2 _ (List.getElem_mem hi')
  have hk' : k < m.cs[i].length := by omega
  rw [hLi] at h2
  have s1 := h2.stored (k * 3) (.int .i64 x.k)
  have s2 := s1.1.stored (k * 3 + 1) (.int .i64 x.a)
  have s3 := s2.1.stored (k * 3 + 2) (.int .i64 x.v)
  have e := evs_set m.cs[i] k x hk'
  unfold setL
  rw [show m.cs.getD i [] = m.cs[i] by simp [hi']]
  exact h.turn hu ((s1.2.trans s2.2).trans s3.2) (by rw [← e]; exact s3.1) (by rw [List.length_set, hLi])
/-- A line's state put. -/
theorem Mdl.putK (h : Mdl w base g gv c m vm us) (hs : Shp7 n L m.cs) {i k : Nat} (hi : i < n) (hk : k < L) {b cu : Nat} (hu : us[i]? = some (.slice (some ⟨b, 0, none⟩) L cu)) (s : Int) :
    Mdl (w.setCell ⟨b, k * 3, none⟩ (.int .i64 s)) base g gv c ⟨setL m.cs i k ⟨s, (ln m.cs i k).a, (ln m.cs i k).v⟩, m.mem⟩ vm us ∧ But (MdlS g us) w (w.setCell ⟨b, k * 3, none⟩ (.int .i64 s)) := by
  have hi' : i < m.cs.length := by rw [hs.1]; exact hi
  obtain ⟨_, h2, _⟩ := h.own.cs.at_ hu
  have hLi : m.cs[i].length = L := hs.2 _ (List.getElem_mem hi')
  have hk' : k < m.cs[i].length := by omega
  rw [hLi] at h2
  have s1 := h2.stored (k * 3) (.int .i64 s)
  have e := evs_setK m.cs[i] k s hk'
  unfold setL
  rw [show m.cs.getD i [] = m.cs[i] by simp [hi'], ln_get m.cs i k hi' hk']
  exact h.turn hu s1.2 (by rw [← e]; exact s1.1) (by rw [List.length_set, hLi])
end
/-- What a walk over such a machine tells. -/
def MdlPost (base g gv c : Nat) (m' : Mac) (us : List Value) (w w' : World) : Prop := ∃ vm', Mdl w' base g gv c m' vm' us ∧ But (MdlS g us) w w'
theorem MdlPost.refl {w : World} {base g gv c : Nat} {m : Mac} {vm : Value} {us : List Value} (h : Mdl w base g gv c m vm us) : MdlPost base g gv c m us w w := ⟨vm, h, But.refl _ _⟩
theorem MdlPost.trans {w w1 w2 : World} {base g gv c : Nat} {m1 m2 : Mac} {us : List Value} (h : MdlPost base g gv c m1 us w w1) (k : MdlPost base g gv c m2 us w1 w2) : MdlPost base g gv c m2 us w w2 := by
  obtain ⟨_, _, b1⟩ := h
  obtain ⟨v2, m2, b2⟩ := k
  exact ⟨v2, m2, b1.trans b2 fun _ e => .inl e⟩
end Go.Proofs.YtnnfkmjhaljplaaGreat
namespace Go.Proofs.YtnnfkmjhaljplaaGreat
open Go.RowKit
theorem give_same {c k i : Nat} {a : Int} {store : Bool} {m : Mac} (h : i = c ∨ (ln m.cs i k).k = 0 ∨ (ln m.cs i k).a ≠ a) : giveL c k a store m i = m := if_pos h
theorem give_turn {c k i : Nat} {a : Int} {store : Bool} {m : Mac} (h : ¬ (i = c ∨ (ln m.cs i k).k = 0 ∨ (ln m.cs i k).a ≠ a)) : giveL c k a store m i = ⟨setL m.cs i k (if store = true then lnZ else ⟨1, (ln m.cs i k).a, (ln m.cs i k).v⟩), if (ln m.cs i k).k = 2 then backM m.mem (ln m.cs i k).a (ln m.cs i k).v else m.mem⟩ := if_neg h
theorem give_step (c k : Nat) (a : Int) (store : Bool) (m : Mac) (i : Nat) : (List.range (i + 1)).foldl (giveL c k a store) m = giveL c k a store ((List.range i).foldl (giveL c k a store) m) i := by rw [List.range_succ, List.foldl_append]; rfl
theorem kind_of {n L : Nat} {m : Mac} (G : GoodM n L m) {i k : Nat} (hi : i < n) (hk : k < L) : (ln m.cs i k).k = 0 ∨ (ln m.cs i k).k = 1 ∨ (ln m.cs i k).k = 2 := by
  have := (lineF_zero.1 (G.line i hi k hk)).1
  omega
set_option maxRecDepth 100000 in
set_option maxHeartbeats 3200000 in
theorem l7Others_any {base g gv c n L k cr : Nat} {vm : Value} {us : List Value} {m : Mac} {w : World} {a : Int} (store : Bool) (h : Mdl w base g gv c m vm us) (G : GoodM n L m) (hk : k < L) (ha : 0 ≤ a) (hp : a % (L : Int) = (k : Int)) (hcr : cr ≤ 4) (hm : m.mem.length ≤ 40) :
    Calls Tryz.prog 77 #[.pointer (some ⟨g, 0, none⟩), .int .i64 cr, .int .i64 a, .bool store] w fun e w' => e = .returned (.tuple #[]) ∧ MdlPost base g gv c (others cr k a store m) us w w' := by
  unfold MdlPost
  have hn := G.shp.1
  subst hn
  have hL1 : 1 ≤ L := G.nL.2.2.1
  have hL4 : L ≤ 4 := G.nL.2.2.2
  have hn1 : 1 ≤ m.cs.length := G.nL.1
  have hn4 : m.cs.length ≤ 4 := G.nL.2.1
  have ht : a.tmod (L : Int) = (k : Int) := by rw [Int.tmod_eq_emod_of_nonneg ha]; exact hp
  have hk0 : (0 : Int) ≤ (k : Int) := by omega
  have hkL : (k : Int) < (L : Int) := by omega
  have q0 := (h.box.cell 0).trans (rfl : _ = some (Value.slice (some ⟨gv, 0, none⟩) m.cs.length c))
  obtain ⟨N, hN⟩ : ∃ N, N = m.cs.length := ⟨_, rfl⟩
  have hFold := fun i (hi : i ≤ m.cs.length) => fold_ok (n := m.cs.length) (c := cr) hk a store (List.range i) m G (fun j hj => by rw [List.mem_range] at hj; omega)
  have HF := hide hFold
  have HO : others cr k a store m = (List.range m.cs.length).foldl (giveL cr k a store) m := rfl
  rw [HO, ← hN]
  rw [← hN] at q0 G HF hn1 hn4
  have HG := hide G
  clear HO hFold hN G hp
  go_enter Tryz.func77, Tryz.ntmps77
  go_wp2
  clear q0
  go_loopw [15] (fun s wr => ∃ (i : Nat) (MM : Mac) (vI : Value), i ≤ N ∧ s = .int .i64 i ∧ Mdl wr base g gv c MM vI us ∧ But (MdlS g us) w wr ∧ Hid (MM = (List.range i).foldl (giveL cr k a store) m)) (fun s _ => N - (intOf s).toNat)
  case atStart => exact ⟨0, m, vm, Nat.zero_le _, rfl, h, But.refl _ _, hide rfl⟩
  case round =>
    clear h
    obtain ⟨i, MM, vI, hin, rfl, hM, bt, HMM⟩ := hrel
    obtain ⟨AM, cM, rfl⟩ := hM.shape
    obtain ⟨wo, hwo⟩ : ∃ x, x = wr := ⟨_, rfl⟩
    subst hwo
    have hfi := HF.out i hin
    rw [← HMM.out] at hfi
    obtain ⟨f1, _, _, f4, _⟩ := hfi
    have GM := f1.good
    have hml : MM.mem.length ≤ 41 := by rcases f4 with e | ⟨e, _⟩ <;> omega
    have hMn : MM.cs.length = N := GM.shp.1
    have HGM := hide GM
    clear f1 f4
    by_cases hlt : i < N
    · obtain ⟨b, cu, hu, hLc, hcm, hbl, hbg, hbv, c1⟩ := hM.get GM.shp (by omega) hlt
      obtain ⟨l0, l1, l2, lf⟩ := hM.line GM.shp hlt hk hu
      have hkd := kind_of GM hlt hk
      have c0 := (hM.box.cell 0).trans (rfl : _ = some (Value.slice (some ⟨gv, 0, none⟩) MM.cs.length c))
      rw [hMn] at c0
      obtain ⟨X, hX⟩ : ∃ X, X = ln MM.cs i k := ⟨_, rfl⟩
      rw [← hX] at l0 l1 l2 hkd
      have HX := hide hX
      have HM := hide hM
      have HMN := hide hMn
      have HST := hide (give_step cr k a store m i)
      have f0 := lf (k * 3)
      have f1 := lf (k * 3 + 1)
      have f2 := lf (k * 3 + 2)
      have hgl := hM.box.lt
      clear hX hM hMn lf
      have same : (i = cr ∨ X.k = 0 ∨ X.a ≠ a) → ∀ V : World, Mdl V base g gv c MM (.slice AM MM.mem.length cM) us → But (MdlS g us) w V → ∃ (i' : Nat) (MM : Mac) (vI : Value), i' ≤ N ∧ Value.int .i64 ((i : Int) + 1) = .int .i64 i' ∧ Mdl V base g gv c MM vI us ∧ But (MdlS g us) w V ∧ Hid (MM = (List.range i').foldl (giveL cr k a store) m) := fun hh V h1 h2 =>
        ⟨i + 1, MM, _, by omega, by go_num, h1, h2, hide (by rw [HST.out, ← HMM.out, give_same (by rw [← HX.out]; exact hh)])⟩
      have HS := hide same
      have BT := hide bt
      clear same bt
      go_wp2_with fail
      go_quiet (fail)
      have HDN := hide (fun nq => HM.out.below (below_drewN (Below.refl wo.heap.size wo) nq))
      have HBN := hide (fun nq => BT.out.trans (S' := fun _ => False) (But.of_below (below_drewN (Below.refl wo.heap.size wo) nq)) (fun _ e => e.elim))
      obtain ⟨V, hV⟩ : ∃ V : World, V = wo.drewN nq := ⟨_, rfl⟩
      have l0 : V.cell? ⟨b, k * 3, none⟩ = some (.int .i64 X.k) := by rw [hV]; exact l0
      have l1 : V.cell? ⟨b, k * 3 + 1, none⟩ = some (.int .i64 X.a) := by rw [hV]; exact l1
      have l2 : V.cell? ⟨b, k * 3 + 2, none⟩ = some (.int .i64 X.v) := by rw [hV]; exact l2
      have f0 : V.frozen? ⟨b, k * 3, none⟩ = false := by rw [hV]; exact f0
      have f1 : V.frozen? ⟨b, k * 3 + 1, none⟩ = false := by rw [hV]; exact f1
      have f2 : V.frozen? ⟨b, k * 3 + 2, none⟩ = false := by rw [hV]; exact f2
      have MV := HDN.out nq
      have BV := HBN.out nq
      rw [← hV] at MV BV ⊢
      have HMV := hide MV
      have HBV := hide BV
      clear HDN HBN hV MV BV c0 c1 HM BT hbl hgl
      have hTn : ¬ (i = cr ∨ X.k = 0 ∨ X.a ≠ a) → giveL cr k a store MM i = ⟨setL MM.cs i k (if store = true then lnZ else ⟨1, X.a, X.v⟩), if X.k = 2 then backM MM.mem X.a X.v else MM.mem⟩ := fun hh => by
        have := give_turn (store := store) (show ¬ (i = cr ∨ (ln MM.cs i k).k = 0 ∨ (ln MM.cs i k).a ≠ a) by rw [← HX.out]; exact hh)
        rw [← HX.out] at this
        exact this
      have HT := hide hTn
      clear hTn
      have fin : ∀ (M' : Mac) (V' : World) (v' : Value), giveL cr k a store MM i = M' → Mdl V' base g gv c M' v' us → But (MdlS g us) V V' → ∃ (i' : Nat) (MM : Mac) (vI : Value), i' ≤ N ∧ Value.int .i64 ((i : Int) + 1) = .int .i64 i' ∧ Mdl V' base g gv c MM vI us ∧ But (MdlS g us) w V' ∧ Hid (MM = (List.range i').foldl (giveL cr k a store) m) := fun M' V' v' he h1 h2 =>
        ⟨i + 1, M', v', by omega, by go_num, h1, HBV.out.trans h2 (fun _ e => .inl e), hide (by rw [HST.out, ← HMM.out, he])⟩
      have HFN := hide fin
      clear fin
      by_cases hic : i = cr
      · subst hic
        go_wp2
        go_roundw
        case rel => exact HS.out (.inl rfl) _ HMV.out HBV.out
        case measure => simp [intOf]; omega
      · have g0 : ((i : Int) == (cr : Int)) = false := by rw [beq_eq_false_iff_ne]; omega
        rcases hkd with h0 | h0 | h0
        · rw [h0] at l0
          go_wp2
          go_roundw
          case rel => exact HS.out (.inr (.inl h0)) _ HMV.out HBV.out
          case measure => simp [intOf]; omega
        · rw [h0] at l0
          by_cases hxa : X.a = a
          · have g1 : (X.a != a) = false := by rw [hxa]; simp
            have g2 : (X.a == a) = true := by rw [hxa]; simp
            have hX1 : (⟨1, X.a, X.v⟩ : Ev) = X := by rw [← h0]
            have HT1 := HT.out (fun hh => by rcases hh with e | e | e; exact hic e; omega; exact e hxa)
            rw [if_neg (show ¬ X.k = 2 by omega), hX1] at HT1
            have HT2 := hide HT1
            clear HT1
            cases store
            · have HT3 := HT2.out
              rw [if_neg (by simp), setL_same HGM.out.shp hlt hk (x := X) HX.out] at HT3
              have HT4 := hide (show giveL cr k a false MM i = MM from HT3)
              clear HT3
              go_wp2
              go_roundw
              case rel => exact HFN.out _ _ _ HT4.out HMV.out (But.refl _ _)
              case measure => simp [intOf]; omega
            · have HT3 := HT2.out
              rw [if_pos rfl] at HT3
              have HT4 := hide HT3
              have HPT := hide (HMV.out.put HGM.out.shp hlt hk hu lnZ)
              clear HT3
              go_wp2
              go_roundw
              case rel => exact HFN.out _ _ _ HT4.out HPT.out.1 HPT.out.2
              case measure => simp [intOf]; omega
          · have g1 : (X.a != a) = true := bne_iff_ne.2 hxa
            have g2 : (X.a == a) = false := beq_eq_false_iff_ne.2 hxa
            go_wp2
            go_roundw
            case rel => exact HS.out (.inr (.inr hxa)) _ HMV.out HBV.out
            case measure => simp [intOf]; omega
        · rw [h0] at l0
          by_cases hxa : X.a = a
          · have g1 : (X.a != a) = false := by rw [hxa]; simp
            have g2 : (X.a == a) = true := by rw [hxa]; simp
            have HT1 := HT.out (fun hh => by rcases hh with e | e | e; exact hic e; omega; exact e hxa)
            rw [if_pos h0, hxa] at HT1
            have HT2 := hide HT1
            have BK := hide (l7Back_any MM.mem (.slice (some ⟨gv, 0, none⟩) MM.cs.length c) 2 a X.v g AM cM V (by omega) HMV.out.box (RdC.of_own HMV.out.own.mem))
            clear HT1
            go_wp2_with fail
            refine BK.out.mono ?_
            rintro e w2 hbp
            obtain ⟨rfl, v2, M2, B2⟩ := HMV.out.wrote hbp
            obtain ⟨AM2, cM2, rfl⟩ := M2.shape
            obtain ⟨M3, B3⟩ := M2.putK HGM.out.shp hlt hk hu 1
            obtain ⟨y0, y1, y2, yf⟩ := M2.line HGM.out.shp hlt hk hu
            have z0 := yf (k * 3)
            rw [show (⟨MM.cs, backM MM.mem a X.v⟩ : Mac).cs = MM.cs from rfl, ← HX.out] at y0 y1 y2 M3
            rw [hxa] at M3 y1
            rw [h0] at y0
            have B23 := B2.trans B3 (fun _ e => .inl e)
            have HM3 := hide M3
            have HB23 := hide B23
            clear l0 l1 l2 f0 f1 f2 hbp M2 M3 B2 B3 B23 yf BK
            cases store
            · have HT3 := HT2.out
              rw [if_neg (by simp)] at HT3
              have HT4 := hide HT3
              clear HT3
              go_wp2
              go_roundw
              case rel => exact HFN.out _ _ _ HT4.out HM3.out HB23.out
              case measure => simp [intOf]; omega
            · have HT3 := HT2.out
              rw [if_pos rfl] at HT3
              have HT4 := hide HT3
              obtain ⟨M4, B4⟩ := HM3.out.put (HGM.out.shp.set_ hlt _) hlt hk hu lnZ
              obtain ⟨_, _, _, xf⟩ := HM3.out.line (HGM.out.shp.set_ hlt _) hlt hk hu
              obtain ⟨x0, x1, x2, _⟩ := HM3.out.line (HGM.out.shp.set_ hlt _) hlt hk hu
              have e0 := xf (k * 3)
              have e1 := xf (k * 3 + 1)
              have e2 := xf (k * 3 + 2)
              rw [setL_again] at M4
              have HM4 := hide M4
              have HB4 := hide (HB23.out.trans B4 (fun _ e => .inl e))
              clear HT3 M4 B4 xf
              go_wp2_with fail
              go_roundw
              case rel => exact HFN.out _ _ _ HT4.out HM4.out HB4.out
              case measure => simp [intOf]; omega
          · have g1 : (X.a != a) = true := bne_iff_ne.2 hxa
            have g2 : (X.a == a) = false := beq_eq_false_iff_ne.2 hxa
            go_wp2
            go_roundw
            case rel => exact HS.out (.inr (.inr hxa)) _ HMV.out HBV.out
            case measure => simp [intOf]; omega
    · have hie : i = N := by omega
      subst hie
      go_wp2
      go_end0
      exact ⟨rfl, _, by rw [← HMM.out]; exact hM, bt⟩
end Go.Proofs.YtnnfkmjhaljplaaGreat
namespace Go.Proofs.YtnnfkmjhaljplaaGreat
open Go.RowKit
section
variable {m m1 : Mac} {c k : Nat} {o : Ev} {a : Int}
theorem free_keep (h : ¬ ((ln m.cs c k).k ≠ 0 ∧ (ln m.cs c k).a ≠ a)) : freeL c k a m = m := if_neg h
theorem free_1 (h : (ln m.cs c k).k = 1) (h2 : (ln m.cs c k).a ≠ a) : freeL c k a m = ⟨setL m.cs c k lnZ, m.mem⟩ := by
  unfold freeL
  simp only
  rw [if_pos ⟨by omega, h2⟩, if_neg (by omega)]
theorem free_2 (h : (ln m.cs c k).k = 2) (h2 : (ln m.cs c k).a ≠ a) : freeL c k a m = ⟨setL m.cs c k lnZ, backM m.mem (ln m.cs c k).a (ln m.cs c k).v⟩ := by
  unfold freeL
  simp only
  rw [if_pos ⟨by omega, h2⟩, if_pos h]
theorem do_S2 (hp : placeOf m c o.a = k) (h1 : freeL c k o.a m = m1) (ho : o.k = 1) (h : (ln m1.cs c k).k = 2) : doM m c o = (⟨setL m1.cs c k ⟨2, o.a, o.v⟩, m1.mem⟩, o.v) := by
  unfold doM
  simp only [hp, h1]
  rw [if_pos ho, if_pos h]
theorem do_S (hp : placeOf m c o.a = k) (h1 : freeL c k o.a m = m1) (ho : o.k = 1) (h : ¬ (ln m1.cs c k).k = 2) : doM m c o = (⟨setL (others c k o.a true m1).cs c k ⟨2, o.a, o.v⟩, (others c k o.a true m1).mem⟩, o.v) := by
  unfold doM
  simp only [hp, h1]
  rw [if_pos ho, if_neg h]
theorem do_L0 (hp : placeOf m c o.a = k) (h1 : freeL c k o.a m = m1) (ho : ¬ o.k = 1) (h : (ln m1.cs c k).k = 0) : doM m c o = (⟨setL (others c k o.a false m1).cs c k ⟨1, o.a, readM (others c k o.a false m1).mem o.a⟩, (others c k o.a false m1).mem⟩, readM (others c k o.a false m1).mem o.a) := by
  unfold doM
  simp only [hp, h1]
  rw [if_neg ho, if_pos h]
theorem do_L (hp : placeOf m c o.a = k) (h1 : freeL c k o.a m = m1) (ho : ¬ o.k = 1) (h : ¬ (ln m1.cs c k).k = 0) : doM m c o = (m1, (ln m1.cs c k).v) := by
  unfold doM
  simp only [hp, h1]
  rw [if_neg ho, if_neg h]
end
set_option maxRecDepth 100000 in
set_option maxHeartbeats 6400000 in
theorem l7Do_any {base g gv c n L i0 p : Nat} {vm : Value} {us : List Value} {m : Mac} {w : World} {o : Ev} (h : Mdl w base g gv c m vm us) (G : GoodM n L m) (hi0 : i0 < n) (ho : opF o = 0) (hm : m.mem.length ≤ 39) (kp : Bk w p #[.int .i64 o.k, .int .i64 o.a, .int .i64 o.v] 84) (hpS : ¬ MdlS g us p) :
    Calls Tryz.prog 49 #[.pointer (some ⟨g, 0, none⟩), .int .i64 i0, .pointer (some ⟨p, 0, none⟩)] w fun e w' => e = .returned (.int .i64 (doM m i0 o).2) ∧ MdlPost base g gv c (doM m i0 o).1 us w w' := by
  unfold MdlPost
  obtain ⟨M', v', hR⟩ : ∃ M' v', doM m i0 o = (M', v') := ⟨_, _, rfl⟩
  rw [hR]
  have HR := hide hR
  clear hR
  obtain ⟨hkd0, ⟨ha, _⟩, _⟩ := opF_zero ho
  have hn4 : n ≤ 4 := G.nL.2.1
  have hn := G.shp.1
  have hL1 : 1 ≤ L := G.nL.2.2.1
  have hL4 : L ≤ 4 := G.nL.2.2.2
  obtain ⟨hk, hp⟩ := place_ok G hi0 (a := o.a)
  obtain ⟨k, hkk⟩ : ∃ k, k = placeOf m i0 o.a := ⟨_, rfl⟩
  rw [← hkk] at hk hp
  have HK := hide hkk.symm
  have ht : (o.a).tmod (L : Int) = (k : Int) := by rw [Int.tmod_eq_emod_of_nonneg ha]; exact hp
  have HP := hide hp
  have hk0 : (0 : Int) ≤ (k : Int) := by omega
  have hkL : (k : Int) < (L : Int) := by omega
  obtain ⟨AM, cM, rfl⟩ := h.shape
  obtain ⟨b, cu, hu, hLc, hcm, hbl, hbg, hbv, c1⟩ := h.get G.shp (by omega) hi0
  obtain ⟨l0, l1, l2, _⟩ := h.line G.shp hi0 hk hu
  have hbS : MdlS g us b := .inr ⟨_, List.mem_of_getElem? hu, rfl⟩
  have hpb : p ≠ b := fun e => hpS (e ▸ hbS)
  have hpg : p ≠ g := fun e => hpS (.inl e)
  have HBS := hide hbS
  have HPS := hide hpS
  have hkx := kind_of G hi0 hk
  have c0 := (h.box.cell 0).trans (rfl : _ = some (Value.slice (some ⟨gv, 0, none⟩) m.cs.length c))
  rw [hn] at c0
  obtain ⟨X, hX⟩ : ∃ X, X = ln m.cs i0 k := ⟨_, rfl⟩
  rw [← hX] at l0 l1 l2 hkx
  have HX := hide hX
  have HG := hide G
  have HFR := hide (free_ok G hi0 hk o.a)
  have p0 := (kp.cell 0).trans (rfl : _ = some (Value.int .i64 o.k))
  have p1 := (kp.cell 1).trans (rfl : _ = some (Value.int .i64 o.a))
  have p2 := (kp.cell 2).trans (rfl : _ = some (Value.int .i64 o.v))
  have HM0 := hide h
  have HKP0 := hide kp
  have HHM := hide hm
  clear hX hn G hp hpS hbS h kp hkk ho hm
  go_enter Tryz.func49, Tryz.ntmps49
  go_wp2_with fail
  go_quiet (fail)
  have HDN := hide (fun nq => HM0.out.below (below_drewN (Below.refl w.heap.size w) nq))
  have HBN := hide (fun nq => (But.of_below (S := MdlS g us) (below_drewN (Below.refl w.heap.size w) nq)))
  obtain ⟨V, hV⟩ : ∃ V : World, V = w.drewN nq := ⟨_, rfl⟩
  have HKV : Hid (Bk V p #[.int .i64 o.k, .int .i64 o.a, .int .i64 o.v] 84) := hide (by rw [hV]; exact HKP0.out)
  have l0 : V.cell? ⟨b, k * 3, none⟩ = some (.int .i64 X.k) := by rw [hV]; exact l0
  have l1 : V.cell? ⟨b, k * 3 + 1, none⟩ = some (.int .i64 X.a) := by rw [hV]; exact l1
  have l2 : V.cell? ⟨b, k * 3 + 2, none⟩ = some (.int .i64 X.v) := by rw [hV]; exact l2
  have p0 : V.cell? ⟨p, 0, none⟩ = some (.int .i64 o.k) := by rw [hV]; exact p0
  have p1 : V.cell? ⟨p, 1, none⟩ = some (.int .i64 o.a) := by rw [hV]; exact p1
  have p2 : V.cell? ⟨p, 2, none⟩ = some (.int .i64 o.v) := by rw [hV]; exact p2
  have MV := HDN.out nq
  have BV := HBN.out nq
  rw [← hV] at MV BV ⊢
  have HMV := hide MV
  have HBV := hide BV
  clear HDN HBN hV MV BV c0 c1 HM0 HKP0 hbl
  rcases hkx with h0 | h0 | h0
  · have HKX := hide (show (ln m.cs i0 k).k = 0 by rw [← HX.out]; exact h0)
    rw [h0] at l0
    have HLN := hide (show m.mem.length ≤ 40 by have := HHM.out; omega)
    go_wp2_with fail
    go_quiet (fail)
    obtain ⟨V2, hV2⟩ : ∃ V2 : World, V2 = V.drewN nq := ⟨_, rfl⟩
    have HK2 : Hid (Bk V2 p #[.int .i64 o.k, .int .i64 o.a, .int .i64 o.v] 84) := hide (by rw [hV2]; exact HKV.out)
    have HM2 : Hid (Mdl V2 base g gv c m (.slice AM m.mem.length cM) us) := hide (by rw [hV2]; exact HMV.out.below (below_drewN (Below.refl V.heap.size V) _))
    have HB2 : Hid (But (MdlS g us) w V2) := hide (by rw [hV2]; exact HBV.out.trans (S' := fun _ => False) (But.of_below (below_drewN (Below.refl V.heap.size V) _)) (fun _ e => e.elim))
    have l0 : V2.cell? ⟨b, k * 3, none⟩ = some _ := (by rw [hV2]; exact l0)
    have l1 : V2.cell? ⟨b, k * 3 + 1, none⟩ = some _ := (by rw [hV2]; exact l1)
    have l2 : V2.cell? ⟨b, k * 3 + 2, none⟩ = some _ := (by rw [hV2]; exact l2)
    rw [← hV2]
    clear hV2 p0 p1 p2
    rcases hkd0 with ⟨hs, hs2⟩ | hs
    · have p0' := (HK2.out.cell 0).trans (rfl : _ = some (Value.int .i64 o.k))
      rw [hs] at p0'
      have hos : (o.k == 1) = false := by rw [hs]; rfl
      have OT := hide (l7Others_any (cr := i0) false HM2.out HG.out hk ha HP.out (by omega) HLN.out)
      have p0 := (HK2.out.cell 0).trans (rfl : _ = some (Value.int .i64 o.k))
      have p1 := (HK2.out.cell 1).trans (rfl : _ = some (Value.int .i64 o.a))
      have p2 := (HK2.out.cell 2).trans (rfl : _ = some (Value.int .i64 o.v))
      go_wp2_with fail
      refine OT.out.mono ?_
      rintro e w5 ⟨rfl, v5, M5, B5⟩
      obtain ⟨AM5, cM5, rfl⟩ := M5.shape
      have HOK := hide (others_ok (c := i0) HG.out hk o.a false)
      have HG5 := hide HOK.out.1.good
      have HL5 := hide (show (others i0 k o.a false m).mem.length ≤ 41 from Nat.le_trans HOK.out.2.2.2 (Nat.succ_le_succ HLN.out))
      have HKP5 := hide (B5.bk HK2.out HPS.out)
      have HB5 := hide (HB2.out.trans B5 (fun _ e => .inl e))
      have HM5 := hide M5
      clear OT M5 B5 p0 p1 p2 l0 l1 l2
      obtain ⟨y0, y1, y2, yf⟩ := HM5.out.line HG5.out.shp hi0 hk hu
      have d0 := yf (k * 3)
      have d1 := yf (k * 3 + 1)
      have d2 := yf (k * 3 + 2)
      clear yf
      have p0 := (HKP5.out.cell 0).trans (rfl : _ = some (Value.int .i64 o.k))
      have p1 := (HKP5.out.cell 1).trans (rfl : _ = some (Value.int .i64 o.a))
      have p2 := (HKP5.out.cell 2).trans (rfl : _ = some (Value.int .i64 o.v))
      have g1 := (HM5.out.box.cell 1).trans (rfl : _ = some (Value.slice AM5 (others i0 k o.a false (m)).mem.length cM5))
      go_wp2_with fail
      obtain ⟨Z, hZ⟩ : ∃ Z : World, Z = w5.drew := ⟨_, rfl⟩
      have y0 : Z.cell? ⟨b, k * 3, none⟩ = some (.int .i64 (ln (others i0 k o.a false (m)).cs i0 k).k) := by rw [hZ]; exact y0
      have y1 : Z.cell? ⟨b, k * 3 + 1, none⟩ = some (.int .i64 (ln (others i0 k o.a false (m)).cs i0 k).a) := by rw [hZ]; exact y1
      have y2 : Z.cell? ⟨b, k * 3 + 2, none⟩ = some (.int .i64 (ln (others i0 k o.a false (m)).cs i0 k).v) := by rw [hZ]; exact y2
      have d0 : Z.frozen? ⟨b, k * 3, none⟩ = false := by rw [hZ]; exact d0
      have d1 : Z.frozen? ⟨b, k * 3 + 1, none⟩ = false := by rw [hZ]; exact d1
      have d2 : Z.frozen? ⟨b, k * 3 + 2, none⟩ = false := by rw [hZ]; exact d2
      have a1 : Z.cell? ⟨p, 1, none⟩ = some (.int .i64 o.a) := by rw [hZ]; exact p1
      have a2 : Z.cell? ⟨g, 1, none⟩ = some (.slice AM5 (others i0 k o.a false (m)).mem.length cM5) := by rw [hZ]; exact g1
      obtain ⟨rv, hrv⟩ : ∃ rv, rv = readM (others i0 k o.a false (m)).mem o.a := ⟨_, rfl⟩
      have HRD : Hid (Calls Tryz.prog 64 #[.slice AM5 (others i0 k o.a false (m)).mem.length cM5, .int .i64 o.a] Z fun e w' => e = .returned (.int .i64 rv) ∧ Z = w') := hide (by
        rw [hZ, hrv]
        exact l7Read_any _ AM5 cM5 o.a _ (by have := HL5.out; unfold maxLen; omega) (RdC.of_own (HM5.out.below (Below.refl w5.heap.size w5).drew).own.mem))
      have HPT : Hid (Mdl (((Z.setCell ⟨b, k * 3, none⟩ (.int .i64 1)).setCell ⟨b, k * 3 + 1, none⟩ (.int .i64 o.a)).setCell ⟨b, k * 3 + 2, none⟩ (.int .i64 rv)) base g gv c ⟨setL (others i0 k o.a false (m)).cs i0 k ⟨1, o.a, rv⟩, (others i0 k o.a false (m)).mem⟩ _ us ∧ But (MdlS g us) w (((Z.setCell ⟨b, k * 3, none⟩ (.int .i64 1)).setCell ⟨b, k * 3 + 1, none⟩ (.int .i64 o.a)).setCell ⟨b, k * 3 + 2, none⟩ (.int .i64 rv))) := hide (by
        rw [hZ]
        have M9 := HM5.out.below (Below.refl w5.heap.size w5).drew
        have P9 := M9.put HG5.out.shp hi0 hk hu ⟨1, o.a, rv⟩
        exact ⟨P9.1, (HB5.out.trans (S' := fun _ => False) (But.of_below (Below.refl w5.heap.size w5).drew) (fun _ e => e.elim)).trans P9.2 (fun _ e => .inl e)⟩)
      have HKZ : Hid (Bk (((Z.setCell ⟨b, k * 3, none⟩ (.int .i64 1)).setCell ⟨b, k * 3 + 1, none⟩ (.int .i64 o.a)).setCell ⟨b, k * 3 + 2, none⟩ (.int .i64 rv)) p #[.int .i64 o.k, .int .i64 o.a, .int .i64 o.v] 84) := hide (by
        rw [hZ]
        have K9 : Bk w5.drew p #[.int .i64 o.k, .int .i64 o.a, .int .i64 o.v] 84 := HKP5.out
        exact ((K9.far (p := ⟨b, k * 3, none⟩) hpb _).far (p := ⟨b, k * 3 + 1, none⟩) hpb _).far (p := ⟨b, k * 3 + 2, none⟩) hpb _)
      have HRV := hide hrv
      clear p0 p1 p2 g1 hrv
      refine wp_region_F 16 (fun w' => w'.cell? ⟨p, 1, none⟩ = some (Value.int .i64 o.a) ∧ w'.cell? ⟨g, 1, none⟩ = some (Value.slice AM5 (others i0 k o.a false (m)).mem.length cM5)) (fun w' => True) (by kernel_rfl) ⟨⟨by rw [← hZ]; exact a1, by rw [← hZ]; exact a2⟩, trivial⟩ (fun hHeld => ?_)
      try simp only [Act.put, List.setIfInBounds_toArray, List.set_cons_zero, List.set_cons_succ]
      rw [← hZ] at hHeld ⊢
      clear hZ
      refine wpAnyF_take (i := 0) (v := ?_) (by (simp only [List.getElem?_toArray, List.getElem?_cons_zero]; rfl)) (by kernel_rfl) (by kernel_rfl) (by kernel_rfl) (by decide) (by exact fun _ _ _ h => h) ⟨hHeld.1, .inr hHeld.2⟩ (Or.inl ⟨by rfl, ?_⟩) ?_
      rotate_left
      · (intro w' _; go_simp <;> with_reducible rfl)
      try simp only [Act.put, List.setIfInBounds_toArray, List.set_cons_zero, List.set_cons_succ]
      refine wpAnyF_take (i := 1) (v := ?_) (by (simp only [List.getElem?_toArray, List.getElem?_cons_succ, List.getElem?_cons_zero]; rfl)) (by kernel_rfl) (by kernel_rfl) (by kernel_rfl) (by decide) (by exact fun _ _ _ h => h) ⟨hHeld.1, .inr hHeld.2⟩ (Or.inl ⟨by rfl, ?_⟩) ?_
      rotate_left
      · (intro w' _; go_simp <;> with_reducible rfl)
      try simp only [Act.put, List.setIfInBounds_toArray, List.set_cons_zero, List.set_cons_succ]
      refine wpAnyF_take (i := 2) (v := ?_) (by (simp only [List.getElem?_toArray, List.getElem?_cons_succ, List.getElem?_cons_zero]; rfl)) (by kernel_rfl) (by kernel_rfl) (by kernel_rfl) (by decide) (by exact fun _ _ _ h => h) ⟨hHeld.1, .inr hHeld.2⟩ (Or.inl ⟨by rfl, ?_⟩) ?_
      rotate_left
      · (intro w' _; go_simp <;> with_reducible rfl)
      try simp only [Act.put, List.setIfInBounds_toArray, List.set_cons_zero, List.set_cons_succ]
      refine wpAnyF_take (i := 3) (v := ?_) (by (simp only [List.getElem?_toArray, List.getElem?_cons_succ, List.getElem?_cons_zero]; rfl)) (by kernel_rfl) (by kernel_rfl) (by kernel_rfl) (by decide) (by exact fun _ _ _ h => h) ⟨hHeld.1, .inr hHeld.2⟩ (Or.inl ⟨by rfl, ?_⟩) ?_
      rotate_left
      · (intro w' _; go_simp <;> with_reducible rfl)
      try simp only [Act.put, List.setIfInBounds_toArray, List.set_cons_zero, List.set_cons_succ]
      refine wpAnyF_keep (i := 4) (v := ?_) (by (simp only [List.getElem?_toArray, List.getElem?_cons_succ, List.getElem?_cons_zero]; rfl)) (by kernel_rfl) (by kernel_rfl) (by kernel_rfl) (by decide) (by exact fun _ _ _ h => h) ⟨hHeld.1, .inr hHeld.2⟩ (Or.inl ⟨by rfl, ?_⟩) ?_
      rotate_left
      · (intro w' hSw; (try dsimp only at hSw); obtain ⟨hSa0, hSa1⟩ := hSw; go_simp <;> with_reducible rfl)
      try simp only [Act.put, List.setIfInBounds_toArray, List.set_cons_zero, List.set_cons_succ]
      refine wpAnyF_take (i := 5) (v := ?_) (by (simp only [List.getElem?_toArray, List.getElem?_cons_succ, List.getElem?_cons_zero]; rfl)) (by kernel_rfl) (by kernel_rfl) (by kernel_rfl) (by decide) (by exact fun _ _ _ h => h) ⟨hHeld.1, .inr hHeld.2⟩ (Or.inl ⟨by rfl, ?_⟩) ?_
      rotate_left
      · (intro w' _; go_simp <;> with_reducible rfl)
      try simp only [Act.put, List.setIfInBounds_toArray, List.set_cons_zero, List.set_cons_succ]
      refine wpAnyF_take (i := 6) (v := ?_) (by (simp only [List.getElem?_toArray, List.getElem?_cons_succ, List.getElem?_cons_zero]; rfl)) (by kernel_rfl) (by kernel_rfl) (by kernel_rfl) (by decide) (by exact fun _ _ _ h => h) ⟨hHeld.1, .inr hHeld.2⟩ (Or.inl ⟨by rfl, ?_⟩) ?_
      rotate_left
      · (intro w' _; go_simp <;> with_reducible rfl)
      try simp only [Act.put, List.setIfInBounds_toArray, List.set_cons_zero, List.set_cons_succ]
      refine wpAnyF_take (i := 7) (v := ?_) (by (simp only [List.getElem?_toArray, List.getElem?_cons_succ, List.getElem?_cons_zero]; rfl)) (by kernel_rfl) (by kernel_rfl) (by kernel_rfl) (by decide) (by exact fun _ _ _ h => h) ⟨hHeld.1, .inr hHeld.2⟩ (Or.inl ⟨by rfl, ?_⟩) ?_
      rotate_left
      · (intro w' _; go_simp <;> with_reducible rfl)
      try simp only [Act.put, List.setIfInBounds_toArray, List.set_cons_zero, List.set_cons_succ]
      refine wpAnyF_keep (i := 8) (v := ?_) (by (simp only [List.getElem?_toArray, List.getElem?_cons_succ, List.getElem?_cons_zero]; rfl)) (by kernel_rfl) (by kernel_rfl) (by kernel_rfl) (by decide) (by exact fun _ _ _ h => h) ⟨hHeld.1, .inr hHeld.2⟩ (Or.inl ⟨by rfl, ?_⟩) ?_
      rotate_left
      · (intro w' hSw; (try dsimp only at hSw); obtain ⟨hSa0, hSa1⟩ := hSw; go_simp <;> with_reducible rfl)
      try simp only [Act.put, List.setIfInBounds_toArray, List.set_cons_zero, List.set_cons_succ]
      refine wpAnyF_take (i := 9) (v := ?_) (by (simp only [List.getElem?_toArray, List.getElem?_cons_succ, List.getElem?_cons_zero]; rfl)) (by kernel_rfl) (by kernel_rfl) (by kernel_rfl) (by decide) (by exact fun _ _ _ h => h) ⟨hHeld.1, .inr hHeld.2⟩ (Or.inl ⟨by rfl, ?_⟩) ?_
      rotate_left
      · (intro w' _; go_simp <;> with_reducible rfl)
      try simp only [Act.put, List.setIfInBounds_toArray, List.set_cons_zero, List.set_cons_succ]
      refine wpAnyF_take (i := 10) (v := ?_) (by (simp only [List.getElem?_toArray, List.getElem?_cons_succ, List.getElem?_cons_zero]; rfl)) (by kernel_rfl) (by kernel_rfl) (by kernel_rfl) (by decide) (by exact fun _ _ _ h => h) ⟨hHeld.1, .inr hHeld.2⟩ (Or.inl ⟨by rfl, ?_⟩) ?_
      rotate_left
      · (intro w' _; go_simp <;> with_reducible rfl)
      try simp only [Act.put, List.setIfInBounds_toArray, List.set_cons_zero, List.set_cons_succ]
      refine wpAnyF_take (i := 11) (v := ?_) (by (simp only [List.getElem?_toArray, List.getElem?_cons_succ, List.getElem?_cons_zero]; rfl)) (by kernel_rfl) (by kernel_rfl) (by kernel_rfl) (by decide) (by exact fun _ _ _ h => h) ⟨hHeld.1, .inr hHeld.2⟩ (Or.inl ⟨by rfl, ?_⟩) ?_
      rotate_left
      · (intro w' _; go_simp <;> with_reducible rfl)
      try simp only [Act.put, List.setIfInBounds_toArray, List.set_cons_zero, List.set_cons_succ]
      refine wpAnyF_keep (i := 12) (v := ?_) (by (simp only [List.getElem?_toArray, List.getElem?_cons_succ, List.getElem?_cons_zero]; rfl)) (by kernel_rfl) (by kernel_rfl) (by kernel_rfl) (by decide) (by exact fun _ _ _ h => h) ⟨hHeld.1, .inr hHeld.2⟩ (Or.inl ⟨by rfl, ?_⟩) ?_
      rotate_left
      · (intro w' hSw; (try dsimp only at hSw); obtain ⟨hSa0, hSa1⟩ := hSw; go_simp <;> with_reducible rfl)
      try simp only [Act.put, List.setIfInBounds_toArray, List.set_cons_zero, List.set_cons_succ]
      refine wpAnyF_ready (rs := [13]) (by kernel_rfl) (by simp) ?_
      refine AllReadyF.cons (by (simp only [List.getElem?_toArray, List.getElem?_cons_succ, List.getElem?_cons_zero]; rfl)) (fun K hK => ?_) AllReadyF.nil
      go_simp
      go_at_call 64
      refine HRD.out.mono ?_
      rintro e wz ⟨rfl, rfl⟩
      refine hK.out _ _ ⟨⟨a1, a2⟩, trivial⟩ (fun hNew => ?_)
      clear hK K hHeld
      have hHeld := hNew
      clear hNew
      try simp only [Act.put, List.setIfInBounds_toArray, List.set_cons_zero, List.set_cons_succ]
      refine wpAnyF_take (i := 14) (v := ?_) (by (simp only [List.getElem?_toArray, List.getElem?_cons_succ, List.getElem?_cons_zero]; rfl)) (by kernel_rfl) (by kernel_rfl) (by kernel_rfl) (by decide) (by exact fun _ _ _ h => h) ⟨hHeld.1, .inr hHeld.2⟩ (Or.inl ⟨by rfl, ?_⟩) ?_
      rotate_left
      · (intro w' _; go_simp <;> with_reducible rfl)
      try simp only [Act.put, List.setIfInBounds_toArray, List.set_cons_zero, List.set_cons_succ]
      refine wpAnyF_take (i := 15) (v := ?_) (by (simp only [List.getElem?_toArray, List.getElem?_cons_succ, List.getElem?_cons_zero]; rfl)) (by kernel_rfl) (by kernel_rfl) (by kernel_rfl) (by decide) (by exact fun _ _ _ h => h) ⟨hHeld.1, .inr hHeld.2⟩ (Or.inl ⟨by rfl, ?_⟩) ?_
      rotate_left
      · (intro w' _; go_simp <;> with_reducible rfl)
      try simp only [Act.put, List.setIfInBounds_toArray, List.set_cons_zero, List.set_cons_succ]
      refine wpAnyF_ready (rs := [16]) (by kernel_rfl) (by simp) ?_
      refine AllReadyF.last (by (simp only [List.getElem?_toArray, List.getElem?_cons_succ, List.getElem?_cons_zero]; rfl)) (by kernel_rfl) (fun K hK => ?_) AllReadyF.nil
      go_simp
      refine hK.out _ _ ⟨(HKZ.out.cell 1).trans rfl, (HPT.out.1.box.cell 1).trans rfl⟩ ?_
      clear hK K
      try simp only [Act.put, List.setIfInBounds_toArray, List.set_cons_zero, List.set_cons_succ]
      refine wpAnyF_done (by kernel_rfl) ?_ _
      obtain ⟨y0, y1, y2, _⟩ := HPT.out.1.line (HG5.out.shp.set_ hi0 _) hi0 hk hu
      have y2' := y2
      rw [HG5.out.shp.ln_set hi0 hk, if_pos ⟨rfl, rfl⟩] at y2'
      clear y0 y1 y2
      go_wp2
      go_ret
      have er := HR.out
      rw [do_L0 HK.out (free_keep (fun hh => hh.1 HKX.out)) (by omega) HKX.out] at er
      simp only [Prod.mk.injEq] at er
      rw [← HRV.out] at er
      obtain ⟨rfl, rfl⟩ := er
      first | exact ⟨rfl, _, HPT.out.1, HPT.out.2⟩ | exact ⟨rfl, ⟨_, HPT.out.1⟩, HPT.out.2⟩
    · have hos : (o.k == 1) = true := by rw [hs]; rfl
      obtain ⟨z0, z1, z2, _⟩ := HM2.out.line HG.out.shp hi0 hk hu
      rw [HKX.out] at z0
      have OT := hide (l7Others_any (cr := i0) true HM2.out HG.out hk ha HP.out (by omega) HLN.out)
      have p0 := (HK2.out.cell 0).trans (rfl : _ = some (Value.int .i64 o.k))
      have p1 := (HK2.out.cell 1).trans (rfl : _ = some (Value.int .i64 o.a))
      have p2 := (HK2.out.cell 2).trans (rfl : _ = some (Value.int .i64 o.v))
      go_wp2_with fail
      refine OT.out.mono ?_
      rintro e w5 ⟨rfl, v5, M5, B5⟩
      obtain ⟨AM5, cM5, rfl⟩ := M5.shape
      have HOK := hide (others_ok (c := i0) HG.out hk o.a true)
      have HG5 := hide HOK.out.1.good
      have HL5 := hide (show (others i0 k o.a true m).mem.length ≤ 41 from Nat.le_trans HOK.out.2.2.2 (Nat.succ_le_succ HLN.out))
      have HKP5 := hide (B5.bk HK2.out HPS.out)
      have HB5 := hide (HB2.out.trans B5 (fun _ e => .inl e))
      have HM5 := hide M5
      clear OT M5 B5 p0 p1 p2 l0 l1 l2
      clear z0 z1 z2
      obtain ⟨y0, y1, y2, yf⟩ := HM5.out.line HG5.out.shp hi0 hk hu
      have d0 := yf (k * 3)
      have d1 := yf (k * 3 + 1)
      have d2 := yf (k * 3 + 2)
      clear yf
      have p0 := (HKP5.out.cell 0).trans (rfl : _ = some (Value.int .i64 o.k))
      have p1 := (HKP5.out.cell 1).trans (rfl : _ = some (Value.int .i64 o.a))
      have p2 := (HKP5.out.cell 2).trans (rfl : _ = some (Value.int .i64 o.v))
      go_wp2_with fail
      obtain ⟨Z, hZ⟩ : ∃ Z : World, Z = w5.drew := ⟨_, rfl⟩
      have y0 : Z.cell? ⟨b, k * 3, none⟩ = some (.int .i64 (ln (others i0 k o.a true (m)).cs i0 k).k) := by rw [hZ]; exact y0
      have y1 : Z.cell? ⟨b, k * 3 + 1, none⟩ = some (.int .i64 (ln (others i0 k o.a true (m)).cs i0 k).a) := by rw [hZ]; exact y1
      have y2 : Z.cell? ⟨b, k * 3 + 2, none⟩ = some (.int .i64 (ln (others i0 k o.a true (m)).cs i0 k).v) := by rw [hZ]; exact y2
      have d0 : Z.frozen? ⟨b, k * 3, none⟩ = false := by rw [hZ]; exact d0
      have d1 : Z.frozen? ⟨b, k * 3 + 1, none⟩ = false := by rw [hZ]; exact d1
      have d2 : Z.frozen? ⟨b, k * 3 + 2, none⟩ = false := by rw [hZ]; exact d2
      have a1 : Z.cell? ⟨p, 1, none⟩ = some (.int .i64 o.a) := by rw [hZ]; exact p1
      have a2 : Z.cell? ⟨p, 2, none⟩ = some (.int .i64 o.v) := by rw [hZ]; exact p2
      have HPT : Hid (Mdl (((Z.setCell ⟨b, k * 3, none⟩ (.int .i64 2)).setCell ⟨b, k * 3 + 1, none⟩ (.int .i64 o.a)).setCell ⟨b, k * 3 + 2, none⟩ (.int .i64 o.v)) base g gv c ⟨setL (others i0 k o.a true (m)).cs i0 k ⟨2, o.a, o.v⟩, (others i0 k o.a true (m)).mem⟩ _ us ∧ But (MdlS g us) w (((Z.setCell ⟨b, k * 3, none⟩ (.int .i64 2)).setCell ⟨b, k * 3 + 1, none⟩ (.int .i64 o.a)).setCell ⟨b, k * 3 + 2, none⟩ (.int .i64 o.v))) := hide (by
        rw [hZ]
        have M9 := HM5.out.below (Below.refl w5.heap.size w5).drew
        have P9 := M9.put HG5.out.shp hi0 hk hu ⟨2, o.a, o.v⟩
        exact ⟨P9.1, (HB5.out.trans (S' := fun _ => False) (But.of_below (Below.refl w5.heap.size w5).drew) (fun _ e => e.elim)).trans P9.2 (fun _ e => .inl e)⟩)
      have HKZ : Hid (Bk (((Z.setCell ⟨b, k * 3, none⟩ (.int .i64 2)).setCell ⟨b, k * 3 + 1, none⟩ (.int .i64 o.a)).setCell ⟨b, k * 3 + 2, none⟩ (.int .i64 o.v)) p #[.int .i64 o.k, .int .i64 o.a, .int .i64 o.v] 84) := hide (by
        rw [hZ]
        have K9 : Bk w5.drew p #[.int .i64 o.k, .int .i64 o.a, .int .i64 o.v] 84 := HKP5.out
        exact ((K9.far (p := ⟨b, k * 3, none⟩) hpb _).far (p := ⟨b, k * 3 + 1, none⟩) hpb _).far (p := ⟨b, k * 3 + 2, none⟩) hpb _)
      clear p0 p1 p2
      refine wp_region_F 99 (fun w' => w'.cell? ⟨p, 1, none⟩ = some (Value.int .i64 o.a) ∧ w'.cell? ⟨p, 2, none⟩ = some (Value.int .i64 o.v)) (fun w' => True) (by kernel_rfl) ⟨⟨by rw [← hZ]; exact a1, by rw [← hZ]; exact a2⟩, trivial⟩ (fun hHeld => ?_)
      try simp only [Act.put, List.setIfInBounds_toArray, List.set_cons_zero, List.set_cons_succ]
      rw [← hZ] at hHeld ⊢
      clear hZ
      refine wpAnyF_take (i := 0) (v := ?_) (by (simp only [List.getElem?_toArray, List.getElem?_cons_zero]; rfl)) (by kernel_rfl) (by kernel_rfl) (by kernel_rfl) (by decide) (by exact fun _ _ _ h => h) ⟨hHeld.1, .inr hHeld.2⟩ (Or.inl ⟨by rfl, ?_⟩) ?_
      rotate_left
      · (intro w' _; go_simp <;> with_reducible rfl)
      try simp only [Act.put, List.setIfInBounds_toArray, List.set_cons_zero, List.set_cons_succ]
      refine wpAnyF_take (i := 1) (v := ?_) (by (simp only [List.getElem?_toArray, List.getElem?_cons_succ, List.getElem?_cons_zero]; rfl)) (by kernel_rfl) (by kernel_rfl) (by kernel_rfl) (by decide) (by exact fun _ _ _ h => h) ⟨hHeld.1, .inr hHeld.2⟩ (Or.inl ⟨by rfl, ?_⟩) ?_
      rotate_left
      · (intro w' _; go_simp <;> with_reducible rfl)
      try simp only [Act.put, List.setIfInBounds_toArray, List.set_cons_zero, List.set_cons_succ]
      refine wpAnyF_take (i := 2) (v := ?_) (by (simp only [List.getElem?_toArray, List.getElem?_cons_succ, List.getElem?_cons_zero]; rfl)) (by kernel_rfl) (by kernel_rfl) (by kernel_rfl) (by decide) (by exact fun _ _ _ h => h) ⟨hHeld.1, .inr hHeld.2⟩ (Or.inl ⟨by rfl, ?_⟩) ?_
      rotate_left
      · (intro w' _; go_simp <;> with_reducible rfl)
      try simp only [Act.put, List.setIfInBounds_toArray, List.set_cons_zero, List.set_cons_succ]
      refine wpAnyF_take (i := 3) (v := ?_) (by (simp only [List.getElem?_toArray, List.getElem?_cons_succ, List.getElem?_cons_zero]; rfl)) (by kernel_rfl) (by kernel_rfl) (by kernel_rfl) (by decide) (by exact fun _ _ _ h => h) ⟨hHeld.1, .inr hHeld.2⟩ (Or.inl ⟨by rfl, ?_⟩) ?_
      rotate_left
      · (intro w' _; go_simp <;> with_reducible rfl)
      try simp only [Act.put, List.setIfInBounds_toArray, List.set_cons_zero, List.set_cons_succ]
      refine wpAnyF_keep (i := 4) (v := ?_) (by (simp only [List.getElem?_toArray, List.getElem?_cons_succ, List.getElem?_cons_zero]; rfl)) (by kernel_rfl) (by kernel_rfl) (by kernel_rfl) (by decide) (by exact fun _ _ _ h => h) ⟨hHeld.1, .inr hHeld.2⟩ (Or.inl ⟨by rfl, ?_⟩) ?_
      rotate_left
      · (intro w' hSw; (try dsimp only at hSw); obtain ⟨hSa0, hSa1⟩ := hSw; go_simp <;> with_reducible rfl)
      try simp only [Act.put, List.setIfInBounds_toArray, List.set_cons_zero, List.set_cons_succ]
      refine wpAnyF_take (i := 5) (v := ?_) (by (simp only [List.getElem?_toArray, List.getElem?_cons_succ, List.getElem?_cons_zero]; rfl)) (by kernel_rfl) (by kernel_rfl) (by kernel_rfl) (by decide) (by exact fun _ _ _ h => h) ⟨hHeld.1, .inr hHeld.2⟩ (Or.inl ⟨by rfl, ?_⟩) ?_
      rotate_left
      · (intro w' _; go_simp <;> with_reducible rfl)
      try simp only [Act.put, List.setIfInBounds_toArray, List.set_cons_zero, List.set_cons_succ]
      refine wpAnyF_take (i := 6) (v := ?_) (by (simp only [List.getElem?_toArray, List.getElem?_cons_succ, List.getElem?_cons_zero]; rfl)) (by kernel_rfl) (by kernel_rfl) (by kernel_rfl) (by decide) (by exact fun _ _ _ h => h) ⟨hHeld.1, .inr hHeld.2⟩ (Or.inl ⟨by rfl, ?_⟩) ?_
      rotate_left
      · (intro w' _; go_simp <;> with_reducible rfl)
      try simp only [Act.put, List.setIfInBounds_toArray, List.set_cons_zero, List.set_cons_succ]
      refine wpAnyF_take (i := 7) (v := ?_) (by (simp only [List.getElem?_toArray, List.getElem?_cons_succ, List.getElem?_cons_zero]; rfl)) (by kernel_rfl) (by kernel_rfl) (by kernel_rfl) (by decide) (by exact fun _ _ _ h => h) ⟨hHeld.1, .inr hHeld.2⟩ (Or.inl ⟨by rfl, ?_⟩) ?_
      rotate_left
      · (intro w' _; go_simp <;> with_reducible rfl)
      try simp only [Act.put, List.setIfInBounds_toArray, List.set_cons_zero, List.set_cons_succ]
      refine wpAnyF_keep (i := 8) (v := ?_) (by (simp only [List.getElem?_toArray, List.getElem?_cons_succ, List.getElem?_cons_zero]; rfl)) (by kernel_rfl) (by kernel_rfl) (by kernel_rfl) (by decide) (by exact fun _ _ _ h => h) ⟨hHeld.1, .inr hHeld.2⟩ (Or.inl ⟨by rfl, ?_⟩) ?_
      rotate_left
      · (intro w' hSw; (try dsimp only at hSw); obtain ⟨hSa0, hSa1⟩ := hSw; go_simp <;> with_reducible rfl)
      try simp only [Act.put, List.setIfInBounds_toArray, List.set_cons_zero, List.set_cons_succ]
      refine wpAnyF_take (i := 9) (v := ?_) (by (simp only [List.getElem?_toArray, List.getElem?_cons_succ, List.getElem?_cons_zero]; rfl)) (by kernel_rfl) (by kernel_rfl) (by kernel_rfl) (by decide) (by exact fun _ _ _ h => h) ⟨hHeld.1, .inr hHeld.2⟩ (Or.inl ⟨by rfl, ?_⟩) ?_
      rotate_left
      · (intro w' _; go_simp <;> with_reducible rfl)
      try simp only [Act.put, List.setIfInBounds_toArray, List.set_cons_zero, List.set_cons_succ]
      refine wpAnyF_take (i := 10) (v := ?_) (by (simp only [List.getElem?_toArray, List.getElem?_cons_succ, List.getElem?_cons_zero]; rfl)) (by kernel_rfl) (by kernel_rfl) (by kernel_rfl) (by decide) (by exact fun _ _ _ h => h) ⟨hHeld.1, .inr hHeld.2⟩ (Or.inl ⟨by rfl, ?_⟩) ?_
      rotate_left
      · (intro w' _; go_simp <;> with_reducible rfl)
      try simp only [Act.put, List.setIfInBounds_toArray, List.set_cons_zero, List.set_cons_succ]
      refine wpAnyF_ready (rs := [11]) (by kernel_rfl) (by simp) ?_
      refine AllReadyF.cons (by (simp only [List.getElem?_toArray, List.getElem?_cons_succ, List.getElem?_cons_zero]; rfl)) (fun K hK => ?_) AllReadyF.nil
      go_simp
      refine hK.out _ _ ⟨⟨(HKZ.out.cell 1).trans rfl, (HKZ.out.cell 2).trans rfl⟩, trivial⟩ (fun hNew => ?_)
      clear hK K hHeld
      have hHeld := hNew
      clear hNew
      try simp only [Act.put, List.setIfInBounds_toArray, List.set_cons_zero, List.set_cons_succ]
      refine wpAnyF_done (by kernel_rfl) ?_ _
      have p2 := (HKZ.out.cell 2).trans (rfl : _ = some (Value.int .i64 o.v))
      go_wp2
      go_ret
      have er := HR.out
      rw [do_S HK.out (free_keep (fun hh => hh.1 HKX.out)) hs (by rw [HKX.out]; decide)] at er
      simp only [Prod.mk.injEq] at er
      obtain ⟨rfl, rfl⟩ := er
      first | exact ⟨rfl, _, HPT.out.1, HPT.out.2⟩ | exact ⟨rfl, ⟨_, HPT.out.1⟩, HPT.out.2⟩
  · rw [h0] at l0
    by_cases hxa : X.a = o.a
    · have HKX := hide (show (ln m.cs i0 k).k = 1 by rw [← HX.out]; exact h0)
      have HLN := hide (show m.mem.length ≤ 40 by have := HHM.out; omega)
      have hxb : (X.a != o.a) = false := by rw [hxa]; simp
      go_wp2_with fail
      go_quiet (fail)
      obtain ⟨V2, hV2⟩ : ∃ V2 : World, V2 = V.drewN nq := ⟨_, rfl⟩
      have HK2 : Hid (Bk V2 p #[.int .i64 o.k, .int .i64 o.a, .int .i64 o.v] 84) := hide (by rw [hV2]; exact HKV.out)
      have HM2 : Hid (Mdl V2 base g gv c m (.slice AM m.mem.length cM) us) := hide (by rw [hV2]; exact HMV.out.below (below_drewN (Below.refl V.heap.size V) _))
      have HB2 : Hid (But (MdlS g us) w V2) := hide (by rw [hV2]; exact HBV.out.trans (S' := fun _ => False) (But.of_below (below_drewN (Below.refl V.heap.size V) _)) (fun _ e => e.elim))
      have l0 : V2.cell? ⟨b, k * 3, none⟩ = some _ := (by rw [hV2]; exact l0)
      have l1 : V2.cell? ⟨b, k * 3 + 1, none⟩ = some _ := (by rw [hV2]; exact l1)
      have l2 : V2.cell? ⟨b, k * 3 + 2, none⟩ = some _ := (by rw [hV2]; exact l2)
      rw [← hV2]
      clear hV2 p0 p1 p2
      rcases hkd0 with ⟨hs, hs2⟩ | hs
      · have p0' := (HK2.out.cell 0).trans (rfl : _ = some (Value.int .i64 o.k))
        rw [hs] at p0'
        have hos : (o.k == 1) = false := by rw [hs]; rfl
        have p0 := (HK2.out.cell 0).trans (rfl : _ = some (Value.int .i64 o.k))
        have p1 := (HK2.out.cell 1).trans (rfl : _ = some (Value.int .i64 o.a))
        have p2 := (HK2.out.cell 2).trans (rfl : _ = some (Value.int .i64 o.v))
        clear l0 l1 l2
        obtain ⟨z0, z1, z2, _⟩ := HM2.out.line HG.out.shp hi0 hk hu
        rw [HKX.out] at z0
        go_wp2
        go_ret
        have er := HR.out
        rw [do_L HK.out (free_keep (fun hh => hh.2 (by rw [← HX.out]; exact hxa))) (by omega) (by rw [HKX.out]; decide)] at er
        simp only [Prod.mk.injEq] at er
        obtain ⟨rfl, rfl⟩ := er
        exact ⟨rfl, _, HM2.out, HB2.out⟩
      · have hos : (o.k == 1) = true := by rw [hs]; rfl
        obtain ⟨z0, z1, z2, _⟩ := HM2.out.line HG.out.shp hi0 hk hu
        rw [HKX.out] at z0
        have OT := hide (l7Others_any (cr := i0) true HM2.out HG.out hk ha HP.out (by omega) HLN.out)
        have p0 := (HK2.out.cell 0).trans (rfl : _ = some (Value.int .i64 o.k))
        have p1 := (HK2.out.cell 1).trans (rfl : _ = some (Value.int .i64 o.a))
        have p2 := (HK2.out.cell 2).trans (rfl : _ = some (Value.int .i64 o.v))
        go_wp2_with fail
        refine OT.out.mono ?_
        rintro e w5 ⟨rfl, v5, M5, B5⟩
        obtain ⟨AM5, cM5, rfl⟩ := M5.shape
        have HOK := hide (others_ok (c := i0) HG.out hk o.a true)
        have HG5 := hide HOK.out.1.good
        have HL5 := hide (show (others i0 k o.a true m).mem.length ≤ 41 from Nat.le_trans HOK.out.2.2.2 (Nat.succ_le_succ HLN.out))
        have HKP5 := hide (B5.bk HK2.out HPS.out)
        have HB5 := hide (HB2.out.trans B5 (fun _ e => .inl e))
        have HM5 := hide M5
        clear OT M5 B5 p0 p1 p2 l0 l1 l2
        clear z0 z1 z2
        obtain ⟨y0, y1, y2, yf⟩ := HM5.out.line HG5.out.shp hi0 hk hu
        have d0 := yf (k * 3)
        have d1 := yf (k * 3 + 1)
        have d2 := yf (k * 3 + 2)
        clear yf
        have p0 := (HKP5.out.cell 0).trans (rfl : _ = some (Value.int .i64 o.k))
        have p1 := (HKP5.out.cell 1).trans (rfl : _ = some (Value.int .i64 o.a))
        have p2 := (HKP5.out.cell 2).trans (rfl : _ = some (Value.int .i64 o.v))
        go_wp2_with fail
        obtain ⟨Z, hZ⟩ : ∃ Z : World, Z = w5.drew := ⟨_, rfl⟩
        have y0 : Z.cell? ⟨b, k * 3, none⟩ = some (.int .i64 (ln (others i0 k o.a true (m)).cs i0 k).k) := by rw [hZ]; exact y0
        have y1 : Z.cell? ⟨b, k * 3 + 1, none⟩ = some (.int .i64 (ln (others i0 k o.a true (m)).cs i0 k).a) := by rw [hZ]; exact y1
        have y2 : Z.cell? ⟨b, k * 3 + 2, none⟩ = some (.int .i64 (ln (others i0 k o.a true (m)).cs i0 k).v) := by rw [hZ]; exact y2
        have d0 : Z.frozen? ⟨b, k * 3, none⟩ = false := by rw [hZ]; exact d0
        have d1 : Z.frozen? ⟨b, k * 3 + 1, none⟩ = false := by rw [hZ]; exact d1
        have d2 : Z.frozen? ⟨b, k * 3 + 2, none⟩ = false := by rw [hZ]; exact d2
        have a1 : Z.cell? ⟨p, 1, none⟩ = some (.int .i64 o.a) := by rw [hZ]; exact p1
        have a2 : Z.cell? ⟨p, 2, none⟩ = some (.int .i64 o.v) := by rw [hZ]; exact p2
        have HPT : Hid (Mdl (((Z.setCell ⟨b, k * 3, none⟩ (.int .i64 2)).setCell ⟨b, k * 3 + 1, none⟩ (.int .i64 o.a)).setCell ⟨b, k * 3 + 2, none⟩ (.int .i64 o.v)) base g gv c ⟨setL (others i0 k o.a true (m)).cs i0 k ⟨2, o.a, o.v⟩, (others i0 k o.a true (m)).mem⟩ _ us ∧ But (MdlS g us) w (((Z.setCell ⟨b, k * 3, none⟩ (.int .i64 2)).setCell ⟨b, k * 3 + 1, none⟩ (.int .i64 o.a)).setCell ⟨b, k * 3 + 2, none⟩ (.int .i64 o.v))) := hide (by
          rw [hZ]
          have M9 := HM5.out.below (Below.refl w5.heap.size w5).drew
          have P9 := M9.put HG5.out.shp hi0 hk hu ⟨2, o.a, o.v⟩
          exact ⟨P9.1, (HB5.out.trans (S' := fun _ => False) (But.of_below (Below.refl w5.heap.size w5).drew) (fun _ e => e.elim)).trans P9.2 (fun _ e => .inl e)⟩)
        have HKZ : Hid (Bk (((Z.setCell ⟨b, k * 3, none⟩ (.int .i64 2)).setCell ⟨b, k * 3 + 1, none⟩ (.int .i64 o.a)).setCell ⟨b, k * 3 + 2, none⟩ (.int .i64 o.v)) p #[.int .i64 o.k, .int .i64 o.a, .int .i64 o.v] 84) := hide (by
          rw [hZ]
          have K9 : Bk w5.drew p #[.int .i64 o.k, .int .i64 o.a, .int .i64 o.v] 84 := HKP5.out
          exact ((K9.far (p := ⟨b, k * 3, none⟩) hpb _).far (p := ⟨b, k * 3 + 1, none⟩) hpb _).far (p := ⟨b, k * 3 + 2, none⟩) hpb _)
        clear p0 p1 p2
        refine wp_region_F 99 (fun w' => w'.cell? ⟨p, 1, none⟩ = some (Value.int .i64 o.a) ∧ w'.cell? ⟨p, 2, none⟩ = some (Value.int .i64 o.v)) (fun w' => True) (by kernel_rfl) ⟨⟨by rw [← hZ]; exact a1, by rw [← hZ]; exact a2⟩, trivial⟩ (fun hHeld => ?_)
        try simp only [Act.put, List.setIfInBounds_toArray, List.set_cons_zero, List.set_cons_succ]
        rw [← hZ] at hHeld ⊢
        clear hZ
        refine wpAnyF_take (i := 0) (v := ?_) (by (simp only [List.getElem?_toArray, List.getElem?_cons_zero]; rfl)) (by kernel_rfl) (by kernel_rfl) (by kernel_rfl) (by decide) (by exact fun _ _ _ h => h) ⟨hHeld.1, .inr hHeld.2⟩ (Or.inl ⟨by rfl, ?_⟩) ?_
        rotate_left
        · (intro w' _; go_simp <;> with_reducible rfl)
        try simp only [Act.put, List.setIfInBounds_toArray, List.set_cons_zero, List.set_cons_succ]
        refine wpAnyF_take (i := 1) (v := ?_) (by (simp only [List.getElem?_toArray, List.getElem?_cons_succ, List.getElem?_cons_zero]; rfl)) (by kernel_rfl) (by kernel_rfl) (by kernel_rfl) (by decide) (by exact fun _ _ _ h => h) ⟨hHeld.1, .inr hHeld.2⟩ (Or.inl ⟨by rfl, ?_⟩) ?_
        rotate_left
        · (intro w' _; go_simp <;> with_reducible rfl)
        try simp only [Act.put, List.setIfInBounds_toArray, List.set_cons_zero, List.set_cons_succ]
        refine wpAnyF_take (i := 2) (v := ?_) (by (simp only [List.getElem?_toArray, List.getElem?_cons_succ, List.getElem?_cons_zero]; rfl)) (by kernel_rfl) (by kernel_rfl) (by kernel_rfl) (by decide) (by exact fun _ _ _ h => h) ⟨hHeld.1, .inr hHeld.2⟩ (Or.inl ⟨by rfl, ?_⟩) ?_
        rotate_left
        · (intro w' _; go_simp <;> with_reducible rfl)
        try simp only [Act.put, List.setIfInBounds_toArray, List.set_cons_zero, List.set_cons_succ]
        refine wpAnyF_take (i := 3) (v := ?_) (by (simp only [List.getElem?_toArray, List.getElem?_cons_succ, List.getElem?_cons_zero]; rfl)) (by kernel_rfl) (by kernel_rfl) (by kernel_rfl) (by decide) (by exact fun _ _ _ h => h) ⟨hHeld.1, .inr hHeld.2⟩ (Or.inl ⟨by rfl, ?_⟩) ?_
        rotate_left
        · (intro w' _; go_simp <;> with_reducible rfl)
        try simp only [Act.put, List.setIfInBounds_toArray, List.set_cons_zero, List.set_cons_succ]
        refine wpAnyF_keep (i := 4) (v := ?_) (by (simp only [List.getElem?_toArray, List.getElem?_cons_succ, List.getElem?_cons_zero]; rfl)) (by kernel_rfl) (by kernel_rfl) (by kernel_rfl) (by decide) (by exact fun _ _ _ h => h) ⟨hHeld.1, .inr hHeld.2⟩ (Or.inl ⟨by rfl, ?_⟩) ?_
        rotate_left
        · (intro w' hSw; (try dsimp only at hSw); obtain ⟨hSa0, hSa1⟩ := hSw; go_simp <;> with_reducible rfl)
        try simp only [Act.put, List.setIfInBounds_toArray, List.set_cons_zero, List.set_cons_succ]
        refine wpAnyF_take (i := 5) (v := ?_) (by (simp only [List.getElem?_toArray, List.getElem?_cons_succ, List.getElem?_cons_zero]; rfl)) (by kernel_rfl) (by kernel_rfl) (by kernel_rfl) (by decide) (by exact fun _ _ _ h => h) ⟨hHeld.1, .inr hHeld.2⟩ (Or.inl ⟨by rfl, ?_⟩) ?_
        rotate_left
        · (intro w' _; go_simp <;> with_reducible rfl)
        try simp only [Act.put, List.setIfInBounds_toArray, List.set_cons_zero, List.set_cons_succ]
        refine wpAnyF_take (i := 6) (v := ?_) (by (simp only [List.getElem?_toArray, List.getElem?_cons_succ, List.getElem?_cons_zero]; rfl)) (by kernel_rfl) (by kernel_rfl) (by kernel_rfl) (by decide) (by exact fun _ _ _ h => h) ⟨hHeld.1, .inr hHeld.2⟩ (Or.inl ⟨by rfl, ?_⟩) ?_
        rotate_left
        · (intro w' _; go_simp <;> with_reducible rfl)
        try simp only [Act.put, List.setIfInBounds_toArray, List.set_cons_zero, List.set_cons_succ]
        refine wpAnyF_take (i := 7) (v := ?_) (by (simp only [List.getElem?_toArray, List.getElem?_cons_succ, List.getElem?_cons_zero]; rfl)) (by kernel_rfl) (by kernel_rfl) (by kernel_rfl) (by decide) (by exact fun _ _ _ h => h) ⟨hHeld.1, .inr hHeld.2⟩ (Or.inl ⟨by rfl, ?_⟩) ?_
        rotate_left
        · (intro w' _; go_simp <;> with_reducible rfl)
        try simp only [Act.put, List.setIfInBounds_toArray, List.set_cons_zero, List.set_cons_succ]
        refine wpAnyF_keep (i := 8) (v := ?_) (by (simp only [List.getElem?_toArray, List.getElem?_cons_succ, List.getElem?_cons_zero]; rfl)) (by kernel_rfl) (by kernel_rfl) (by kernel_rfl) (by decide) (by exact fun _ _ _ h => h) ⟨hHeld.1, .inr hHeld.2⟩ (Or.inl ⟨by rfl, ?_⟩) ?_
        rotate_left
        · (intro w' hSw; (try dsimp only at hSw); obtain ⟨hSa0, hSa1⟩ := hSw; go_simp <;> with_reducible rfl)
        try simp only [Act.put, List.setIfInBounds_toArray, List.set_cons_zero, List.set_cons_succ]
        refine wpAnyF_take (i := 9) (v := ?_) (by (simp only [List.getElem?_toArray, List.getElem?_cons_succ, List.getElem?_cons_zero]; rfl)) (by kernel_rfl) (by kernel_rfl) (by kernel_rfl) (by decide) (by exact fun _ _ _ h => h) ⟨hHeld.1, .inr hHeld.2⟩ (Or.inl ⟨by rfl, ?_⟩) ?_
        rotate_left
        · (intro w' _; go_simp <;> with_reducible rfl)
        try simp only [Act.put, List.setIfInBounds_toArray, List.set_cons_zero, List.set_cons_succ]
        refine wpAnyF_take (i := 10) (v := ?_) (by (simp only [List.getElem?_toArray, List.getElem?_cons_succ, List.getElem?_cons_zero]; rfl)) (by kernel_rfl) (by kernel_rfl) (by kernel_rfl) (by decide) (by exact fun _ _ _ h => h) ⟨hHeld.1, .inr hHeld.2⟩ (Or.inl ⟨by rfl, ?_⟩) ?_
        rotate_left
        · (intro w' _; go_simp <;> with_reducible rfl)
        try simp only [Act.put, List.setIfInBounds_toArray, List.set_cons_zero, List.set_cons_succ]
        refine wpAnyF_ready (rs := [11]) (by kernel_rfl) (by simp) ?_
        refine AllReadyF.cons (by (simp only [List.getElem?_toArray, List.getElem?_cons_succ, List.getElem?_cons_zero]; rfl)) (fun K hK => ?_) AllReadyF.nil
        go_simp
        refine hK.out _ _ ⟨⟨(HKZ.out.cell 1).trans rfl, (HKZ.out.cell 2).trans rfl⟩, trivial⟩ (fun hNew => ?_)
        clear hK K hHeld
        have hHeld := hNew
        clear hNew
        try simp only [Act.put, List.setIfInBounds_toArray, List.set_cons_zero, List.set_cons_succ]
        refine wpAnyF_done (by kernel_rfl) ?_ _
        have p2 := (HKZ.out.cell 2).trans (rfl : _ = some (Value.int .i64 o.v))
        go_wp2
        go_ret
        have er := HR.out
        rw [do_S HK.out (free_keep (fun hh => hh.2 (by rw [← HX.out]; exact hxa))) hs (by rw [HKX.out]; decide)] at er
        simp only [Prod.mk.injEq] at er
        obtain ⟨rfl, rfl⟩ := er
        first | exact ⟨rfl, _, HPT.out.1, HPT.out.2⟩ | exact ⟨rfl, ⟨_, HPT.out.1⟩, HPT.out.2⟩
    · have hxb : (X.a != o.a) = true := bne_iff_ne.2 hxa
      go_wp2_with fail
      go_quiet (fail)
      obtain ⟨V2, hV2⟩ : ∃ V2 : World, V2 = V.drewN nq := ⟨_, rfl⟩
      have HK2 : Hid (Bk V2 p #[.int .i64 o.k, .int .i64 o.a, .int .i64 o.v] 84) := hide (by rw [hV2]; exact HKV.out)
      have HM2 : Hid (Mdl V2 base g gv c m (.slice AM m.mem.length cM) us) := hide (by rw [hV2]; exact HMV.out.below (below_drewN (Below.refl V.heap.size V) _))
      have HB2 : Hid (But (MdlS g us) w V2) := hide (by rw [hV2]; exact HBV.out.trans (S' := fun _ => False) (But.of_below (below_drewN (Below.refl V.heap.size V) _)) (fun _ e => e.elim))
      have l0 : V2.cell? ⟨b, k * 3, none⟩ = some _ := (by rw [hV2]; exact l0)
      have l1 : V2.cell? ⟨b, k * 3 + 1, none⟩ = some _ := (by rw [hV2]; exact l1)
      have l2 : V2.cell? ⟨b, k * 3 + 2, none⟩ = some _ := (by rw [hV2]; exact l2)
      rw [← hV2]
      clear hV2 p0 p1 p2
      have hf := free_1 (m := m) (c := i0) (k := k) (a := o.a) (by rw [← HX.out]; exact h0) (by rw [← HX.out]; exact hxa)
      have HF := hide hf
      have HG1 := hide HFR.out.1.good
      have hln := HFR.out.2.1
      rw [HF.out] at HG1 hln
      have HLN := hide (show (⟨setL m.cs i0 k lnZ, m.mem⟩ : Mac).mem.length ≤ 40 by have := HHM.out; omega)
      clear hf hln
      have HKX := hide (show (ln (⟨setL m.cs i0 k lnZ, m.mem⟩ : Mac).cs i0 k).k = 0 by simp only; rw [HG.out.shp.ln_set hi0 hk, if_pos ⟨rfl, rfl⟩]; rfl)
      obtain ⟨y0, y1, y2, yf⟩ := HM2.out.line HG.out.shp hi0 hk hu
      have d0 := yf (k * 3)
      have d1 := yf (k * 3 + 1)
      have d2 := yf (k * 3 + 2)
      obtain ⟨M4, B4⟩ := HM2.out.put HG.out.shp hi0 hk hu lnZ
      have K4 := ((HK2.out.far (p := ⟨b, k * 3, none⟩) hpb (.int .i64 lnZ.k)).far (p := ⟨b, k * 3 + 1, none⟩) hpb (.int .i64 lnZ.a)).far (p := ⟨b, k * 3 + 2, none⟩) hpb (.int .i64 lnZ.v)
      have HPU := hide (And.intro M4 (And.intro (HB2.out.trans B4 (fun _ e => .inl e)) K4))
      clear M4 B4 K4 yf l1 l2
      clear y0
      go_upto_region 6 with fail
      obtain ⟨V6, hV6⟩ : ∃ V6 : World, V6 = ((V2.setCell ⟨b, k * 3, none⟩ (.int .i64 lnZ.k)).setCell ⟨b, k * 3 + 1, none⟩ (.int .i64 lnZ.a)).setCell ⟨b, k * 3 + 2, none⟩ (.int .i64 lnZ.v) := ⟨_, rfl⟩
      have HM6 : Hid (Mdl V6 base g gv c ⟨setL m.cs i0 k lnZ, m.mem⟩ (.slice AM m.mem.length cM) us) := hide (by rw [hV6]; exact HPU.out.1)
      have HB6 : Hid (But (MdlS g us) w V6) := hide (by rw [hV6]; exact HPU.out.2.1)
      have HK6 : Hid (Bk V6 p #[.int .i64 o.k, .int .i64 o.a, .int .i64 o.v] 84) := hide (by rw [hV6]; exact HPU.out.2.2)
      obtain ⟨l0, l1, l2, _⟩ := HM6.out.line HG1.out.shp hi0 hk hu
      rw [HKX.out] at l0
      simp only [lnZ] at hV6
      rw [← hV6]
      clear hV6 d0 d1 d2 y1 y2
      rcases hkd0 with ⟨hs, hs2⟩ | hs
      · have p0' := (HK6.out.cell 0).trans (rfl : _ = some (Value.int .i64 o.k))
        rw [hs] at p0'
        have hos : (o.k == 1) = false := by rw [hs]; rfl
        have OT := hide (l7Others_any (cr := i0) false HM6.out HG1.out hk ha HP.out (by omega) HLN.out)
        have p0 := (HK6.out.cell 0).trans (rfl : _ = some (Value.int .i64 o.k))
        have p1 := (HK6.out.cell 1).trans (rfl : _ = some (Value.int .i64 o.a))
        have p2 := (HK6.out.cell 2).trans (rfl : _ = some (Value.int .i64 o.v))
        go_wp2_with fail
        refine OT.out.mono ?_
        rintro e w5 ⟨rfl, v5, M5, B5⟩
        obtain ⟨AM5, cM5, rfl⟩ := M5.shape
        have HOK := hide (others_ok (c := i0) HG1.out hk o.a false)
        have HG5 := hide HOK.out.1.good
        have HL5 := hide (show (others i0 k o.a false ⟨setL m.cs i0 k lnZ, m.mem⟩).mem.length ≤ 41 from Nat.le_trans HOK.out.2.2.2 (Nat.succ_le_succ HLN.out))
        have HKP5 := hide (B5.bk HK6.out HPS.out)
        have HB5 := hide (HB6.out.trans B5 (fun _ e => .inl e))
        have HM5 := hide M5
        clear OT M5 B5 p0 p1 p2 l0 l1 l2
        obtain ⟨y0, y1, y2, yf⟩ := HM5.out.line HG5.out.shp hi0 hk hu
        have d0 := yf (k * 3)
        have d1 := yf (k * 3 + 1)
        have d2 := yf (k * 3 + 2)
        clear yf
        have p0 := (HKP5.out.cell 0).trans (rfl : _ = some (Value.int .i64 o.k))
        have p1 := (HKP5.out.cell 1).trans (rfl : _ = some (Value.int .i64 o.a))
        have p2 := (HKP5.out.cell 2).trans (rfl : _ = some (Value.int .i64 o.v))
        have g1 := (HM5.out.box.cell 1).trans (rfl : _ = some (Value.slice AM5 (others i0 k o.a false (⟨setL m.cs i0 k lnZ, m.mem⟩)).mem.length cM5))
        go_wp2_with fail
        obtain ⟨Z, hZ⟩ : ∃ Z : World, Z = w5.drew := ⟨_, rfl⟩
        have y0 : Z.cell? ⟨b, k * 3, none⟩ = some (.int .i64 (ln (others i0 k o.a false (⟨setL m.cs i0 k lnZ, m.mem⟩)).cs i0 k).k) := by rw [hZ]; exact y0
        have y1 : Z.cell? ⟨b, k * 3 + 1, none⟩ = some (.int .i64 (ln (others i0 k o.a false (⟨setL m.cs i0 k lnZ, m.mem⟩)).cs i0 k).a) := by rw [hZ]; exact y1
        have y2 : Z.cell? ⟨b, k * 3 + 2, none⟩ = some (.int .i64 (ln (others i0 k o.a false (⟨setL m.cs i0 k lnZ, m.mem⟩)).cs i0 k).v) := by rw [hZ]; exact y2
        have d0 : Z.frozen? ⟨b, k * 3, none⟩ = false := by rw [hZ]; exact d0
        have d1 : Z.frozen? ⟨b, k * 3 + 1, none⟩ = false := by rw [hZ]; exact d1
        have d2 : Z.frozen? ⟨b, k * 3 + 2, none⟩ = false := by rw [hZ]; exact d2
        have a1 : Z.cell? ⟨p, 1, none⟩ = some (.int .i64 o.a) := by rw [hZ]; exact p1
        have a2 : Z.cell? ⟨g, 1, none⟩ = some (.slice AM5 (others i0 k o.a false (⟨setL m.cs i0 k lnZ, m.mem⟩)).mem.length cM5) := by rw [hZ]; exact g1
        obtain ⟨rv, hrv⟩ : ∃ rv, rv = readM (others i0 k o.a false (⟨setL m.cs i0 k lnZ, m.mem⟩)).mem o.a := ⟨_, rfl⟩
        have HRD : Hid (Calls Tryz.prog 64 #[.slice AM5 (others i0 k o.a false (⟨setL m.cs i0 k lnZ, m.mem⟩)).mem.length cM5, .int .i64 o.a] Z fun e w' => e = .returned (.int .i64 rv) ∧ Z = w') := hide (by
          rw [hZ, hrv]
          exact l7Read_any _ AM5 cM5 o.a _ (by have := HL5.out; unfold maxLen; omega) (RdC.of_own (HM5.out.below (Below.refl w5.heap.size w5).drew).own.mem))
        have HPT : Hid (Mdl (((Z.setCell ⟨b, k * 3, none⟩ (.int .i64 1)).setCell ⟨b, k * 3 + 1, none⟩ (.int .i64 o.a)).setCell ⟨b, k * 3 + 2, none⟩ (.int .i64 rv)) base g gv c ⟨setL (others i0 k o.a false (⟨setL m.cs i0 k lnZ, m.mem⟩)).cs i0 k ⟨1, o.a, rv⟩, (others i0 k o.a false (⟨setL m.cs i0 k lnZ, m.mem⟩)).mem⟩ _ us ∧ But (MdlS g us) w (((Z.setCell ⟨b, k * 3, none⟩ (.int .i64 1)).setCell ⟨b, k * 3 + 1, none⟩ (.int .i64 o.a)).setCell ⟨b, k * 3 + 2, none⟩ (.int .i64 rv))) := hide (by
          rw [hZ]
          have M9 := HM5.out.below (Below.refl w5.heap.size w5).drew
          have P9 := M9.put HG5.out.shp hi0 hk hu ⟨1, o.a, rv⟩
          exact ⟨P9.1, (HB5.out.trans (S' := fun _ => False) (But.of_below (Below.refl w5.heap.size w5).drew) (fun _ e => e.elim)).trans P9.2 (fun _ e => .inl e)⟩)
        have HKZ : Hid (Bk (((Z.setCell ⟨b, k * 3, none⟩ (.int .i64 1)).setCell ⟨b, k * 3 + 1, none⟩ (.int .i64 o.a)).setCell ⟨b, k * 3 + 2, none⟩ (.int .i64 rv)) p #[.int .i64 o.k, .int .i64 o.a, .int .i64 o.v] 84) := hide (by
          rw [hZ]
          have K9 : Bk w5.drew p #[.int .i64 o.k, .int .i64 o.a, .int .i64 o.v] 84 := HKP5.out
          exact ((K9.far (p := ⟨b, k * 3, none⟩) hpb _).far (p := ⟨b, k * 3 + 1, none⟩) hpb _).far (p := ⟨b, k * 3 + 2, none⟩) hpb _)
        have HRV := hide hrv
        clear p0 p1 p2 g1 hrv
        refine wp_region_F 16 (fun w' => w'.cell? ⟨p, 1, none⟩ = some (Value.int .i64 o.a) ∧ w'.cell? ⟨g, 1, none⟩ = some (Value.slice AM5 (others i0 k o.a false (⟨setL m.cs i0 k lnZ, m.mem⟩)).mem.length cM5)) (fun w' => True) (by kernel_rfl) ⟨⟨by rw [← hZ]; exact a1, by rw [← hZ]; exact a2⟩, trivial⟩ (fun hHeld => ?_)
        try simp only [Act.put, List.setIfInBounds_toArray, List.set_cons_zero, List.set_cons_succ]
        rw [← hZ] at hHeld ⊢
        clear hZ
        refine wpAnyF_take (i := 0) (v := ?_) (by (simp only [List.getElem?_toArray, List.getElem?_cons_zero]; rfl)) (by kernel_rfl) (by kernel_rfl) (by kernel_rfl) (by decide) (by exact fun _ _ _ h => h) ⟨hHeld.1, .inr hHeld.2⟩ (Or.inl ⟨by rfl, ?_⟩) ?_
        rotate_left
        · (intro w' _; go_simp <;> with_reducible rfl)
        try simp only [Act.put, List.setIfInBounds_toArray, List.set_cons_zero, List.set_cons_succ]
        refine wpAnyF_take (i := 1) (v := ?_) (by (simp only [List.getElem?_toArray, List.getElem?_cons_succ, List.getElem?_cons_zero]; rfl)) (by kernel_rfl) (by kernel_rfl) (by kernel_rfl) (by decide) (by exact fun _ _ _ h => h) ⟨hHeld.1, .inr hHeld.2⟩ (Or.inl ⟨by rfl, ?_⟩) ?_
        rotate_left
        · (intro w' _; go_simp <;> with_reducible rfl)
        try simp only [Act.put, List.setIfInBounds_toArray, List.set_cons_zero, List.set_cons_succ]
        refine wpAnyF_take (i := 2) (v := ?_) (by (simp only [List.getElem?_toArray, List.getElem?_cons_succ, List.getElem?_cons_zero]; rfl)) (by kernel_rfl) (by kernel_rfl) (by kernel_rfl) (by decide) (by exact fun _ _ _ h => h) ⟨hHeld.1, .inr hHeld.2⟩ (Or.inl ⟨by rfl, ?_⟩) ?_
        rotate_left
        · (intro w' _; go_simp <;> with_reducible rfl)
        try simp only [Act.put, List.setIfInBounds_toArray, List.set_cons_zero, List.set_cons_succ]
        refine wpAnyF_take (i := 3) (v := ?_) (by (simp only [List.getElem?_toArray, List.getElem?_cons_succ, List.getElem?_cons_zero]; rfl)) (by kernel_rfl) (by kernel_rfl) (by kernel_rfl) (by decide) (by exact fun _ _ _ h => h) ⟨hHeld.1, .inr hHeld.2⟩ (Or.inl ⟨by rfl, ?_⟩) ?_
        rotate_left
        · (intro w' _; go_simp <;> with_reducible rfl)
        try simp only [Act.put, List.setIfInBounds_toArray, List.set_cons_zero, List.set_cons_succ]
        refine wpAnyF_keep (i := 4) (v := ?_) (by (simp only [List.getElem?_toArray, List.getElem?_cons_succ, List.getElem?_cons_zero]; rfl)) (by kernel_rfl) (by kernel_rfl) (by kernel_rfl) (by decide) (by exact fun _ _ _ h => h) ⟨hHeld.1, .inr hHeld.2⟩ (Or.inl ⟨by rfl, ?_⟩) ?_
        rotate_left
        · (intro w' hSw; (try dsimp only at hSw); obtain ⟨hSa0, hSa1⟩ := hSw; go_simp <;> with_reducible rfl)
        try simp only [Act.put, List.setIfInBounds_toArray, List.set_cons_zero, List.set_cons_succ]
        refine wpAnyF_take (i := 5) (v := ?_) (by (simp only [List.getElem?_toArray, List.getElem?_cons_succ, List.getElem?_cons_zero]; rfl)) (by kernel_rfl) (by kernel_rfl) (by kernel_rfl) (by decide) (by exact fun _ _ _ h => h) ⟨hHeld.1, .inr hHeld.2⟩ (Or.inl ⟨by rfl, ?_⟩) ?_
        rotate_left
        · (intro w' _; go_simp <;> with_reducible rfl)
        try simp only [Act.put, List.setIfInBounds_toArray, List.set_cons_zero, List.set_cons_succ]
        refine wpAnyF_take (i := 6) (v := ?_) (by (simp only [List.getElem?_toArray, List.getElem?_cons_succ, List.getElem?_cons_zero]; rfl)) (by kernel_rfl) (by kernel_rfl) (by kernel_rfl) (by decide) (by exact fun _ _ _ h => h) ⟨hHeld.1, .inr hHeld.2⟩ (Or.inl ⟨by rfl, ?_⟩) ?_
        rotate_left
        · (intro w' _; go_simp <;> with_reducible rfl)
        try simp only [Act.put, List.setIfInBounds_toArray, List.set_cons_zero, List.set_cons_succ]
        refine wpAnyF_take (i := 7) (v := ?_) (by (simp only [List.getElem?_toArray, List.getElem?_cons_succ, List.getElem?_cons_zero]; rfl)) (by kernel_rfl) (by kernel_rfl) (by kernel_rfl) (by decide) (by exact fun _ _ _ h => h) ⟨hHeld.1, .inr hHeld.2⟩ (Or.inl ⟨by rfl, ?_⟩) ?_
        rotate_left
        · (intro w' _; go_simp <;> with_reducible rfl)
        try simp only [Act.put, List.setIfInBounds_toArray, List.set_cons_zero, List.set_cons_succ]
        refine wpAnyF_keep (i := 8) (v := ?_) (by (simp only [List.getElem?_toArray, List.getElem?_cons_succ, List.getElem?_cons_zero]; rfl)) (by kernel_rfl) (by kernel_rfl) (by kernel_rfl) (by decide) (by exact fun _ _ _ h => h) ⟨hHeld.1, .inr hHeld.2⟩ (Or.inl ⟨by rfl, ?_⟩) ?_
        rotate_left
        · (intro w' hSw; (try dsimp only at hSw); obtain ⟨hSa0, hSa1⟩ := hSw; go_simp <;> with_reducible rfl)
        try simp only [Act.put, List.setIfInBounds_toArray, List.set_cons_zero, List.set_cons_succ]
        refine wpAnyF_take (i := 9) (v := ?_) (by (simp only [List.getElem?_toArray, List.getElem?_cons_succ, List.getElem?_cons_zero]; rfl)) (by kernel_rfl) (by kernel_rfl) (by kernel_rfl) (by decide) (by exact fun _ _ _ h => h) ⟨hHeld.1, .inr hHeld.2⟩ (Or.inl ⟨by rfl, ?_⟩) ?_
        rotate_left
        · (intro w' _; go_simp <;> with_reducible rfl)
        try simp only [Act.put, List.setIfInBounds_toArray, List.set_cons_zero, List.set_cons_succ]
        refine wpAnyF_take (i := 10) (v := ?_) (by (simp only [List.getElem?_toArray, List.getElem?_cons_succ, List.getElem?_cons_zero]; rfl)) (by kernel_rfl) (by kernel_rfl) (by kernel_rfl) (by decide) (by exact fun _ _ _ h => h) ⟨hHeld.1, .inr hHeld.2⟩ (Or.inl ⟨by rfl, ?_⟩) ?_
        rotate_left
        · (intro w' _; go_simp <;> with_reducible rfl)
        try simp only [Act.put, List.setIfInBounds_toArray, List.set_cons_zero, List.set_cons_succ]
        refine wpAnyF_take (i := 11) (v := ?_) (by (simp only [List.getElem?_toArray, List.getElem?_cons_succ, List.getElem?_cons_zero]; rfl)) (by kernel_rfl) (by kernel_rfl) (by kernel_rfl) (by decide) (by exact fun _ _ _ h => h) ⟨hHeld.1, .inr hHeld.2⟩ (Or.inl ⟨by rfl, ?_⟩) ?_
        rotate_left
        · (intro w' _; go_simp <;> with_reducible rfl)
        try simp only [Act.put, List.setIfInBounds_toArray, List.set_cons_zero, List.set_cons_succ]
        refine wpAnyF_keep (i := 12) (v := ?_) (by (simp only [List.getElem?_toArray, List.getElem?_cons_succ, List.getElem?_cons_zero]; rfl)) (by kernel_rfl) (by kernel_rfl) (by kernel_rfl) (by decide) (by exact fun _ _ _ h => h) ⟨hHeld.1, .inr hHeld.2⟩ (Or.inl ⟨by rfl, ?_⟩) ?_
        rotate_left
        · (intro w' hSw; (try dsimp only at hSw); obtain ⟨hSa0, hSa1⟩ := hSw; go_simp <;> with_reducible rfl)
        try simp only [Act.put, List.setIfInBounds_toArray, List.set_cons_zero, List.set_cons_succ]
        refine wpAnyF_ready (rs := [13]) (by kernel_rfl) (by simp) ?_
        refine AllReadyF.cons (by (simp only [List.getElem?_toArray, List.getElem?_cons_succ, List.getElem?_cons_zero]; rfl)) (fun K hK => ?_) AllReadyF.nil
        go_simp
        go_at_call 64
        refine HRD.out.mono ?_
        rintro e wz ⟨rfl, rfl⟩
        refine hK.out _ _ ⟨⟨a1, a2⟩, trivial⟩ (fun hNew => ?_)
        clear hK K hHeld
        have hHeld := hNew
        clear hNew
        try simp only [Act.put, List.setIfInBounds_toArray, List.set_cons_zero, List.set_cons_succ]
        refine wpAnyF_take (i := 14) (v := ?_) (by (simp only [List.getElem?_toArray, List.getElem?_cons_succ, List.getElem?_cons_zero]; rfl)) (by kernel_rfl) (by kernel_rfl) (by kernel_rfl) (by decide) (by exact fun _ _ _ h => h) ⟨hHeld.1, .inr hHeld.2⟩ (Or.inl ⟨by rfl, ?_⟩) ?_
        rotate_left
        · (intro w' _; go_simp <;> with_reducible rfl)
        try simp only [Act.put, List.setIfInBounds_toArray, List.set_cons_zero, List.set_cons_succ]
        refine wpAnyF_take (i := 15) (v := ?_) (by (simp only [List.getElem?_toArray, List.getElem?_cons_succ, List.getElem?_cons_zero]; rfl)) (by kernel_rfl) (by kernel_rfl) (by kernel_rfl) (by decide) (by exact fun _ _ _ h => h) ⟨hHeld.1, .inr hHeld.2⟩ (Or.inl ⟨by rfl, ?_⟩) ?_
        rotate_left
        · (intro w' _; go_simp <;> with_reducible rfl)
        try simp only [Act.put, List.setIfInBounds_toArray, List.set_cons_zero, List.set_cons_succ]
        refine wpAnyF_ready (rs := [16]) (by kernel_rfl) (by simp) ?_
        refine AllReadyF.last (by (simp only [List.getElem?_toArray, List.getElem?_cons_succ, List.getElem?_cons_zero]; rfl)) (by kernel_rfl) (fun K hK => ?_) AllReadyF.nil
        go_simp
        refine hK.out _ _ ⟨(HKZ.out.cell 1).trans rfl, (HPT.out.1.box.cell 1).trans rfl⟩ ?_
        clear hK K
        try simp only [Act.put, List.setIfInBounds_toArray, List.set_cons_zero, List.set_cons_succ]
        refine wpAnyF_done (by kernel_rfl) ?_ _
        obtain ⟨y0, y1, y2, _⟩ := HPT.out.1.line (HG5.out.shp.set_ hi0 _) hi0 hk hu
        have y2' := y2
        rw [HG5.out.shp.ln_set hi0 hk, if_pos ⟨rfl, rfl⟩] at y2'
        clear y0 y1 y2
        go_wp2
        go_ret
        have er := HR.out
        rw [do_L0 HK.out HF.out (by omega) HKX.out] at er
        simp only [Prod.mk.injEq] at er
        rw [← HRV.out] at er
        obtain ⟨rfl, rfl⟩ := er
        first | exact ⟨rfl, _, HPT.out.1, HPT.out.2⟩ | exact ⟨rfl, ⟨_, HPT.out.1⟩, HPT.out.2⟩
      · have hos : (o.k == 1) = true := by rw [hs]; rfl
        obtain ⟨z0, z1, z2, _⟩ := HM6.out.line HG1.out.shp hi0 hk hu
        rw [HKX.out] at z0
        have OT := hide (l7Others_any (cr := i0) true HM6.out HG1.out hk ha HP.out (by omega) HLN.out)
        have p0 := (HK6.out.cell 0).trans (rfl : _ = some (Value.int .i64 o.k))
        have p1 := (HK6.out.cell 1).trans (rfl : _ = some (Value.int .i64 o.a))
        have p2 := (HK6.out.cell 2).trans (rfl : _ = some (Value.int .i64 o.v))
        go_wp2_with fail
        refine OT.out.mono ?_
        rintro e w5 ⟨rfl, v5, M5, B5⟩
        obtain ⟨AM5, cM5, rfl⟩ := M5.shape
        have HOK := hide (others_ok (c := i0) HG1.out hk o.a true)
        have HG5 := hide HOK.out.1.good
        have HL5 := hide (show (others i0 k o.a true ⟨setL m.cs i0 k lnZ, m.mem⟩).mem.length ≤ 41 from Nat.le_trans HOK.out.2.2.2 (Nat.succ_le_succ HLN.out))
        have HKP5 := hide (B5.bk HK6.out HPS.out)
        have HB5 := hide (HB6.out.trans B5 (fun _ e => .inl e))
        have HM5 := hide M5
        clear OT M5 B5 p0 p1 p2 l0 l1 l2
        clear z0 z1 z2
        obtain ⟨y0, y1, y2, yf⟩ := HM5.out.line HG5.out.shp hi0 hk hu
        have d0 := yf (k * 3)
        have d1 := yf (k * 3 + 1)
        have d2 := yf (k * 3 + 2)
        clear yf
        have p0 := (HKP5.out.cell 0).trans (rfl : _ = some (Value.int .i64 o.k))
        have p1 := (HKP5.out.cell 1).trans (rfl : _ = some (Value.int .i64 o.a))
        have p2 := (HKP5.out.cell 2).trans (rfl : _ = some (Value.int .i64 o.v))
        go_wp2_with fail
        obtain ⟨Z, hZ⟩ : ∃ Z : World, Z = w5.drew := ⟨_, rfl⟩
        have y0 : Z.cell? ⟨b, k * 3, none⟩ = some (.int .i64 (ln (others i0 k o.a true (⟨setL m.cs i0 k lnZ, m.mem⟩)).cs i0 k).k) := by rw [hZ]; exact y0
        have y1 : Z.cell? ⟨b, k * 3 + 1, none⟩ = some (.int .i64 (ln (others i0 k o.a true (⟨setL m.cs i0 k lnZ, m.mem⟩)).cs i0 k).a) := by rw [hZ]; exact y1
        have y2 : Z.cell? ⟨b, k * 3 + 2, none⟩ = some (.int .i64 (ln (others i0 k o.a true (⟨setL m.cs i0 k lnZ, m.mem⟩)).cs i0 k).v) := by rw [hZ]; exact y2
        have d0 : Z.frozen? ⟨b, k * 3, none⟩ = false := by rw [hZ]; exact d0
        have d1 : Z.frozen? ⟨b, k * 3 + 1, none⟩ = false := by rw [hZ]; exact d1
        have d2 : Z.frozen? ⟨b, k * 3 + 2, none⟩ = false := by rw [hZ]; exact d2
        have a1 : Z.cell? ⟨p, 1, none⟩ = some (.int .i64 o.a) := by rw [hZ]; exact p1
        have a2 : Z.cell? ⟨p, 2, none⟩ = some (.int .i64 o.v) := by rw [hZ]; exact p2
        have HPT : Hid (Mdl (((Z.setCell ⟨b, k * 3, none⟩ (.int .i64 2)).setCell ⟨b, k * 3 + 1, none⟩ (.int .i64 o.a)).setCell ⟨b, k * 3 + 2, none⟩ (.int .i64 o.v)) base g gv c ⟨setL (others i0 k o.a true (⟨setL m.cs i0 k lnZ, m.mem⟩)).cs i0 k ⟨2, o.a, o.v⟩, (others i0 k o.a true (⟨setL m.cs i0 k lnZ, m.mem⟩)).mem⟩ _ us ∧ But (MdlS g us) w (((Z.setCell ⟨b, k * 3, none⟩ (.int .i64 2)).setCell ⟨b, k * 3 + 1, none⟩ (.int .i64 o.a)).setCell ⟨b, k * 3 + 2, none⟩ (.int .i64 o.v))) := hide (by
          rw [hZ]
          have M9 := HM5.out.below (Below.refl w5.heap.size w5).drew
          have P9 := M9.put HG5.out.shp hi0 hk hu ⟨2, o.a, o.v⟩
          exact ⟨P9.1, (HB5.out.trans (S' := fun _ => False) (But.of_below (Below.refl w5.heap.size w5).drew) (fun _ e => e.elim)).trans P9.2 (fun _ e => .inl e)⟩)
        have HKZ : Hid (Bk (((Z.setCell ⟨b, k * 3, none⟩ (.int .i64 2)).setCell ⟨b, k * 3 + 1, none⟩ (.int .i64 o.a)).setCell ⟨b, k * 3 + 2, none⟩ (.int .i64 o.v)) p #[.int .i64 o.k, .int .i64 o.a, .int .i64 o.v] 84) := hide (by
          rw [hZ]
          have K9 : Bk w5.drew p #[.int .i64 o.k, .int .i64 o.a, .int .i64 o.v] 84 := HKP5.out
          exact ((K9.far (p := ⟨b, k * 3, none⟩) hpb _).far (p := ⟨b, k * 3 + 1, none⟩) hpb _).far (p := ⟨b, k * 3 + 2, none⟩) hpb _)
        clear p0 p1 p2
        refine wp_region_F 99 (fun w' => w'.cell? ⟨p, 1, none⟩ = some (Value.int .i64 o.a) ∧ w'.cell? ⟨p, 2, none⟩ = some (Value.int .i64 o.v)) (fun w' => True) (by kernel_rfl) ⟨⟨by rw [← hZ]; exact a1, by rw [← hZ]; exact a2⟩, trivial⟩ (fun hHeld => ?_)
        try simp only [Act.put, List.setIfInBounds_toArray, List.set_cons_zero, List.set_cons_succ]
        rw [← hZ] at hHeld ⊢
        clear hZ
        refine wpAnyF_take (i := 0) (v := ?_) (by (simp only [List.getElem?_toArray, List.getElem?_cons_zero]; rfl)) (by kernel_rfl) (by kernel_rfl) (by kernel_rfl) (by decide) (by exact fun _ _ _ h => h) ⟨hHeld.1, .inr hHeld.2⟩ (Or.inl ⟨by rfl, ?_⟩) ?_
        rotate_left
        · (intro w' _; go_simp <;> with_reducible rfl)
        try simp only [Act.put, List.setIfInBounds_toArray, List.set_cons_zero, List.set_cons_succ]
        refine wpAnyF_take (i := 1) (v := ?_) (by (simp only [List.getElem?_toArray, List.getElem?_cons_succ, List.getElem?_cons_zero]; rfl)) (by kernel_rfl) (by kernel_rfl) (by kernel_rfl) (by decide) (by exact fun _ _ _ h => h) ⟨hHeld.1, .inr hHeld.2⟩ (Or.inl ⟨by rfl, ?_⟩) ?_
        rotate_left
        · (intro w' _; go_simp <;> with_reducible rfl)
        try simp only [Act.put, List.setIfInBounds_toArray, List.set_cons_zero, List.set_cons_succ]
        refine wpAnyF_take (i := 2) (v := ?_) (by (simp only [List.getElem?_toArray, List.getElem?_cons_succ, List.getElem?_cons_zero]; rfl)) (by kernel_rfl) (by kernel_rfl) (by kernel_rfl) (by decide) (by exact fun _ _ _ h => h) ⟨hHeld.1, .inr hHeld.2⟩ (Or.inl ⟨by rfl, ?_⟩) ?_
        rotate_left
        · (intro w' _; go_simp <;> with_reducible rfl)
        try simp only [Act.put, List.setIfInBounds_toArray, List.set_cons_zero, List.set_cons_succ]
        refine wpAnyF_take (i := 3) (v := ?_) (by (simp only [List.getElem?_toArray, List.getElem?_cons_succ, List.getElem?_cons_zero]; rfl)) (by kernel_rfl) (by kernel_rfl) (by kernel_rfl) (by decide) (by exact fun _ _ _ h => h) ⟨hHeld.1, .inr hHeld.2⟩ (Or.inl ⟨by rfl, ?_⟩) ?_
        rotate_left
        · (intro w' _; go_simp <;> with_reducible rfl)
        try simp only [Act.put, List.setIfInBounds_toArray, List.set_cons_zero, List.set_cons_succ]
        refine wpAnyF_keep (i := 4) (v := ?_) (by (simp only [List.getElem?_toArray, List.getElem?_cons_succ, List.getElem?_cons_zero]; rfl)) (by kernel_rfl) (by kernel_rfl) (by kernel_rfl) (by decide) (by exact fun _ _ _ h => h) ⟨hHeld.1, .inr hHeld.2⟩ (Or.inl ⟨by rfl, ?_⟩) ?_
        rotate_left
        · (intro w' hSw; (try dsimp only at hSw); obtain ⟨hSa0, hSa1⟩ := hSw; go_simp <;> with_reducible rfl)
        try simp only [Act.put, List.setIfInBounds_toArray, List.set_cons_zero, List.set_cons_succ]
        refine wpAnyF_take (i := 5) (v := ?_) (by (simp only [List.getElem?_toArray, List.getElem?_cons_succ, List.getElem?_cons_zero]; rfl)) (by kernel_rfl) (by kernel_rfl) (by kernel_rfl) (by decide) (by exact fun _ _ _ h => h) ⟨hHeld.1, .inr hHeld.2⟩ (Or.inl ⟨by rfl, ?_⟩) ?_
        rotate_left
        · (intro w' _; go_simp <;> with_reducible rfl)
        try simp only [Act.put, List.setIfInBounds_toArray, List.set_cons_zero, List.set_cons_succ]
        refine wpAnyF_take (i := 6) (v := ?_) (by (simp only [List.getElem?_toArray, List.getElem?_cons_succ, List.getElem?_cons_zero]; rfl)) (by kernel_rfl) (by kernel_rfl) (by kernel_rfl) (by decide) (by exact fun _ _ _ h => h) ⟨hHeld.1, .inr hHeld.2⟩ (Or.inl ⟨by rfl, ?_⟩) ?_
        rotate_left
        · (intro w' _; go_simp <;> with_reducible rfl)
        try simp only [Act.put, List.setIfInBounds_toArray, List.set_cons_zero, List.set_cons_succ]
        refine wpAnyF_take (i := 7) (v := ?_) (by (simp only [List.getElem?_toArray, List.getElem?_cons_succ, List.getElem?_cons_zero]; rfl)) (by kernel_rfl) (by kernel_rfl) (by kernel_rfl) (by decide) (by exact fun _ _ _ h => h) ⟨hHeld.1, .inr hHeld.2⟩ (Or.inl ⟨by rfl, ?_⟩) ?_
        rotate_left
        · (intro w' _; go_simp <;> with_reducible rfl)
        try simp only [Act.put, List.setIfInBounds_toArray, List.set_cons_zero, List.set_cons_succ]
        refine wpAnyF_keep (i := 8) (v := ?_) (by (simp only [List.getElem?_toArray, List.getElem?_cons_succ, List.getElem?_cons_zero]; rfl)) (by kernel_rfl) (by kernel_rfl) (by kernel_rfl) (by decide) (by exact fun _ _ _ h => h) ⟨hHeld.1, .inr hHeld.2⟩ (Or.inl ⟨by rfl, ?_⟩) ?_
        rotate_left
        · (intro w' hSw; (try dsimp only at hSw); obtain ⟨hSa0, hSa1⟩ := hSw; go_simp <;> with_reducible rfl)
        try simp only [Act.put, List.setIfInBounds_toArray, List.set_cons_zero, List.set_cons_succ]
        refine wpAnyF_take (i := 9) (v := ?_) (by (simp only [List.getElem?_toArray, List.getElem?_cons_succ, List.getElem?_cons_zero]; rfl)) (by kernel_rfl) (by kernel_rfl) (by kernel_rfl) (by decide) (by exact fun _ _ _ h => h) ⟨hHeld.1, .inr hHeld.2⟩ (Or.inl ⟨by rfl, ?_⟩) ?_
        rotate_left
        · (intro w' _; go_simp <;> with_reducible rfl)
        try simp only [Act.put, List.setIfInBounds_toArray, List.set_cons_zero, List.set_cons_succ]
        refine wpAnyF_take (i := 10) (v := ?_) (by (simp only [List.getElem?_toArray, List.getElem?_cons_succ, List.getElem?_cons_zero]; rfl)) (by kernel_rfl) (by kernel_rfl) (by kernel_rfl) (by decide) (by exact fun _ _ _ h => h) ⟨hHeld.1, .inr hHeld.2⟩ (Or.inl ⟨by rfl, ?_⟩) ?_
        rotate_left
        · (intro w' _; go_simp <;> with_reducible rfl)
        try simp only [Act.put, List.setIfInBounds_toArray, List.set_cons_zero, List.set_cons_succ]
        refine wpAnyF_ready (rs := [11]) (by kernel_rfl) (by simp) ?_
        refine AllReadyF.cons (by (simp only [List.getElem?_toArray, List.getElem?_cons_succ, List.getElem?_cons_zero]; rfl)) (fun K hK => ?_) AllReadyF.nil
        go_simp
        refine hK.out _ _ ⟨⟨(HKZ.out.cell 1).trans rfl, (HKZ.out.cell 2).trans rfl⟩, trivial⟩ (fun hNew => ?_)
        clear hK K hHeld
        have hHeld := hNew
        clear hNew
        try simp only [Act.put, List.setIfInBounds_toArray, List.set_cons_zero, List.set_cons_succ]
        refine wpAnyF_done (by kernel_rfl) ?_ _
        have p2 := (HKZ.out.cell 2).trans (rfl : _ = some (Value.int .i64 o.v))
        go_wp2
        go_ret
        have er := HR.out
        rw [do_S HK.out HF.out hs (by rw [HKX.out]; decide)] at er
        simp only [Prod.mk.injEq] at er
        obtain ⟨rfl, rfl⟩ := er
        first | exact ⟨rfl, _, HPT.out.1, HPT.out.2⟩ | exact ⟨rfl, ⟨_, HPT.out.1⟩, HPT.out.2⟩
  · rw [h0] at l0
    by_cases hxa : X.a = o.a
    · have HKX := hide (show (ln m.cs i0 k).k = 2 by rw [← HX.out]; exact h0)
      have HLN := hide (show m.mem.length ≤ 40 by have := HHM.out; omega)
      have hxb : (X.a != o.a) = false := by rw [hxa]; simp
      go_wp2_with fail
      go_quiet (fail)
      obtain ⟨V2, hV2⟩ : ∃ V2 : World, V2 = V.drewN nq := ⟨_, rfl⟩
      have HK2 : Hid (Bk V2 p #[.int .i64 o.k, .int .i64 o.a, .int .i64 o.v] 84) := hide (by rw [hV2]; exact HKV.out)
      have HM2 : Hid (Mdl V2 base g gv c m (.slice AM m.mem.length cM) us) := hide (by rw [hV2]; exact HMV.out.below (below_drewN (Below.refl V.heap.size V) _))
      have HB2 : Hid (But (MdlS g us) w V2) := hide (by rw [hV2]; exact HBV.out.trans (S' := fun _ => False) (But.of_below (below_drewN (Below.refl V.heap.size V) _)) (fun _ e => e.elim))
      have l0 : V2.cell? ⟨b, k * 3, none⟩ = some _ := (by rw [hV2]; exact l0)
      have l1 : V2.cell? ⟨b, k * 3 + 1, none⟩ = some _ := (by rw [hV2]; exact l1)
      have l2 : V2.cell? ⟨b, k * 3 + 2, none⟩ = some _ := (by rw [hV2]; exact l2)
      rw [← hV2]
      clear hV2 p0 p1 p2
      rcases hkd0 with ⟨hs, hs2⟩ | hs
      · have p0' := (HK2.out.cell 0).trans (rfl : _ = some (Value.int .i64 o.k))
        rw [hs] at p0'
        have hos : (o.k == 1) = false := by rw [hs]; rfl
        have p0 := (HK2.out.cell 0).trans (rfl : _ = some (Value.int .i64 o.k))
        have p1 := (HK2.out.cell 1).trans (rfl : _ = some (Value.int .i64 o.a))
        have p2 := (HK2.out.cell 2).trans (rfl : _ = some (Value.int .i64 o.v))
        clear l0 l1 l2
        obtain ⟨z0, z1, z2, _⟩ := HM2.out.line HG.out.shp hi0 hk hu
        rw [HKX.out] at z0
        go_wp2
        go_ret
        have er := HR.out
        rw [do_L HK.out (free_keep (fun hh => hh.2 (by rw [← HX.out]; exact hxa))) (by omega) (by rw [HKX.out]; decide)] at er
        simp only [Prod.mk.injEq] at er
        obtain ⟨rfl, rfl⟩ := er
        exact ⟨rfl, _, HM2.out, HB2.out⟩
      · have hos : (o.k == 1) = true := by rw [hs]; rfl
        obtain ⟨z0, z1, z2, _⟩ := HM2.out.line HG.out.shp hi0 hk hu
        rw [HKX.out] at z0
        obtain ⟨y0, y1, y2, yf⟩ := HM2.out.line HG.out.shp hi0 hk hu
        have d0 := yf (k * 3)
        have d1 := yf (k * 3 + 1)
        have d2 := yf (k * 3 + 2)
        clear yf
        have p0 := (HK2.out.cell 0).trans (rfl : _ = some (Value.int .i64 o.k))
        have p1 := (HK2.out.cell 1).trans (rfl : _ = some (Value.int .i64 o.a))
        have p2 := (HK2.out.cell 2).trans (rfl : _ = some (Value.int .i64 o.v))
        go_wp2_with fail
        obtain ⟨Z, hZ⟩ : ∃ Z : World, Z = V2.drew := ⟨_, rfl⟩
        have y0 : Z.cell? ⟨b, k * 3, none⟩ = some (.int .i64 (ln (m).cs i0 k).k) := by rw [hZ]; exact y0
        have y1 : Z.cell? ⟨b, k * 3 + 1, none⟩ = some (.int .i64 (ln (m).cs i0 k).a) := by rw [hZ]; exact y1
        have y2 : Z.cell? ⟨b, k * 3 + 2, none⟩ = some (.int .i64 (ln (m).cs i0 k).v) := by rw [hZ]; exact y2
        have d0 : Z.frozen? ⟨b, k * 3, none⟩ = false := by rw [hZ]; exact d0
        have d1 : Z.frozen? ⟨b, k * 3 + 1, none⟩ = false := by rw [hZ]; exact d1
        have d2 : Z.frozen? ⟨b, k * 3 + 2, none⟩ = false := by rw [hZ]; exact d2
        have a1 : Z.cell? ⟨p, 1, none⟩ = some (.int .i64 o.a) := by rw [hZ]; exact p1
        have a2 : Z.cell? ⟨p, 2, none⟩ = some (.int .i64 o.v) := by rw [hZ]; exact p2
        have HPT : Hid (Mdl (((Z.setCell ⟨b, k * 3, none⟩ (.int .i64 2)).setCell ⟨b, k * 3 + 1, none⟩ (.int .i64 o.a)).setCell ⟨b, k * 3 + 2, none⟩ (.int .i64 o.v)) base g gv c ⟨setL (m).cs i0 k ⟨2, o.a, o.v⟩, (m).mem⟩ _ us ∧ But (MdlS g us) w (((Z.setCell ⟨b, k * 3, none⟩ (.int .i64 2)).setCell ⟨b, k * 3 + 1, none⟩ (.int .i64 o.a)).setCell ⟨b, k * 3 + 2, none⟩ (.int .i64 o.v))) := hide (by
          rw [hZ]
          have M9 := HM2.out.below (Below.refl V2.heap.size V2).drew
          have P9 := M9.put HG.out.shp hi0 hk hu ⟨2, o.a, o.v⟩
          exact ⟨P9.1, (HB2.out.trans (S' := fun _ => False) (But.of_below (Below.refl V2.heap.size V2).drew) (fun _ e => e.elim)).trans P9.2 (fun _ e => .inl e)⟩)
        have HKZ : Hid (Bk (((Z.setCell ⟨b, k * 3, none⟩ (.int .i64 2)).setCell ⟨b, k * 3 + 1, none⟩ (.int .i64 o.a)).setCell ⟨b, k * 3 + 2, none⟩ (.int .i64 o.v)) p #[.int .i64 o.k, .int .i64 o.a, .int .i64 o.v] 84) := hide (by
          rw [hZ]
          have K9 : Bk V2.drew p #[.int .i64 o.k, .int .i64 o.a, .int .i64 o.v] 84 := HK2.out
          exact ((K9.far (p := ⟨b, k * 3, none⟩) hpb _).far (p := ⟨b, k * 3 + 1, none⟩) hpb _).far (p := ⟨b, k * 3 + 2, none⟩) hpb _)
        clear p0 p1 p2
        refine wp_region_F 99 (fun w' => w'.cell? ⟨p, 1, none⟩ = some (Value.int .i64 o.a) ∧ w'.cell? ⟨p, 2, none⟩ = some (Value.int .i64 o.v)) (fun w' => True) (by kernel_rfl) ⟨⟨by rw [← hZ]; exact a1, by rw [← hZ]; exact a2⟩, trivial⟩ (fun hHeld => ?_)
        try simp only [Act.put, List.setIfInBounds_toArray, List.set_cons_zero, List.set_cons_succ]
        rw [← hZ] at hHeld ⊢
        clear hZ
        refine wpAnyF_take (i := 0) (v := ?_) (by (simp only [List.getElem?_toArray, List.getElem?_cons_zero]; rfl)) (by kernel_rfl) (by kernel_rfl) (by kernel_rfl) (by decide) (by exact fun _ _ _ h => h) ⟨hHeld.1, .inr hHeld.2⟩ (Or.inl ⟨by rfl, ?_⟩) ?_
        rotate_left
        · (intro w' _; go_simp <;> with_reducible rfl)
        try simp only [Act.put, List.setIfInBounds_toArray, List.set_cons_zero, List.set_cons_succ]
        refine wpAnyF_take (i := 1) (v := ?_) (by (simp only [List.getElem?_toArray, List.getElem?_cons_succ, List.getElem?_cons_zero]; rfl)) (by kernel_rfl) (by kernel_rfl) (by kernel_rfl) (by decide) (by exact fun _ _ _ h => h) ⟨hHeld.1, .inr hHeld.2⟩ (Or.inl ⟨by rfl, ?_⟩) ?_
        rotate_left
        · (intro w' _; go_simp <;> with_reducible rfl)
        try simp only [Act.put, List.setIfInBounds_toArray, List.set_cons_zero, List.set_cons_succ]
        refine wpAnyF_take (i := 2) (v := ?_) (by (simp only [List.getElem?_toArray, List.getElem?_cons_succ, List.getElem?_cons_zero]; rfl)) (by kernel_rfl) (by kernel_rfl) (by kernel_rfl) (by decide) (by exact fun _ _ _ h => h) ⟨hHeld.1, .inr hHeld.2⟩ (Or.inl ⟨by rfl, ?_⟩) ?_
        rotate_left
        · (intro w' _; go_simp <;> with_reducible rfl)
        try simp only [Act.put, List.setIfInBounds_toArray, List.set_cons_zero, List.set_cons_succ]
        refine wpAnyF_take (i := 3) (v := ?_) (by (simp only [List.getElem?_toArray, List.getElem?_cons_succ, List.getElem?_cons_zero]; rfl)) (by kernel_rfl) (by kernel_rfl) (by kernel_rfl) (by decide) (by exact fun _ _ _ h => h) ⟨hHeld.1, .inr hHeld.2⟩ (Or.inl ⟨by rfl, ?_⟩) ?_
        rotate_left
        · (intro w' _; go_simp <;> with_reducible rfl)
        try simp only [Act.put, List.setIfInBounds_toArray, List.set_cons_zero, List.set_cons_succ]
        refine wpAnyF_keep (i := 4) (v := ?_) (by (simp only [List.getElem?_toArray, List.getElem?_cons_succ, List.getElem?_cons_zero]; rfl)) (by kernel_rfl) (by kernel_rfl) (by kernel_rfl) (by decide) (by exact fun _ _ _ h => h) ⟨hHeld.1, .inr hHeld.2⟩ (Or.inl ⟨by rfl, ?_⟩) ?_
        rotate_left
        · (intro w' hSw; (try dsimp only at hSw); obtain ⟨hSa0, hSa1⟩ := hSw; go_simp <;> with_reducible rfl)
        try simp only [Act.put, List.setIfInBounds_toArray, List.set_cons_zero, List.set_cons_succ]
        refine wpAnyF_take (i := 5) (v := ?_) (by (simp only [List.getElem?_toArray, List.getElem?_cons_succ, List.getElem?_cons_zero]; rfl)) (by kernel_rfl) (by kernel_rfl) (by kernel_rfl) (by decide) (by exact fun _ _ _ h => h) ⟨hHeld.1, .inr hHeld.2⟩ (Or.inl ⟨by rfl, ?_⟩) ?_
        rotate_left
        · (intro w' _; go_simp <;> with_reducible rfl)
        try simp only [Act.put, List.setIfInBounds_toArray, List.set_cons_zero, List.set_cons_succ]
        refine wpAnyF_take (i := 6) (v := ?_) (by (simp only [List.getElem?_toArray, List.getElem?_cons_succ, List.getElem?_cons_zero]; rfl)) (by kernel_rfl) (by kernel_rfl) (by kernel_rfl) (by decide) (by exact fun _ _ _ h => h) ⟨hHeld.1, .inr hHeld.2⟩ (Or.inl ⟨by rfl, ?_⟩) ?_
        rotate_left
        · (intro w' _; go_simp <;> with_reducible rfl)
        try simp only [Act.put, List.setIfInBounds_toArray, List.set_cons_zero, List.set_cons_succ]
        refine wpAnyF_take (i := 7) (v := ?_) (by (simp only [List.getElem?_toArray, List.getElem?_cons_succ, List.getElem?_cons_zero]; rfl)) (by kernel_rfl) (by kernel_rfl) (by kernel_rfl) (by decide) (by exact fun _ _ _ h => h) ⟨hHeld.1, .inr hHeld.2⟩ (Or.inl ⟨by rfl, ?_⟩) ?_
        rotate_left
        · (intro w' _; go_simp <;> with_reducible rfl)
        try simp only [Act.put, List.setIfInBounds_toArray, List.set_cons_zero, List.set_cons_succ]
        refine wpAnyF_keep (i := 8) (v := ?_) (by (simp only [List.getElem?_toArray, List.getElem?_cons_succ, List.getElem?_cons_zero]; rfl)) (by kernel_rfl) (by kernel_rfl) (by kernel_rfl) (by decide) (by exact fun _ _ _ h => h) ⟨hHeld.1, .inr hHeld.2⟩ (Or.inl ⟨by rfl, ?_⟩) ?_
        rotate_left
        · (intro w' hSw; (try dsimp only at hSw); obtain ⟨hSa0, hSa1⟩ := hSw; go_simp <;> with_reducible rfl)
        try simp only [Act.put, List.setIfInBounds_toArray, List.set_cons_zero, List.set_cons_succ]
        refine wpAnyF_take (i := 9) (v := ?_) (by (simp only [List.getElem?_toArray, List.getElem?_cons_succ, List.getElem?_cons_zero]; rfl)) (by kernel_rfl) (by kernel_rfl) (by kernel_rfl) (by decide) (by exact fun _ _ _ h => h) ⟨hHeld.1, .inr hHeld.2⟩ (Or.inl ⟨by rfl, ?_⟩) ?_
        rotate_left
        · (intro w' _; go_simp <;> with_reducible rfl)
        try simp only [Act.put, List.setIfInBounds_toArray, List.set_cons_zero, List.set_cons_succ]
        refine wpAnyF_take (i := 10) (v := ?_) (by (simp only [List.getElem?_toArray, List.getElem?_cons_succ, List.getElem?_cons_zero]; rfl)) (by kernel_rfl) (by kernel_rfl) (by kernel_rfl) (by decide) (by exact fun _ _ _ h => h) ⟨hHeld.1, .inr hHeld.2⟩ (Or.inl ⟨by rfl, ?_⟩) ?_
        rotate_left
        · (intro w' _; go_simp <;> with_reducible rfl)
        try simp only [Act.put, List.setIfInBounds_toArray, List.set_cons_zero, List.set_cons_succ]
        refine wpAnyF_ready (rs := [11]) (by kernel_rfl) (by simp) ?_
        refine AllReadyF.cons (by (simp only [List.getElem?_toArray, List.getElem?_cons_succ, List.getElem?_cons_zero]; rfl)) (fun K hK => ?_) AllReadyF.nil
        go_simp
        refine hK.out _ _ ⟨⟨(HKZ.out.cell 1).trans rfl, (HKZ.out.cell 2).trans rfl⟩, trivial⟩ (fun hNew => ?_)
        clear hK K hHeld
        have hHeld := hNew
        clear hNew
        try simp only [Act.put, List.setIfInBounds_toArray, List.set_cons_zero, List.set_cons_succ]
        refine wpAnyF_done (by kernel_rfl) ?_ _
        have p2 := (HKZ.out.cell 2).trans (rfl : _ = some (Value.int .i64 o.v))
        go_wp2
        go_ret
        have er := HR.out
        rw [do_S2 HK.out (free_keep (fun hh => hh.2 (by rw [← HX.out]; exact hxa))) hs HKX.out] at er
        simp only [Prod.mk.injEq] at er
        obtain ⟨rfl, rfl⟩ := er
        first | exact ⟨rfl, _, HPT.out.1, HPT.out.2⟩ | exact ⟨rfl, ⟨_, HPT.out.1⟩, HPT.out.2⟩
    · have hxb : (X.a != o.a) = true := bne_iff_ne.2 hxa
      go_wp2_with fail
      go_quiet (fail)
      obtain ⟨V2, hV2⟩ : ∃ V2 : World, V2 = V.drewN nq := ⟨_, rfl⟩
      have HK2 : Hid (Bk V2 p #[.int .i64 o.k, .int .i64 o.a, .int .i64 o.v] 84) := hide (by rw [hV2]; exact HKV.out)
      have HM2 : Hid (Mdl V2 base g gv c m (.slice AM m.mem.length cM) us) := hide (by rw [hV2]; exact HMV.out.below (below_drewN (Below.refl V.heap.size V) _))
      have HB2 : Hid (But (MdlS g us) w V2) := hide (by rw [hV2]; exact HBV.out.trans (S' := fun _ => False) (But.of_below (below_drewN (Below.refl V.heap.size V) _)) (fun _ e => e.elim))
      have l0 : V2.cell? ⟨b, k * 3, none⟩ = some _ := (by rw [hV2]; exact l0)
      have l1 : V2.cell? ⟨b, k * 3 + 1, none⟩ = some _ := (by rw [hV2]; exact l1)
      have l2 : V2.cell? ⟨b, k * 3 + 2, none⟩ = some _ := (by rw [hV2]; exact l2)
      rw [← hV2]
      clear hV2 p0 p1 p2
      have hf := free_2 (m := m) (c := i0) (k := k) (a := o.a) (by rw [← HX.out]; exact h0) (by rw [← HX.out]; exact hxa)
      rw [← HX.out] at hf
      have HF := hide hf
      have HG1 := hide HFR.out.1.good
      have hln := HFR.out.2.1
      rw [HF.out] at HG1 hln
      have HLN := hide (show (⟨setL m.cs i0 k lnZ, backM m.mem X.a X.v⟩ : Mac).mem.length ≤ 40 by have := HHM.out; omega)
      clear hf hln
      have HKX := hide (show (ln (⟨setL m.cs i0 k lnZ, backM m.mem X.a X.v⟩ : Mac).cs i0 k).k = 0 by simp only; rw [HG.out.shp.ln_set hi0 hk, if_pos ⟨rfl, rfl⟩]; rfl)
      have BK := hide (l7Back_any m.mem (.slice (some ⟨gv, 0, none⟩) m.cs.length c) 2 X.a X.v g AM cM V2 (by have := HHM.out; omega) HM2.out.box (RdC.of_own HM2.out.own.mem))
      go_wp2_with fail
      refine BK.out.mono ?_
      rintro e w3 hbp
      obtain ⟨rfl, v3, M3, B3⟩ := HM2.out.wrote hbp
      obtain ⟨AM3, cM3, rfl⟩ := M3.shape
      have HM3 := hide M3
      have HB3 := hide (HB2.out.trans B3 (fun _ e => .inl e))
      have HK3 := hide (B3.bk HK2.out HPS.out)
      clear l0 l1 l2 M3 B3 hbp BK
      obtain ⟨y0, y1, y2, yf⟩ := HM3.out.line HG.out.shp hi0 hk hu
      have d0 := yf (k * 3)
      have d1 := yf (k * 3 + 1)
      have d2 := yf (k * 3 + 2)
      obtain ⟨M4, B4⟩ := HM3.out.put HG.out.shp hi0 hk hu lnZ
      have K4 := ((HK3.out.far (p := ⟨b, k * 3, none⟩) hpb (.int .i64 lnZ.k)).far (p := ⟨b, k * 3 + 1, none⟩) hpb (.int .i64 lnZ.a)).far (p := ⟨b, k * 3 + 2, none⟩) hpb (.int .i64 lnZ.v)
      have HPU := hide (And.intro M4 (And.intro (HB3.out.trans B4 (fun _ e => .inl e)) K4))
      clear M4 B4 K4 yf
      go_upto_region 6 with fail
      obtain ⟨V6, hV6⟩ : ∃ V6 : World, V6 = ((w3.setCell ⟨b, k * 3, none⟩ (.int .i64 lnZ.k)).setCell ⟨b, k * 3 + 1, none⟩ (.int .i64 lnZ.a)).setCell ⟨b, k * 3 + 2, none⟩ (.int .i64 lnZ.v) := ⟨_, rfl⟩
      have HM6 : Hid (Mdl V6 base g gv c ⟨setL m.cs i0 k lnZ, backM m.mem X.a X.v⟩ (.slice AM3 (backM m.mem X.a X.v).length cM3) us) := hide (by rw [hV6]; exact HPU.out.1)
      have HB6 : Hid (But (MdlS g us) w V6) := hide (by rw [hV6]; exact HPU.out.2.1)
      have HK6 : Hid (Bk V6 p #[.int .i64 o.k, .int .i64 o.a, .int .i64 o.v] 84) := hide (by rw [hV6]; exact HPU.out.2.2)
      obtain ⟨l0, l1, l2, _⟩ := HM6.out.line HG1.out.shp hi0 hk hu
      rw [HKX.out] at l0
      simp only [lnZ] at hV6
      rw [← hV6]
      clear hV6 d0 d1 d2 y1 y2 y0
      rcases hkd0 with ⟨hs, hs2⟩ | hs
      · have p0' := (HK6.out.cell 0).trans (rfl : _ = some (Value.int .i64 o.k))
        rw [hs] at p0'
        have hos : (o.k == 1) = false := by rw [hs]; rfl
        have OT := hide (l7Others_any (cr := i0) false HM6.out HG1.out hk ha HP.out (by omega) HLN.out)
        have p0 := (HK6.out.cell 0).trans (rfl : _ = some (Value.int .i64 o.k))
        have p1 := (HK6.out.cell 1).trans (rfl : _ = some (Value.int .i64 o.a))
        have p2 := (HK6.out.cell 2).trans (rfl : _ = some (Value.int .i64 o.v))
        go_wp2_with fail
        refine OT.out.mono ?_
        rintro e w5 ⟨rfl, v5, M5, B5⟩
        obtain ⟨AM5, cM5, rfl⟩ := M5.shape
        have HOK := hide (others_ok (c := i0) HG1.out hk o.a false)
        have HG5 := hide HOK.out.1.good
        have HL5 := hide (show (others i0 k o.a false ⟨setL m.cs i0 k lnZ, backM m.mem X.a X.v⟩).mem.length ≤ 41 from Nat.le_trans HOK.out.2.2.2 (Nat.succ_le_succ HLN.out))
        have HKP5 := hide (B5.bk HK6.out HPS.out)
        have HB5 := hide (HB6.out.trans B5 (fun _ e => .inl e))
        have HM5 := hide M5
        clear OT M5 B5 p0 p1 p2 l0 l1 l2
        obtain ⟨y0, y1, y2, yf⟩ := HM5.out.line HG5.out.shp hi0 hk hu
        have d0 := yf (k * 3)
        have d1 := yf (k * 3 + 1)
        have d2 := yf (k * 3 + 2)
        clear yf
        have p0 := (HKP5.out.cell 0).trans (rfl : _ = some (Value.int .i64 o.k))
        have p1 := (HKP5.out.cell 1).trans (rfl : _ = some (Value.int .i64 o.a))
        have p2 := (HKP5.out.cell 2).trans (rfl : _ = some (Value.int .i64 o.v))
        have g1 := (HM5.out.box.cell 1).trans (rfl : _ = some (Value.slice AM5 (others i0 k o.a false (⟨setL m.cs i0 k lnZ, backM m.mem X.a X.v⟩)).mem.length cM5))
        go_wp2_with fail
        obtain ⟨Z, hZ⟩ : ∃ Z : World, Z = w5.drew := ⟨_, rfl⟩
        have y0 : Z.cell? ⟨b, k * 3, none⟩ = some (.int .i64 (ln (others i0 k o.a false (⟨setL m.cs i0 k lnZ, backM m.mem X.a X.v⟩)).cs i0 k).k) := by rw [hZ]; exact y0
        have y1 : Z.cell? ⟨b, k * 3 + 1, none⟩ = some (.int .i64 (ln (others i0 k o.a false (⟨setL m.cs i0 k lnZ, backM m.mem X.a X.v⟩)).cs i0 k).a) := by rw [hZ]; exact y1
        have y2 : Z.cell? ⟨b, k * 3 + 2, none⟩ = some (.int .i64 (ln (others i0 k o.a false (⟨setL m.cs i0 k lnZ, backM m.mem X.a X.v⟩)).cs i0 k).v) := by rw [hZ]; exact y2
        have d0 : Z.frozen? ⟨b, k * 3, none⟩ = false := by rw [hZ]; exact d0
        have d1 : Z.frozen? ⟨b, k * 3 + 1, none⟩ = false := by rw [hZ]; exact d1
        have d2 : Z.frozen? ⟨b, k * 3 + 2, none⟩ = false := by rw [hZ]; exact d2
        have a1 : Z.cell? ⟨p, 1, none⟩ = some (.int .i64 o.a) := by rw [hZ]; exact p1
        have a2 : Z.cell? ⟨g, 1, none⟩ = some (.slice AM5 (others i0 k o.a false (⟨setL m.cs i0 k lnZ, backM m.mem X.a X.v⟩)).mem.length cM5) := by rw [hZ]; exact g1
        obtain ⟨rv, hrv⟩ : ∃ rv, rv = readM (others i0 k o.a false (⟨setL m.cs i0 k lnZ, backM m.mem X.a X.v⟩)).mem o.a := ⟨_, rfl⟩
        have HRD : Hid (Calls Tryz.prog 64 #[.slice AM5 (others i0 k o.a false (⟨setL m.cs i0 k lnZ, backM m.mem X.a X.v⟩)).mem.length cM5, .int .i64 o.a] Z fun e w' => e = .returned (.int .i64 rv) ∧ Z = w') := hide (by
          rw [hZ, hrv]
          exact l7Read_any _ AM5 cM5 o.a _ (by have := HL5.out; unfold maxLen; omega) (RdC.of_own (HM5.out.below (Below.refl w5.heap.size w5).drew).own.mem))
        have HPT : Hid (Mdl (((Z.setCell ⟨b, k * 3, none⟩ (.int .i64 1)).setCell ⟨b, k * 3 + 1, none⟩ (.int .i64 o.a)).setCell ⟨b, k * 3 + 2, none⟩ (.int .i64 rv)) base g gv c ⟨setL (others i0 k o.a false (⟨setL m.cs i0 k lnZ, backM m.mem X.a X.v⟩)).cs i0 k ⟨1, o.a, rv⟩, (others i0 k o.a false (⟨setL m.cs i0 k lnZ, backM m.mem X.a X.v⟩)).mem⟩ _ us ∧ But (MdlS g us) w (((Z.setCell ⟨b, k * 3, none⟩ (.int .i64 1)).setCell ⟨b, k * 3 + 1, none⟩ (.int .i64 o.a)).setCell ⟨b, k * 3 + 2, none⟩ (.int .i64 rv))) := hide (by
          rw [hZ]
          have M9 := HM5.out.below (Below.refl w5.heap.size w5).drew
          have P9 := M9.put HG5.out.shp hi0 hk hu ⟨1, o.a, rv⟩
          exact ⟨P9.1, (HB5.out.trans (S' := fun _ => False) (But.of_below (Below.refl w5.heap.size w5).drew) (fun _ e => e.elim)).trans P9.2 (fun _ e => .inl e)⟩)
        have HKZ : Hid (Bk (((Z.setCell ⟨b, k * 3, none⟩ (.int .i64 1)).setCell ⟨b, k * 3 + 1, none⟩ (.int .i64 o.a)).setCell ⟨b, k * 3 + 2, none⟩ (.int .i64 rv)) p #[.int .i64 o.k, .int .i64 o.a, .int .i64 o.v] 84) := hide (by
          rw [hZ]
          have K9 : Bk w5.drew p #[.int .i64 o.k, .int .i64 o.a, .int .i64 o.v] 84 := HKP5.out
          exact ((K9.far (p := ⟨b, k * 3, none⟩) hpb _).far (p := ⟨b, k * 3 + 1, none⟩) hpb _).far (p := ⟨b, k * 3 + 2, none⟩) hpb _)
        have HRV := hide hrv
        clear p0 p1 p2 g1 hrv
        refine wp_region_F 16 (fun w' => w'.cell? ⟨p, 1, none⟩ = some (Value.int .i64 o.a) ∧ w'.cell? ⟨g, 1, none⟩ = some (Value.slice AM5 (others i0 k o.a false (⟨setL m.cs i0 k lnZ, backM m.mem X.a X.v⟩)).mem.length cM5)) (fun w' => True) (by kernel_rfl) ⟨⟨by rw [← hZ]; exact a1, by rw [← hZ]; exact a2⟩, trivial⟩ (fun hHeld => ?_)
        try simp only [Act.put, List.setIfInBounds_toArray, List.set_cons_zero, List.set_cons_succ]
        rw [← hZ] at hHeld ⊢
        clear hZ
        refine wpAnyF_take (i := 0) (v := ?_) (by (simp only [List.getElem?_toArray, List.getElem?_cons_zero]; rfl)) (by kernel_rfl) (by kernel_rfl) (by kernel_rfl) (by decide) (by exact fun _ _ _ h => h) ⟨hHeld.1, .inr hHeld.2⟩ (Or.inl ⟨by rfl, ?_⟩) ?_
        rotate_left
        · (intro w' _; go_simp <;> with_reducible rfl)
        try simp only [Act.put, List.setIfInBounds_toArray, List.set_cons_zero, List.set_cons_succ]
        refine wpAnyF_take (i := 1) (v := ?_) (by (simp only [List.getElem?_toArray, List.getElem?_cons_succ, List.getElem?_cons_zero]; rfl)) (by kernel_rfl) (by kernel_rfl) (by kernel_rfl) (by decide) (by exact fun _ _ _ h => h) ⟨hHeld.1, .inr hHeld.2⟩ (Or.inl ⟨by rfl, ?_⟩) ?_
        rotate_left
        · (intro w' _; go_simp <;> with_reducible rfl)
        try simp only [Act.put, List.setIfInBounds_toArray, List.set_cons_zero, List.set_cons_succ]
        refine wpAnyF_take (i := 2) (v := ?_) (by (simp only [List.getElem?_toArray, List.getElem?_cons_succ, List.getElem?_cons_zero]; rfl)) (by kernel_rfl) (by kernel_rfl) (by kernel_rfl) (by decide) (by exact fun _ _ _ h => h) ⟨hHeld.1, .inr hHeld.2⟩ (Or.inl ⟨by rfl, ?_⟩) ?_
        rotate_left
        · (intro w' _; go_simp <;> with_reducible rfl)
        try simp only [Act.put, List.setIfInBounds_toArray, List.set_cons_zero, List.set_cons_succ]
        refine wpAnyF_take (i := 3) (v := ?_) (by (simp only [List.getElem?_toArray, List.getElem?_cons_succ, List.getElem?_cons_zero]; rfl)) (by kernel_rfl) (by kernel_rfl) (by kernel_rfl) (by decide) (by exact fun _ _ _ h => h) ⟨hHeld.1, .inr hHeld.2⟩ (Or.inl ⟨by rfl, ?_⟩) ?_
        rotate_left
        · (intro w' _; go_simp <;> with_reducible rfl)
        try simp only [Act.put, List.setIfInBounds_toArray, List.set_cons_zero, List.set_cons_succ]
        refine wpAnyF_keep (i := 4) (v := ?_) (by (simp only [List.getElem?_toArray, List.getElem?_cons_succ, List.getElem?_cons_zero]; rfl)) (by kernel_rfl) (by kernel_rfl) (by kernel_rfl) (by decide) (by exact fun _ _ _ h => h) ⟨hHeld.1, .inr hHeld.2⟩ (Or.inl ⟨by rfl, ?_⟩) ?_
        rotate_left
        · (intro w' hSw; (try dsimp only at hSw); obtain ⟨hSa0, hSa1⟩ := hSw; go_simp <;> with_reducible rfl)
        try simp only [Act.put, List.setIfInBounds_toArray, List.set_cons_zero, List.set_cons_succ]
        refine wpAnyF_take (i := 5) (v := ?_) (by (simp only [List.getElem?_toArray, List.getElem?_cons_succ, List.getElem?_cons_zero]; rfl)) (by kernel_rfl) (by kernel_rfl) (by kernel_rfl) (by decide) (by exact fun _ _ _ h => h) ⟨hHeld.1, .inr hHeld.2⟩ (Or.inl ⟨by rfl, ?_⟩) ?_
        rotate_left
        · (intro w' _; go_simp <;> with_reducible rfl)
        try simp only [Act.put, List.setIfInBounds_toArray, List.set_cons_zero, List.set_cons_succ]
        refine wpAnyF_take (i := 6) (v := ?_) (by (simp only [List.getElem?_toArray, List.getElem?_cons_succ, List.getElem?_cons_zero]; rfl)) (by kernel_rfl) (by kernel_rfl) (by kernel_rfl) (by decide) (by exact fun _ _ _ h => h) ⟨hHeld.1, .inr hHeld.2⟩ (Or.inl ⟨by rfl, ?_⟩) ?_
        rotate_left
        · (intro w' _; go_simp <;> with_reducible rfl)
        try simp only [Act.put, List.setIfInBounds_toArray, List.set_cons_zero, List.set_cons_succ]
        refine wpAnyF_take (i := 7) (v := ?_) (by (simp only [List.getElem?_toArray, List.getElem?_cons_succ, List.getElem?_cons_zero]; rfl)) (by kernel_rfl) (by kernel_rfl) (by kernel_rfl) (by decide) (by exact fun _ _ _ h => h) ⟨hHeld.1, .inr hHeld.2⟩ (Or.inl ⟨by rfl, ?_⟩) ?_
        rotate_left
        · (intro w' _; go_simp <;> with_reducible rfl)
        try simp only [Act.put, List.setIfInBounds_toArray, List.set_cons_zero, List.set_cons_succ]
        refine wpAnyF_keep (i := 8) (v := ?_) (by (simp only [List.getElem?_toArray, List.getElem?_cons_succ, List.getElem?_cons_zero]; rfl)) (by kernel_rfl) (by kernel_rfl) (by kernel_rfl) (by decide) (by exact fun _ _ _ h => h) ⟨hHeld.1, .inr hHeld.2⟩ (Or.inl ⟨by rfl, ?_⟩) ?_
        rotate_left
        · (intro w' hSw; (try dsimp only at hSw); obtain ⟨hSa0, hSa1⟩ := hSw; go_simp <;> with_reducible rfl)
        try simp only [Act.put, List.setIfInBounds_toArray, List.set_cons_zero, List.set_cons_succ]
        refine wpAnyF_take (i := 9) (v := ?_) (by (simp only [List.getElem?_toArray, List.getElem?_cons_succ, List.getElem?_cons_zero]; rfl)) (by kernel_rfl) (by kernel_rfl) (by kernel_rfl) (by decide) (by exact fun _ _ _ h => h) ⟨hHeld.1, .inr hHeld.2⟩ (Or.inl ⟨by rfl, ?_⟩) ?_
        rotate_left
        · (intro w' _; go_simp <;> with_reducible rfl)
        try simp only [Act.put, List.setIfInBounds_toArray, List.set_cons_zero, List.set_cons_succ]
        refine wpAnyF_take (i := 10) (v := ?_) (by (simp only [List.getElem?_toArray, List.getElem?_cons_succ, List.getElem?_cons_zero]; rfl)) (by kernel_rfl) (by kernel_rfl) (by kernel_rfl) (by decide) (by exact fun _ _ _ h => h) ⟨hHeld.1, .inr hHeld.2⟩ (Or.inl ⟨by rfl, ?_⟩) ?_
        rotate_left
        · (intro w' _; go_simp <;> with_reducible rfl)
        try simp only [Act.put, List.setIfInBounds_toArray, List.set_cons_zero, List.set_cons_succ]
        refine wpAnyF_take (i := 11) (v := ?_) (by (simp only [List.getElem?_toArray, List.getElem?_cons_succ, List.getElem?_cons_zero]; rfl)) (by kernel_rfl) (by kernel_rfl) (by kernel_rfl) (by decide) (by exact fun _ _ _ h => h) ⟨hHeld.1, .inr hHeld.2⟩ (Or.inl ⟨by rfl, ?_⟩) ?_
        rotate_left
        · (intro w' _; go_simp <;> with_reducible rfl)
        try simp only [Act.put, List.setIfInBounds_toArray, List.set_cons_zero, List.set_cons_succ]
        refine wpAnyF_keep (i := 12) (v := ?_) (by (simp only [List.getElem?_toArray, List.getElem?_cons_succ, List.getElem?_cons_zero]; rfl)) (by kernel_rfl) (by kernel_rfl) (by kernel_rfl) (by decide) (by exact fun _ _ _ h => h) ⟨hHeld.1, .inr hHeld.2⟩ (Or.inl ⟨by rfl, ?_⟩) ?_
        rotate_left
        · (intro w' hSw; (try dsimp only at hSw); obtain ⟨hSa0, hSa1⟩ := hSw; go_simp <;> with_reducible rfl)
        try simp only [Act.put, List.setIfInBounds_toArray, List.set_cons_zero, List.set_cons_succ]
        refine wpAnyF_ready (rs := [13]) (by kernel_rfl) (by simp) ?_
        refine AllReadyF.cons (by (simp only [List.getElem?_toArray, List.getElem?_cons_succ, List.getElem?_cons_zero]; rfl)) (fun K hK => ?_) AllReadyF.nil
        go_simp
        go_at_call 64
        refine HRD.out.mono ?_
        rintro e wz ⟨rfl, rfl⟩
        refine hK.out _ _ ⟨⟨a1, a2⟩, trivial⟩ (fun hNew => ?_)
        clear hK K hHeld
        have hHeld := hNew
        clear hNew
        try simp only [Act.put, List.setIfInBounds_toArray, List.set_cons_zero, List.set_cons_succ]
        refine wpAnyF_take (i := 14) (v := ?_) (by (simp only [List.getElem?_toArray, List.getElem?_cons_succ, List.getElem?_cons_zero]; rfl)) (by kernel_rfl) (by kernel_rfl) (by kernel_rfl) (by decide) (by exact fun _ _ _ h => h) ⟨hHeld.1, .inr hHeld.2⟩ (Or.inl ⟨by rfl, ?_⟩) ?_
        rotate_left
        · (intro w' _; go_simp <;> with_reducible rfl)
        try simp only [Act.put, List.setIfInBounds_toArray, List.set_cons_zero, List.set_cons_succ]
        refine wpAnyF_take (i := 15) (v := ?_) (by (simp only [List.getElem?_toArray, List.getElem?_cons_succ, List.getElem?_cons_zero]; rfl)) (by kernel_rfl) (by kernel_rfl) (by kernel_rfl) (by decide) (by exact fun _ _ _ h => h) ⟨hHeld.1, .inr hHeld.2⟩ (Or.inl ⟨by rfl, ?_⟩) ?_
        rotate_left
        · (intro w' _; go_simp <;> with_reducible rfl)
        try simp only [Act.put, List.setIfInBounds_toArray, List.set_cons_zero, List.set_cons_succ]
        refine wpAnyF_ready (rs := [16]) (by kernel_rfl) (by simp) ?_
        refine AllReadyF.last (by (simp only [List.getElem?_toArray, List.getElem?_cons_succ, List.getElem?_cons_zero]; rfl)) (by kernel_rfl) (fun K hK => ?_) AllReadyF.nil
        go_simp
        refine hK.out _ _ ⟨(HKZ.out.cell 1).trans rfl, (HPT.out.1.box.cell 1).trans rfl⟩ ?_
        clear hK K
        try simp only [Act.put, List.setIfInBounds_toArray, List.set_cons_zero, List.set_cons_succ]
        refine wpAnyF_done (by kernel_rfl) ?_ _
        obtain ⟨y0, y1, y2, _⟩ := HPT.out.1.line (HG5.out.shp.set_ hi0 _) hi0 hk hu
        have y2' := y2
        rw [HG5.out.shp.ln_set hi0 hk, if_pos ⟨rfl, rfl⟩] at y2'
        clear y0 y1 y2
        go_wp2
        go_ret
        have er := HR.out
        rw [do_L0 HK.out HF.out (by omega) HKX.out] at er
        simp only [Prod.mk.injEq] at er
        rw [← HRV.out] at er
        obtain ⟨rfl, rfl⟩ := er
        first | exact ⟨rfl, _, HPT.out.1, HPT.out.2⟩ | exact ⟨rfl, ⟨_, HPT.out.1⟩, HPT.out.2⟩
      · have hos : (o.k == 1) = true := by rw [hs]; rfl
        obtain ⟨z0, z1, z2, _⟩ := HM6.out.line HG1.out.shp hi0 hk hu
        rw [HKX.out] at z0
        have OT := hide (l7Others_any (cr := i0) true HM6.out HG1.out hk ha HP.out (by omega) HLN.out)
        have p0 := (HK6.out.cell 0).trans (rfl : _ = some (Value.int .i64 o.k))
        have p1 := (HK6.out.cell 1).trans (rfl : _ = some (Value.int .i64 o.a))
        have p2 := (HK6.out.cell 2).trans (rfl : _ = some (Value.int .i64 o.v))
        go_wp2_with fail
        refine OT.out.mono ?_
        rintro e w5 ⟨rfl, v5, M5, B5⟩
        obtain ⟨AM5, cM5, rfl⟩ := M5.shape
        have HOK := hide (others_ok (c := i0) HG1.out hk o.a true)
        have HG5 := hide HOK.out.1.good
        have HL5 := hide (show (others i0 k o.a true ⟨setL m.cs i0 k lnZ, backM m.mem X.a X.v⟩).mem.length ≤ 41 from Nat.le_trans HOK.out.2.2.2 (Nat.succ_le_succ HLN.out))
        have HKP5 := hide (B5.bk HK6.out HPS.out)
        have HB5 := hide (HB6.out.trans B5 (fun _ e => .inl e))
        have HM5 := hide M5
        clear OT M5 B5 p0 p1 p2 l0 l1 l2
        clear z0 z1 z2
        obtain ⟨y0, y1, y2, yf⟩ := HM5.out.line HG5.out.shp hi0 hk hu
        have d0 := yf (k * 3)
        have d1 := yf (k * 3 + 1)
        have d2 := yf (k * 3 + 2)
        clear yf
        have p0 := (HKP5.out.cell 0).trans (rfl : _ = some (Value.int .i64 o.k))
        have p1 := (HKP5.out.cell 1).trans (rfl : _ = some (Value.int .i64 o.a))
        have p2 := (HKP5.out.cell 2).trans (rfl : _ = some (Value.int .i64 o.v))
        go_wp2_with fail
        obtain ⟨Z, hZ⟩ : ∃ Z : World, Z = w5.drew := ⟨_, rfl⟩
        have y0 : Z.cell? ⟨b, k * 3, none⟩ = some (.int .i64 (ln (others i0 k o.a true (⟨setL m.cs i0 k lnZ, backM m.mem X.a X.v⟩)).cs i0 k).k) := by rw [hZ]; exact y0
        have y1 : Z.cell? ⟨b, k * 3 + 1, none⟩ = some (.int .i64 (ln (others i0 k o.a true (⟨setL m.cs i0 k lnZ, backM m.mem X.a X.v⟩)).cs i0 k).a) := by rw [hZ]; exact y1
        have y2 : Z.cell? ⟨b, k * 3 + 2, none⟩ = some (.int .i64 (ln (others i0 k o.a true (⟨setL m.cs i0 k lnZ, backM m.mem X.a X.v⟩)).cs i0 k).v) := by rw [hZ]; exact y2
        have d0 : Z.frozen? ⟨b, k * 3, none⟩ = false := by rw [hZ]; exact d0
        have d1 : Z.frozen? ⟨b, k * 3 + 1, none⟩ = false := by rw [hZ]; exact d1
        have d2 : Z.frozen? ⟨b, k * 3 + 2, none⟩ = false := by rw [hZ]; exact d2
        have a1 : Z.cell? ⟨p, 1, none⟩ = some (.int .i64 o.a) := by rw [hZ]; exact p1
        have a2 : Z.cell? ⟨p, 2, none⟩ = some (.int .i64 o.v) := by rw [hZ]; exact p2
        have HPT : Hid (Mdl (((Z.setCell ⟨b, k * 3, none⟩ (.int .i64 2)).setCell ⟨b, k * 3 + 1, none⟩ (.int .i64 o.a)).setCell ⟨b, k * 3 + 2, none⟩ (.int .i64 o.v)) base g gv c ⟨setL (others i0 k o.a true (⟨setL m.cs i0 k lnZ, backM m.mem X.a X.v⟩)).cs i0 k ⟨2, o.a, o.v⟩, (others i0 k o.a true (⟨setL m.cs i0 k lnZ, backM m.mem X.a X.v⟩)).mem⟩ _ us ∧ But (MdlS g us) w (((Z.setCell ⟨b, k * 3, none⟩ (.int .i64 2)).setCell ⟨b, k * 3 + 1, none⟩ (.int .i64 o.a)).setCell ⟨b, k * 3 + 2, none⟩ (.int .i64 o.v))) := hide (by
          rw [hZ]
          have M9 := HM5.out.below (Below.refl w5.heap.size w5).drew
          have P9 := M9.put HG5.out.shp hi0 hk hu ⟨2, o.a, o.v⟩
          exact ⟨P9.1, (HB5.out.trans (S' := fun _ => False) (But.of_below (Below.refl w5.heap.size w5).drew) (fun _ e => e.elim)).trans P9.2 (fun _ e => .inl e)⟩)
        have HKZ : Hid (Bk (((Z.setCell ⟨b, k * 3, none⟩ (.int .i64 2)).setCell ⟨b, k * 3 + 1, none⟩ (.int .i64 o.a)).setCell ⟨b, k * 3 + 2, none⟩ (.int .i64 o.v)) p #[.int .i64 o.k, .int .i64 o.a, .int .i64 o.v] 84) := hide (by
          rw [hZ]
          have K9 : Bk w5.drew p #[.int .i64 o.k, .int .i64 o.a, .int .i64 o.v] 84 := HKP5.out
          exact ((K9.far (p := ⟨b, k * 3, none⟩) hpb _).far (p := ⟨b, k * 3 + 1, none⟩) hpb _).far (p := ⟨b, k * 3 + 2, none⟩) hpb _)
        clear p0 p1 p2
        refine wp_region_F 99 (fun w' => w'.cell? ⟨p, 1, none⟩ = some (Value.int .i64 o.a) ∧ w'.cell? ⟨p, 2, none⟩ = some (Value.int .i64 o.v)) (fun w' => True) (by kernel_rfl) ⟨⟨by rw [← hZ]; exact a1, by rw [← hZ]; exact a2⟩, trivial⟩ (fun hHeld => ?_)
        try simp only [Act.put, List.setIfInBounds_toArray, List.set_cons_zero, List.set_cons_succ]
        rw [← hZ] at hHeld ⊢
        clear hZ
        refine wpAnyF_take (i := 0) (v := ?_) (by (simp only [List.getElem?_toArray, List.getElem?_cons_zero]; rfl)) (by kernel_rfl) (by kernel_rfl) (by kernel_rfl) (by decide) (by exact fun _ _ _ h => h) ⟨hHeld.1, .inr hHeld.2⟩ (Or.inl ⟨by rfl, ?_⟩) ?_
        rotate_left
        · (intro w' _; go_simp <;> with_reducible rfl)
        try simp only [Act.put, List.setIfInBounds_toArray, List.set_cons_zero, List.set_cons_succ]
        refine wpAnyF_take (i := 1) (v := ?_) (by (simp only [List.getElem?_toArray, List.getElem?_cons_succ, List.getElem?_cons_zero]; rfl)) (by kernel_rfl) (by kernel_rfl) (by kernel_rfl) (by decide) (by exact fun _ _ _ h => h) ⟨hHeld.1, .inr hHeld.2⟩ (Or.inl ⟨by rfl, ?_⟩) ?_
        rotate_left
        · (intro w' _; go_simp <;> with_reducible rfl)
        try simp only [Act.put, List.setIfInBounds_toArray, List.set_cons_zero, List.set_cons_succ]
        refine wpAnyF_take (i := 2) (v := ?_) (by (simp only [List.getElem?_toArray, List.getElem?_cons_succ, List.getElem?_cons_zero]; rfl)) (by kernel_rfl) (by kernel_rfl) (by kernel_rfl) (by decide) (by exact fun _ _ _ h => h) ⟨hHeld.1, .inr hHeld.2⟩ (Or.inl ⟨by rfl, ?_⟩) ?_
        rotate_left
        · (intro w' _; go_simp <;> with_reducible rfl)
        try simp only [Act.put, List.setIfInBounds_toArray, List.set_cons_zero, List.set_cons_succ]
        refine wpAnyF_take (i := 3) (v := ?_) (by (simp only [List.getElem?_toArray, List.getElem?_cons_succ, List.getElem?_cons_zero]; rfl)) (by kernel_rfl) (by kernel_rfl) (by kernel_rfl) (by decide) (by exact fun _ _ _ h => h) ⟨hHeld.1, .inr hHeld.2⟩ (Or.inl ⟨by rfl, ?_⟩) ?_
        rotate_left
        · (intro w' _; go_simp <;> with_reducible rfl)
        try simp only [Act.put, List.setIfInBounds_toArray, List.set_cons_zero, List.set_cons_succ]
        refine wpAnyF_keep (i := 4) (v := ?_) (by (simp only [List.getElem?_toArray, List.getElem?_cons_succ, List.getElem?_cons_zero]; rfl)) (by kernel_rfl) (by kernel_rfl) (by kernel_rfl) (by decide) (by exact fun _ _ _ h => h) ⟨hHeld.1, .inr hHeld.2⟩ (Or.inl ⟨by rfl, ?_⟩) ?_
        rotate_left
        · (intro w' hSw; (try dsimp only at hSw); obtain ⟨hSa0, hSa1⟩ := hSw; go_simp <;> with_reducible rfl)
        try simp only [Act.put, List.setIfInBounds_toArray, List.set_cons_zero, List.set_cons_succ]
        refine wpAnyF_take (i := 5) (v := ?_) (by (simp only [List.getElem?_toArray, List.getElem?_cons_succ, List.getElem?_cons_zero]; rfl)) (by kernel_rfl) (by kernel_rfl) (by kernel_rfl) (by decide) (by exact fun _ _ _ h => h) ⟨hHeld.1, .inr hHeld.2⟩ (Or.inl ⟨by rfl, ?_⟩) ?_
        rotate_left
        · (intro w' _; go_simp <;> with_reducible rfl)
        try simp only [Act.put, List.setIfInBounds_toArray, List.set_cons_zero, List.set_cons_succ]
        refine wpAnyF_take (i := 6) (v := ?_) (by (simp only [List.getElem?_toArray, List.getElem?_cons_succ, List.getElem?_cons_zero]; rfl)) (by kernel_rfl) (by kernel_rfl) (by kernel_rfl) (by decide) (by exact fun _ _ _ h => h) ⟨hHeld.1, .inr hHeld.2⟩ (Or.inl ⟨by rfl, ?_⟩) ?_
        rotate_left
        · (intro w' _; go_simp <;> with_reducible rfl)
        try simp only [Act.put, List.setIfInBounds_toArray, List.set_cons_zero, List.set_cons_succ]
        refine wpAnyF_take (i := 7) (v := ?_) (by (simp only [List.getElem?_toArray, List.getElem?_cons_succ, List.getElem?_cons_zero]; rfl)) (by kernel_rfl) (by kernel_rfl) (by kernel_rfl) (by decide) (by exact fun _ _ _ h => h) ⟨hHeld.1, .inr hHeld.2⟩ (Or.inl ⟨by rfl, ?_⟩) ?_
        rotate_left
        · (intro w' _; go_simp <;> with_reducible rfl)
        try simp only [Act.put, List.setIfInBounds_toArray, List.set_cons_zero, List.set_cons_succ]
        refine wpAnyF_keep (i := 8) (v := ?_) (by (simp only [List.getElem?_toArray, List.getElem?_cons_succ, List.getElem?_cons_zero]; rfl)) (by kernel_rfl) (by kernel_rfl) (by kernel_rfl) (by decide) (by exact fun _ _ _ h => h) ⟨hHeld.1, .inr hHeld.2⟩ (Or.inl ⟨by rfl, ?_⟩) ?_
        rotate_left
        · (intro w' hSw; (try dsimp only at hSw); obtain ⟨hSa0, hSa1⟩ := hSw; go_simp <;> with_reducible rfl)
        try simp only [Act.put, List.setIfInBounds_toArray, List.set_cons_zero, List.set_cons_succ]
        refine wpAnyF_take (i := 9) (v := ?_) (by (simp only [List.getElem?_toArray, List.getElem?_cons_succ, List.getElem?_cons_zero]; rfl)) (by kernel_rfl) (by kernel_rfl) (by kernel_rfl) (by decide) (by exact fun _ _ _ h => h) ⟨hHeld.1, .inr hHeld.2⟩ (Or.inl ⟨by rfl, ?_⟩) ?_
        rotate_left
        · (intro w' _; go_simp <;> with_reducible rfl)
        try simp only [Act.put, List.setIfInBounds_toArray, List.set_cons_zero, List.set_cons_succ]
        refine wpAnyF_take (i := 10) (v := ?_) (by (simp only [List.getElem?_toArray, List.getElem?_cons_succ, List.getElem?_cons_zero]; rfl)) (by kernel_rfl) (by kernel_rfl) (by kernel_rfl) (by decide) (by exact fun _ _ _ h => h) ⟨hHeld.1, .inr hHeld.2⟩ (Or.inl ⟨by rfl, ?_⟩) ?_
        rotate_left
        · (intro w' _; go_simp <;> with_reducible rfl)
        try simp only [Act.put, List.setIfInBounds_toArray, List.set_cons_zero, List.set_cons_succ]
        refine wpAnyF_ready (rs := [11]) (by kernel_rfl) (by simp) ?_
        refine AllReadyF.cons (by (simp only [List.getElem?_toArray, List.getElem?_cons_succ, List.getElem?_cons_zero]; rfl)) (fun K hK => ?_) AllReadyF.nil
        go_simp
        refine hK.out _ _ ⟨⟨(HKZ.out.cell 1).trans rfl, (HKZ.out.cell 2).trans rfl⟩, trivial⟩ (fun hNew => ?_)
        clear hK K hHeld
        have hHeld := hNew
        clear hNew
        try simp only [Act.put, List.setIfInBounds_toArray, List.set_cons_zero, List.set_cons_succ]
        refine wpAnyF_done (by kernel_rfl) ?_ _
        have p2 := (HKZ.out.cell 2).trans (rfl : _ = some (Value.int .i64 o.v))
        go_wp2
        go_ret
        have er := HR.out
        rw [do_S HK.out HF.out hs (by rw [HKX.out]; decide)] at er
        simp only [Prod.mk.injEq] at er
        obtain ⟨rfl, rfl⟩ := er
        first | exact ⟨rfl, _, HPT.out.1, HPT.out.2⟩ | exact ⟨rfl, ⟨_, HPT.out.1⟩, HPT.out.2⟩
end Go.Proofs.YtnnfkmjhaljplaaGreat
