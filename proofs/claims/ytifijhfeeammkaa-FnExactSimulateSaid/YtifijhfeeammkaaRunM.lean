/- A run of the model in memory; l7Lengths, l7Asked. -/
import Derived.Test.YtifijhfeeammkaaSimA
import Derived.Test.YtifijhfeeammkaaMergeS
import Derived.Test.YtifijhfeeammkaaGMdl
import Derived.Test.YtifijhfeeammkaaGNew
import Derived.Test.YtifijhfeeammkaaGMsf
namespace Go.Proofs.Ytifijhfeeammkaa
open Go.RowKit

set_option maxRecDepth 100000 in
set_option maxHeartbeats 800000 in
theorem l7Len_any (t : List (List Ev)) (A : Option Addr) (c : Nat) (w : World) (hm : t.length ≤ 1000) (h : RdT w w.heap.size A t) :
    Calls Try.prog 129 #[.slice A t.length c] w fun e w' => ∃ v, e = .returned v ∧ OwnI w w.heap.size (lensI t) v w' := by
  obtain ⟨i0, hi, hz0, hz1, hz2⟩ := info_parts info_i64
  have hO : OwnI w w.heap.size [] (.slice (some ⟨w.heap.size, 0, none⟩) 0 0) (w.alloc (Obj.cells #[] 2)) := ⟨World.ownsRow_lit w #[] 0 (Nat.le_refl _) (by simp) rfl, (Below.refl _ _).alloc (Nat.le_refl _) _, Nat.le_refl _⟩
  go_enter Try.func129, Try.ntmps129
  go_wp2
  go_loopw [3, 8] (fun v i wr => ∃ (k : Nat) (xs : List Int), k ≤ t.length ∧ i = .int .i64 k ∧ OwnI w w.heap.size xs v wr ∧ Hid (xs = lensI (t.take k))) (fun _ i _ => t.length - (intOf i).toNat)
  case atStart => exact ⟨0, [], Nat.zero_le _, rfl, hO, hide rfl⟩
  case round =>
    obtain ⟨k, xs, hk, rfl, ho, HX⟩ := hrel
    by_cases hlt : k < t.length
    · obtain ⟨b, off, a, d, rfl, hbb, hc0, hle, hcm, hr⟩ := (h.below ho.old).get hlt
      obtain ⟨D, dd, rfl⟩ := ho.shape
      have hkl : xs.length ≤ 1000 := by rw [HX.out, lensI_length, List.length_take]; omega
      have HT := hide (show xs ++ [(t[k].length : Int)] = lensI (t.take (k + 1)) by rw [HX.out, List.take_succ_eq_append_getElem hlt]; unfold lensI; rw [List.map_append]; rfl)
      obtain ⟨n, hn⟩ : ∃ n, n = t[k].length := ⟨_, rfl⟩
      rw [← hn] at hc0 HT
      have ho1 := ho.alloc (Obj.cells #[.int .i64 n] 2)
      have hBl := Rd.one_new wr (n : Int) 2
      have hz := ho.old.size
      clear hn hle hr ho
      go_wp2_with (at_builtin; refine wpList_append_rd _ rfl (.tmp 11) (.tmp 17) 50 rfl w.heap.size 2 i0 (.int .i64 0) 8 Try.underlying50 hi hz0 hz1 hz2 rfl .i64 _ _ _ rfl ho1.row (some ⟨wr.heap.size, 0, none⟩) [(n : Int)] 1 _ rfl hBl (by unfold maxLen; simp only [List.length_cons, List.length_nil]; omega) (by simp only [List.length_cons, List.length_nil]; omega) (by simp; omega) ?_; intro v5 w5 o5 g5 hat5; have ho5 := ho1.more o5 g5; clear o5 g5 hat5 ho1 hBl)
      go_roundw
      case rel => exact ⟨k + 1, _, by omega, by go_num, ho5, HT⟩
      case measure => simp [intOf]; omega
    · obtain rfl : k = t.length := by omega
      rw [List.take_length] at HX
      go_wp2
      go_ret
      have e := HX.out
      subst e
      exact ⟨_, rfl, ho⟩

set_option maxRecDepth 100000 in
set_option maxHeartbeats 800000 in
theorem l7Asked_any (t : List (List Ev)) (L : Int) (picks : List Int) (A Ap : Option Addr) (c cp : Nat) (w : World) (hm : t.length ≤ maxLen) (hpm : picks.length ≤ maxLen) (h : RdT w w.heap.size A t) :
    Calls Try.prog 94 #[.slice A t.length c, .int .i64 L, .slice Ap picks.length cp] w fun e w' => e = .returned (.int .i64 (simC t L picks)) ∧ Below w.heap.size w w' := by
  unfold maxLen at hpm
  have PF := hide (specPgF_any t A c w hm h)
  obtain ⟨F, hF⟩ : ∃ F, F = simC t L picks := ⟨_, rfl⟩
  rw [← hF]
  have HF := hide hF
  clear hF
  go_enter Try.func94, Try.ntmps94
  go_wp2_with fail
  refine PF.out.mono ?_
  rintro e w1 ⟨rfl, b1⟩
  by_cases hg : pgF t = 0
  · rw [hg]
    by_cases hL : 1 ≤ L ∧ L ≤ 4
    · have LI := hide (fun V => l1In_yes L 1 4 V hL)
      go_wp2_with fail
      refine (LI.out _).mono ?_
      rintro e w2 ⟨rfl, rfl⟩
      by_cases hp : picks.length ≤ 100
      · have hd : decide (picks.length ≤ 100) = true := decide_eq_true hp
        have HE := hide (HF.out.trans (simC_ok hg hL hp))
        go_wp2
        go_ret
        exact ⟨by rw [HE.out]; rfl, b1⟩
      · have hd : decide (picks.length ≤ 100) = false := decide_eq_false hp
        have HE := hide (HF.out.trans (simC_k hg hL hp))
        go_wp2
        go_ret
        exact ⟨by rw [HE.out]; rfl, b1⟩
    · have LI := hide (fun V => l1In_no L 1 4 V (by omega))
      have HE := hide (HF.out.trans (simC_l (picks := picks) hg hL))
      go_wp2_with fail
      refine (LI.out _).mono ?_
      rintro e w2 ⟨rfl, rfl⟩
      go_wp2
      go_ret
      exact ⟨by rw [HE.out]; rfl, b1⟩
  · have g0 : (pgF t != 0) = true := bne_iff_ne.2 hg
    have g1 : (pgF t == 0) = false := beq_eq_false_iff_ne.2 hg
    have HE := hide (HF.out.trans (simC_p (L := L) (picks := picks) hg))
    go_wp2
    go_ret
    exact ⟨by rw [HE.out]; rfl, b1⟩

/-- Rows of different elements lie in different blocks. -/
theorem own_types {w : World} {b1 b2 s1 s2 n1 n2 : Nat} {e1 e2 : TypeId} {v1 v2 : Value} {xs1 xs2 : List Value} (h1 : w.ownsRow b1 e1 s1 v1 n1 xs1) (h2 : w.ownsRow b2 e2 s2 v2 n2 xs2) (he : e1 ≠ e2) : ∀ b, v1.ownBlock = some b → v2.ownBlock ≠ some b := fun b hb1 hb2 => by
  rcases h1.2 with ⟨rfl, _⟩ | ⟨g1, c1, cur1, rfl, _, k1, _⟩
  · cases hb1
  · rcases h2.2 with ⟨rfl, _⟩ | ⟨g2, c2, cur2, rfl, _, k2, _⟩
    · cases hb2
    · simp only [Value.ownBlock, Option.some.injEq] at hb1 hb2
      subst hb1
      subst hb2
      rw [k1] at k2
      simp only [Option.some.injEq, Obj.cells.injEq] at k2
      exact he k2.2.1
theorem own_box {w : World} {b1 s1 n1 g : Nat} {e1 e2 : TypeId} {v1 : Value} {xs1 : List Value} {cs : Array Value} (h1 : w.ownsRow b1 e1 s1 v1 n1 xs1) (h2 : Bk w g cs e2) (he : e1 ≠ e2) : v1.ownBlock ≠ some g := fun hb => by
  rcases h1.2 with ⟨rfl, _⟩ | ⟨g1, c1, cur1, rfl, _, k1, _⟩
  · cases hb
  · simp only [Value.ownBlock, Option.some.injEq] at hb
    subst hb
    rw [show w.heap[g1]? = some (.cells cs e2 (0, 0)) from h2] at k1
    simp only [Option.some.injEq, Obj.cells.injEq] at k1
    exact he k1.2.1.symm
theorem logO_takes (t : List (List Ev)) (O : List Int) (k : Nat) : logO t (O.take k) = (logO t O).take k := by
  apply List.ext_getElem
  · rw [logO_length, List.length_take, List.length_take, logO_length]
  · intro i h1 h2
    have hik : i < k := by rw [logO_length, List.length_take] at h1; omega
    simp only [logO, List.getElem_map, List.getElem_take, List.getElem_range, List.getD_eq_getElem?_getD, List.getElem?_take_of_lt hik, List.take_take, Nat.min_eq_left (Nat.le_of_lt hik)]
/-- Where a run stands: R is the result's block, g the machine's. -/
structure RunS (w0 w : World) (R base g gv cM gat N : Nat) (O : List Int) (m : Mac) (vm : Value) (us : List Value) (v : Value) (X : List Stp) : Prop where
  res : Bk w R #[.slice none 0 0, .slice none 0 0] 27
  mdl : Mdl w base g gv cM m vm us
  at_ : w.ownsRow (R + 1) 2 1 (.slice (some ⟨gat, 0, none⟩) N N) N (atR N O)
  log : w.ownsRow (R + 1) 143 4 v X.length (stps X)
  old : Below R w0 w
  nums : R < base
section
variable {w0 w w' : World} {R base g gv cM gat N : Nat} {O : List Int} {m m' : Mac} {vm v v' : Value} {us : List Value} {X : List Stp} {s : Stp}
theorem RunS.below (h : RunS w0 w R base g gv cM gat N O m vm us v X) (hb : Below w.heap.size w w') : RunS w0 w' R base g gv cM gat N O m vm us v X :=
  ⟨h.res.kept hb, h.mdl.below hb, own_below h.at_ hb (Nat.le_refl _), own_below h.log hb (Nat.le_refl _), h.old.trans (hb.mono (by have := h.res.lt; omega)), h.nums⟩
theorem RunS.cell (h : RunS w0 w R base g gv cM gat N O m vm us v X) {i : Nat} (hi : i < N) : w.cell? ⟨gat, i, none⟩ = some (.int .i64 ((cntO O (i : Int) : Nat) : Int)) ∧ w.frozen? ⟨gat, i, none⟩ = false :=
  ⟨by rw [h.at_.cellAt i (by omega)]; exact atR_get N O i hi, h.at_.frozenAt i⟩
theorem Mdl.usRow (h : Mdl w base g gv cM m vm us) {u : Value} (hu : u ∈ us) : ∃ n xs, w.ownsRow base 115 3 u n xs := by
  obtain ⟨i, hi⟩ := List.getElem?_of_mem hu
  obtain ⟨_, h1, _⟩ := h.own.cs.at_ hi
  exact ⟨_, _, h1⟩
/-- What turns one block that is of no kind of the machine's keeps the machine. -/
theorem Mdl.kept {e : TypeId} {b1 s1 n1 : Nat} {v1 : Value} {xs1 : List Value} (h : Mdl w base g gv cM m vm us) (hr : w.ownsRow b1 e s1 v1 n1 xs1) (hg : w.grownBy w' v1.ownBlock) (e1 : e ≠ 27) (e2 : e ≠ 112) (e3 : e ≠ 115) (e4 : e ≠ 120) : Mdl w' base g gv cM m vm us :=
  ⟨h.box.grown hg (fun x => own_box hr h.box e1 x.symm),
   ⟨⟨h.own.cs.row.kept hg (own_sep fun b hb x => own_types hr h.own.cs.row e2 b x hb), fun i hi => by
      obtain ⟨u, h1, h2, h3⟩ := h.own.cs.rows i hi
      exact ⟨u, h1, h2.kept hg (own_sep fun b hb x => own_types hr h2 e3 b x hb), h3⟩, h.own.cs.apart⟩, h.own.mem.kept hg (own_sep fun b hb x => own_types hr h.own.mem e4 b x hb), h.own.far⟩, h.gb, h.gfar⟩
theorem RunS.next (h : RunS w0 w R base g gv cM gat N O m vm us v X) (i : Nat) : RunS w0 (w.setCell ⟨gat, i, none⟩ (.int .i64 (((cntO O (i : Int) : Nat) : Int) + 1))) R base g gv cM gat N (O ++ [(i : Int)]) m vm us v X := by
  have h1 := (h.at_.stored i (.int .i64 (((cntO O (i : Int) : Nat) : Int) + 1)))
  rw [atR_set] at h1
  have hlo := (h.at_.lt gat rfl).1
  exact ⟨h.res.far (p := ⟨gat, i, none⟩) (by simp only; omega) _, h.mdl.kept h.at_ (grown_set w gat i _) (by decide) (by decide) (by decide) (by decide), h1.1,
    h.log.kept (grown_set w gat i _) (own_sep fun b hb e => own_types h.log h.at_ (by decide) b hb (by rw [← e]; rfl)), h.old.setCell (by simp only; omega) _, h.nums⟩
theorem RunS.kind (h : RunS w0 w R base g gv cM gat N O m vm us v X) {e : TypeId} {b1 s1 n1 : Nat} {v1 : Value} {xs1 : List Value} (hr : w.ownsRow b1 e s1 v1 n1 xs1) (e1 : e ≠ 27) (e2 : e ≠ 115) : ∀ b, v1.ownBlock = some b → ¬ MdlS g us b := fun b hb hS => by
  rcases hS with rfl | ⟨u, hu, hub⟩
  · exact own_box hr h.mdl.box e1 hb
  · obtain ⟨n, xs, hu2⟩ := h.mdl.usRow hu
    exact own_types hr hu2 e2 b hb hub
theorem RunS.did (h : RunS w0 w R base g gv cM gat N O m vm us v X) (hp : MdlPost base g gv cM m' us w w') : ∃ vm', RunS w0 w' R base g gv cM gat N O m' vm' us v X := by
  obtain ⟨vm', hm, bt⟩ := hp
  have hnS : ∀ k, k < base → ¬ MdlS g us k := fun k hk e => by have := h.mdl.low e; omega
  exact ⟨vm', bt.bk h.res (hnS R h.nums), hm, bt.own h.at_ (h.kind h.at_ (by decide) (by decide)), bt.own h.log (h.kind h.log (by decide) (by decide)), h.old.trans (bt.below (B := R) (by have := h.res.lt; omega) (fun x hx => by have := h.mdl.low hx; have := h.nums; omega)), h.nums⟩
theorem RunS.push (h : RunS w0 w R base g gv cM gat N O m vm us v X) (ho : w'.ownsRow (R + 1) 143 4 v' (X.length + 1) (stps X ++ stps [s])) (hg : w.grownBy w' v.ownBlock) : RunS w0 w' R base g gv cM gat N O m vm us v' (X ++ [s]) :=
  ⟨h.res.grown hg (fun e => by have := h.log.lt R e.symm; omega), h.mdl.kept h.log hg (by decide) (by decide) (by decide) (by decide), h.at_.kept hg (own_sep fun b hb e => own_types h.at_ h.log (by decide) b hb e),
   by rw [List.length_append, stps_append]; exact ho, h.old.trans (grown_below h.log hg (by have := h.res.lt; omega) (by omega)), h.nums⟩
/-- And the order that it goes by, in a row of its own. -/
structure RunO (w0 w : World) (R base g gv cM gat N : Nat) (O : List Int) (m : Mac) (vm : Value) (us : List Value) (v : Value) (X : List Stp) (vo : Value) (OO : List Int) : Prop where
  run : RunS w0 w R base g gv cM gat N O m vm us v X
  ord : w.ownsRow (R + 1) 2 1 vo OO.length (OO.map (Value.int .i64))
  ne : vo.ownBlock ≠ some gat
variable {vo : Value} {OO : List Int}
theorem RunO.below (h : RunO w0 w R base g gv cM gat N O m vm us v X vo OO) (hb : Below w.heap.size w w') : RunO w0 w' R base g gv cM gat N O m vm us v X vo OO := ⟨h.run.below hb, own_below h.ord hb (Nat.le_refl _), h.ne⟩
theorem RunO.next (h : RunO w0 w R base g gv cM gat N O m vm us v X vo OO) (i : Nat) : RunO w0 (w.setCell ⟨gat, i, none⟩ (.int .i64 (((cntO O (i : Int) : Nat) : Int) + 1))) R base g gv cM gat N (O ++ [(i : Int)]) m vm us v X vo OO :=
  ⟨h.run.next i, h.ord.kept (grown_set w gat i _) (own_sep fun _ hb e => h.ne (hb.trans e.symm)), h.ne⟩
theorem RunO.did (h : RunO w0 w R base g gv cM gat N O m vm us v X vo OO) (hp : MdlPost base g gv cM m' us w w') : ∃ vm', RunO w0 w' R base g gv cM gat N O m' vm' us v X vo OO := by
  obtain ⟨vm', h2⟩ := h.run.did hp
  obtain ⟨_, _, bt⟩ := hp
  exact ⟨vm', h2, bt.own h.ord (h.run.kind h.ord (by decide) (by decide)), h.ne⟩
theorem RunO.push (h : RunO w0 w R base g gv cM gat N O m vm us v X vo OO) (ho : w'.ownsRow (R + 1) 143 4 v' (X.length + 1) (stps X ++ stps [s])) (hg : w.grownBy w' v.ownBlock) : RunO w0 w' R base g gv cM gat N O m vm us v' (X ++ [s]) vo OO :=
  ⟨h.run.push ho hg, h.ord.kept hg (own_sep fun b hb e => own_types h.ord h.run.log (by decide) b hb e), h.ne⟩
end
end Go.Proofs.Ytifijhfeeammkaa
