/- What the laws' walks rest upon, part 22. -/
import Derived.Test.YtnnfkmjhaljplaaGreatM19
import Derived.Test.YtnnfkmjhaljplaaGreatM13
import Derived.Test.YtnnfkmjhaljplaaGreatM20
import Derived.Test.YtnnfkmjhaljplaaGreatM17
import Derived.Test.YtnnfkmjhaljplaaGreatM21
namespace Go.Proofs.YtnnfkmjhaljplaaGreat
open Go.RowKit
set_option maxRecDepth 100000 in
set_option maxHeartbeats 800000 in
theorem l7Len_any (t : List (List Ev)) (A : Option Addr) (c : Nat) (w : World) (hm : t.length ≤ 1000) (h : RdT w w.heap.size A t) :
    Calls Tryz.prog 48 #[.slice A t.length c] w fun e w' => ∃ v, e = .returned v ∧ OwnI w w.heap.size (lensI t) v w' := by
  obtain ⟨i0, hi, hz0, hz1, hz2⟩ := info_parts info_i64
  have hO : OwnI w w.heap.size [] (.slice (some ⟨w.heap.size, 0, none⟩) 0 0) (w.alloc (Obj.cells #[] 2)) := ⟨World.ownsRow_lit w #[] 0 (Nat.le_refl _) (by simp) rfl, (Below.refl _ _).alloc (Nat.le_refl _) _, Nat.le_refl _⟩
  go_enter Tryz.func48, Tryz.ntmps48
  go_wp2
  go_loopw [3, 8] (fun v i wr => ∃ (k : Nat) (xs : List Int), k ≤ t.length ∧ i = .int .i64 k ∧ OwnI w w.heap.size xs v wr ∧ Hid (xs = lensI (t.take k))) (fun _ i _ => t.length - (intOf i).toNat)
  case atStart => exact ⟨0, [], Nat.zero_le _, rfl, hO, hide rfl⟩
  case round =>
    obtain ⟨k, xs, hk, rfl, ho, HX⟩ := hrel
    by_cases hlt : k < t.length
    · obtain ⟨b, off, a, d, rfl, hbb, hc0, hle, hcm, hr⟩ := (h.below ho.old).get hlt
      obtain ⟨D, dd, rfl⟩ := ho.shape
      have hkl : xs.length ≤ 1000 := by rw [HX.out, lensI_length, List.length_take]; omega
      have HT := hide (show xs ++ [(t[k].length : Int)] = lensI (t.take (k + 1)) by rw [HX.out, List.take_succ_eq_append_getElem hlt]; unfold lensI; rw [List.map_append]; rfl)
      obtain ⟨n, hn⟩ : ∃ n, n = t[k].length := ⟨_, rfl⟩
      rw [← hn] at hc0 HT
      have ho1 := ho.alloc (Obj.cells #[.int .i64 n] 2)
      have hBl := Rd.one_new wr (n : Int) 2
      have hz := ho.old.size
      clear hn hle hr ho
      go_wp2_with (at_builtin; refine wpList_append_rd _ rfl (.tmp 11) (.tmp 17) 29 rfl w.heap.size 2 i0 (.int .i64 0) 8 Tryz.underlying29 hi hz0 hz1 hz2 rfl .i64 _ _ _ rfl ho1.row (some ⟨wr.heap.size, 0, none⟩) [(n : Int)] 1 _ rfl hBl (by unfold maxLen; simp only [List.length_cons, List.length_nil]; omega) (by simp only [List.length_cons, List.length_nil]; omega) (by simp; omega) ?_; intro v5 w5 o5 g5 hat5; have ho5 := ho1.more o5 g5; clear o5 g5 hat5 ho1 hBl)
      go_roundw
      case rel => exact ⟨k + 1, _, by omega, by go_num, ho5, HT⟩
      case measure => simp [intOf]; omega
    · obtain rfl : k = t.length := by omega
      rw [List.take_length] at HX
      go_wp2
      go_ret
      have e := HX.out
      subst e
      exact ⟨_, rfl, ho⟩
set_option maxRecDepth 100000 in
set_option maxHeartbeats 800000 in
theorem l7Asked_any (t : List (List Ev)) (L : Int) (picks : List Int) (A Ap : Option Addr) (c cp : Nat) (w : World) (hm : t.length ≤ maxLen) (hpm : picks.length ≤ maxLen) (h : RdT w w.heap.size A t) :
    Calls Tryz.prog 35 #[.slice A t.length c, .int .i64 L, .slice Ap picks.length cp] w fun e w' => e = .returned (.int .i64 (simC t L picks)) ∧ Below w.heap.size w w' := by
  unfold maxLen at hpm
  have PF := hide (specPgF_any t A c w hm h)
  obtain ⟨F, hF⟩ : ∃ F, F = simC t L picks := ⟨_, rfl⟩
  rw [← hF]
  have HF := hide hF
  clear hF
  go_enter Tryz.func35, Tryz.ntmps35
  go_wp2_with fail
  refine PF.out.mono ?_
  rintro e w1 ⟨rfl, b1⟩
  by_cases hg : pgF t = 0
  · rw [hg]
    by_cases hL : 1 ≤ L ∧ L ≤ 4
    · have LI := hide (fun V => l1In_yes L 1 4 V hL)
      go_wp2_with fail
      refine (LI.out _).mono ?_
      rintro e w2 ⟨rfl, rfl⟩
      by_cases hp : picks.length ≤ 100
      · have hd : decide (picks.length ≤ 100) = true := decide_eq_true hp
        have HE := hide (HF.out.trans (simC_ok hg hL hp))
        go_wp2
        go_ret
        exact ⟨by rw [HE.out]; rfl, b1⟩
      · have hd : decide (picks.length ≤ 100) = false := decide_eq_false hp
        have HE := hide (HF.out.trans (simC_k hg hL hp))
        go_wp2
        go_ret
        exact ⟨by rw [HE.out]; rfl, b1⟩
    · have LI := hide (fun V => l1In_no L 1 4 V (by omega))
      have HE := hide (HF.out.trans (simC_l (picks := picks) hg hL))
      go_wp2_with fail
      refine (LI.out _).mono ?_
      rintro e w2 ⟨rfl, rfl⟩
      go_wp2
      go_ret
      exact ⟨by rw [HE.out]; rfl, b1⟩
  · have g0 : (pgF t != 0) = true := bne_iff_ne.2 hg
    have g1 : (pgF t == 0) = false := beq_eq_false_iff_ne.2 hg
    have HE := hide (HF.out.trans (simC_p (L := L) (picks := picks) hg))
    go_wp2
    go_ret
    exact ⟨by rw [HE.out]; rfl, b1⟩
/-- Rows of different elements lie in different blocks. -/
theorem logO_takes (t : List (List Ev)) (O : List Int) (k : Nat) : logO t (O.take k) = (logO t O).take k := by
  apply List.ext_getElem
  · rw [logO_length, List.length_take, List.length_take, logO_length]
  · intro i h1 h2
    have hik : i < k := by rw [logO_length, List.length_take] at h1; omega
    simp only [logO, List.getElem_map, List.getElem_take, List.getElem_range, List.getD_eq_getElem?_getD, List.getElem?_take_of_lt hik, List.take_take, Nat.min_eq_left (Nat.le_of_lt hik)]
/-- Where a run stands: R is the result's block, g the machine's. -/
structure RunS (w0 w : World) (R base g gv cM gat N : Nat) (O : List Int) (m : Mac) (vm : Value) (us : List Value) (v : Value) (X : List Stp) : Prop where
  res : Bk w R #[.slice none 0 0, .slice none 0 0] 35
  mdl : Mdl w base g gv cM m vm us
  at_ : w.ownsRow (R + 1) 2 1 (.slice (some ⟨gat, 0, none⟩) N N) N (atR N O)
  log : w.ownsRow (R + 1) 66 4 v X.length (stps X)
  old : Below R w0 w
  nums : R < base
section
variable {w0 w w' : World} {R base g gv cM gat N : Nat} {O : List Int} {m m' : Mac} {vm v v' : Value} {us : List Value} {X : List Stp} {s : Stp}
theorem RunS.below (h : RunS w0 w R base g gv cM gat N O m vm us v X) (hb : Below w.heap.size w w') : RunS w0 w' R base g gv cM gat N O m vm us v X :=
  ⟨h.res.kept hb, h.mdl.below hb, own_below h.at_ hb (Nat.le_refl _), own_below h.log hb (Nat.le_refl _), h.old.trans (hb.mono (by have := h.res.lt; omega)), h.nums⟩
theorem RunS.cell (h : RunS w0 w R base g gv cM gat N O m vm us v X) {i : Nat} (hi : i < N) : w.cell? ⟨gat, i, none⟩ = some (.int .i64 ((cntO O (i : Int) : Nat) : Int)) ∧ w.frozen? ⟨gat, i, none⟩ = false :=
  ⟨by rw [h.at_.cellAt i (by omega)]; exact atR_get N O i hi, h.at_.frozenAt i⟩
theorem Mdl.usRow (h : Mdl w base g gv cM m vm us) {u : Value} (hu : u ∈ us) : ∃ n xs, w.ownsRow base 129 3 u n xs := by
  obtain ⟨i, hi⟩ := List.getElem?_of_mem hu
  obtain ⟨_, h1, _⟩ := h.own.cs.at_ hi
  exact ⟨_, _, h1⟩
/-- What turns one block that is of no kind of the machine's keeps the machine. -/
theorem Mdl.kept {e : TypeId} {b1 s1 n1 : Nat} {v1 : Value} {xs1 : List Value} (h : Mdl w base g gv cM m vm us) (hr : w.ownsRow b1 e s1 v1 n1 xs1) (hg : w.grownBy w' v1.ownBlock) (e1 : e ≠ 35) (e2 : e ≠ 114) (e3 : e ≠ 129) (e4 : e ≠ 139) : Mdl w' base g gv cM m vm us :=
  ⟨h.box.grown hg (fun x => own_box hr h.box e1 x.symm),
   ⟨⟨h.own.cs.row.kept hg (own_sep fun b hb x => own_types hr h.own.cs.row e2 b x hb), fun i hi => by
      obtain ⟨u, h1, h2, h3⟩ := h.own.cs.rows i hi
      exact ⟨u, h1, h2.kept hg (own_sep fun b hb x => own_types hr h2 e3 b x hb), h3⟩, h.own.cs.apart⟩, h.own.mem.kept hg (own_sep fun b hb x => own_types hr h.own.mem e4 b x hb), h.own.far⟩, h.gb, h.gfar⟩
theorem RunS.next (h : RunS w0 w R base g gv cM gat N O m vm us v X) (i : Nat) : RunS w0 (w.setCell ⟨gat, i, none⟩ (.int .i64 (((cntO O (i : Int) : Nat) : Int) + 1))) R base g gv cM gat N (O ++ [(i : Int)]) m vm us v X := by
  have h1 := (h.at_.stored i (.int .i64 (((cntO O (i : Int) : Nat) : Int) + 1)))
  rw [atR_set] at h1
  have hlo := (h.at_.lt gat rfl).1
  exact ⟨h.res.far (p := ⟨gat, i, none⟩) (by simp only; omega) _, h.mdl.kept h.at_ (grown_set w gat i _) (by decide) (by decide) (by decide) (by decide), h1.1,
    h.log.kept (grown_set w gat i _) (own_sep fun b hb e => own_types h.log h.at_ (by decide) b hb (by rw [← e]; rfl)), h.old.setCell (by simp only; omega) _, h.nums⟩
theorem RunS.kind (h : RunS w0 w R base g gv cM gat N O m vm us v X) {e : TypeId} {b1 s1 n1 : Nat} {v1 : Value} {xs1 : List Value} (hr : w.ownsRow b1 e s1 v1 n1 xs1) (e1 : e ≠ 35) (e2 : e ≠ 129) : ∀ b, v1.ownBlock = some b → ¬ MdlS g us b := fun b hb hS => by
  rcases hS with rfl | ⟨u, hu, hub⟩
  · exact own_box hr h.mdl.box e1 hb
  · obtain ⟨n, xs, hu2⟩ := h.mdl.usRow hu
    exact own_types hr hu2 e2 b hb hub
theorem RunS.did (h : RunS w0 w R base g gv cM gat N O m vm us v X) (hp : MdlPost base g gv cM m' us w w') : ∃ vm', RunS w0 w' R base g gv cM gat N O m' vm' us v X := by
  obtain ⟨vm', hm, bt⟩ := hp
  have hnS : ∀ k, k < base → ¬ MdlS g us k := fun k hk e => by have := h.mdl.low e; omega
  exact ⟨vm', bt.bk h.res (hnS R h.nums), hm, bt.own h.at_ (h.kind h.at_ (by decide) (by decide)), bt.own h.log (h.kind h.log (by decide) (by decide)), h.old.trans (bt.below (B := R) (by have := h.res.lt; omega) (fun x hx => by have := h.mdl.low hx; have := h.nums; omega)), h.nums⟩
theorem RunS.push (h : RunS w0 w R base g gv cM gat N O m vm us v X) (ho : w'.ownsRow (R + 1) 66 4 v' (X.length + 1) (stps X ++ stps [s])) (hg : w.grownBy w' v.ownBlock) : RunS w0 w' R base g gv cM gat N O m vm us v' (X ++ [s]) :=
  ⟨h.res.grown hg (fun e => by have := h.log.lt R e.symm; omega), h.mdl.kept h.log hg (by decide) (by decide) (by decide) (by decide), h.at_.kept hg (own_sep fun b hb e => own_types h.at_ h.log (by decide) b hb e),
   by rw [List.length_append, stps_append]; exact ho, h.old.trans (grown_below h.log hg (by have := h.res.lt; omega) (by omega)), h.nums⟩
/-- And the order that it goes by, in a row of its own. -/
structure RunO (w0 w : World) (R base g gv cM gat N : Nat) (O : List Int) (m : Mac) (vm : Value) (us : List Value) (v : Value) (X : List Stp) (vo : Value) (OO : List Int) : Prop where
  run : RunS w0 w R base g gv cM gat N O m vm us v X
  ord : w.ownsRow (R + 1) 2 1 vo OO.length (OO.map (Value.int .i64))
  ne : vo.ownBlock ≠ some gat
variable {vo : Value} {OO : List Int}
theorem RunO.below (h : RunO w0 w R base g gv cM gat N O m vm us v X vo OO) (hb : Below w.heap.size w w') : RunO w0 w' R base g gv cM gat N O m vm us v X vo OO := ⟨h.run.below hb, own_below h.ord hb (Nat.le_refl _), h.ne⟩
theorem RunO.next (h : RunO w0 w R base g gv cM gat N O m vm us v X vo OO) (i : Nat) : RunO w0 (w.setCell ⟨gat, i, none⟩ (.int .i64 (((cntO O (i : Int) : Nat) : Int) + 1))) R base g gv cM gat N (O ++ [(i : Int)]) m vm us v X vo OO :=
  ⟨h.run.next i, h.ord.kept (grown_set w gat i _) (own_sep fun _ hb e => h.ne (hb.trans e.symm)), h.ne⟩
theorem RunO.did (h : RunO w0 w R base g gv cM gat N O m vm us v X vo OO) (hp : MdlPost base g gv cM m' us w w') : ∃ vm', RunO w0 w' R base g gv cM gat N O m' vm' us v X vo OO := by
  obtain ⟨vm', h2⟩ := h.run.did hp
  obtain ⟨_, _, bt⟩ := hp
  exact ⟨vm', h2, bt.own h.ord (h.run.kind h.ord (by decide) (by decide)), h.ne⟩
theorem RunO.push (h : RunO w0 w R base g gv cM gat N O m vm us v X vo OO) (ho : w'.ownsRow (R + 1) 66 4 v' (X.length + 1) (stps X ++ stps [s])) (hg : w.grownBy w' v.ownBlock) : RunO w0 w' R base g gv cM gat N O m vm us v' (X ++ [s]) vo OO :=
  ⟨h.run.push ho hg, h.ord.kept hg (own_sep fun b hb e => own_types h.ord h.run.log (by decide) b hb e), h.ne⟩
end
end Go.Proofs.YtnnfkmjhaljplaaGreat
namespace Go.Proofs.YtnnfkmjhaljplaaGreat
open Go.RowKit
/-- What a run tells. -/
def RunPost (r : List Stp × Mac) (w : World) (e : Ending) (w' : World) : Prop :=
  ∃ B cb A c A' c' us, e = .returned (.tuple #[.slice B r.1.length cb, macV A r.2.cs.length c A' r.2.mem.length c']) ∧ w'.ownsRow w.heap.size 66 4 (.slice B r.1.length cb) r.1.length (stps r.1) ∧ OwnMac w' w.heap.size (.slice A r.2.cs.length c) (.slice A' r.2.mem.length c') r.2 us ∧ Below w.heap.size w w'
theorem RunPost.apart {w' : World} {base : Nat} {S : List Stp} {M : Mac} {v A A' : Value} {us : List Value} (hl : w'.ownsRow base 66 4 v S.length (stps S)) (om : OwnMac w' base A A' M us) : ∀ b, v.ownBlock = some b → A.ownBlock ≠ some b ∧ A'.ownBlock ≠ some b ∧ ∀ u ∈ us, u.ownBlock ≠ some b := fun b hb =>
  ⟨own_types hl om.cs.row (by decide) b hb, own_types hl om.mem (by decide) b hb, fun u hu => by
    obtain ⟨i, hi⟩ := List.getElem?_of_mem hu
    obtain ⟨_, h1, _⟩ := om.cs.at_ hi
    exact own_types hl h1 (by decide) b hb⟩
set_option maxRecDepth 100000 in
set_option maxHeartbeats 6400000 in
theorem l7Run_any (t : List (List Ev)) (Ln : Nat) (picks : List Int) (A Ap : Option Addr) (c cp : Nat) (w : World) (hg : pgF t = 0) (hLn : 1 ≤ Ln ∧ Ln ≤ 4) (hpk : picks.length ≤ 150) (h : RdT w w.heap.size A t) (hp : Rd .i64 w w.heap.size Ap picks) :
    Calls Tryz.prog 20 #[.slice A t.length c, .int .i64 Ln, .slice Ap picks.length cp] w (RunPost (runL (newM t.length Ln) (logO t (ordF t picks))) w) := by
  unfold RunPost
  obtain ⟨⟨ht1, ht4⟩, hall⟩ := pgF_zero hg
  have htr := pgF_tr hg
  have hall8 : ∀ l ∈ t, l.length ≤ 8 := fun l hl => (hall l hl).1
  obtain ⟨S, M, hSM⟩ : ∃ S M, runL (newM t.length Ln) (logO t (ordF t picks)) = (S, M) := ⟨_, _, rfl⟩
  rw [hSM]
  have HSM := hide hSM
  clear hSM
  obtain ⟨i1, hi1, hy0, hy1, hy2⟩ := info_parts info_i64
  obtain ⟨i0, hi0, hz0, hz1, hz2⟩ := info_parts info_step
  obtain ⟨W, hW⟩ : ∃ W, W = w.alloc (Obj.cells #[.slice none 0 0, .slice none 0 0] 35) := ⟨_, rfl⟩
  have k1 : Bk W w.heap.size #[.slice none 0 0, .slice none 0 0] 35 := by rw [hW]; exact Bk.new _ _ _
  have B0 : Below w.heap.size w W := by rw [hW]; exact (Below.refl _ _).alloc (Nat.le_refl _) _
  have zW : W.heap.size = w.heap.size + 1 := by rw [hW]; simp
  have HW := hide hW
  clear hW
  obtain ⟨R, hR⟩ : ∃ R, R = w.heap.size := ⟨_, rfl⟩
  have HR := hide hR
  have NW := hide (l7New_any t.length Ln W ht4 (by omega))
  have hall9 := hide hall
  have SO := hide (fun W A c hl hp => l6Order_any t picks A Ap c cp W ht1 ht4 hall8 hpk hl hp)
  have SL := hide (fun W h => l7Len_any t A c W (by omega) h)
  have HOK := hide (ordF_ok t picks)
  obtain ⟨O, hO⟩ : ∃ O, O = ordF t picks := ⟨_, rfl⟩
  rw [← hO] at HOK SO HSM
  have hO32 : O.length ≤ 32 := by
    have hF := logF_logO (picks := picks) htr
    have h2 := (logF_zero hF).2.1
    rw [logO_length, ← hO] at h2
    exact h2
  obtain ⟨m0, hm0⟩ : ∃ m0, m0 = newM t.length Ln := ⟨_, rfl⟩
  have G0 : GoodM t.length Ln m0 := by rw [hm0]; exact new_good (by omega)
  have hops : ∀ s ∈ logO t O, (0 ≤ s.c ∧ s.c < (t.length : Int)) ∧ opF s.e = 0 := fun s hs => by
    obtain ⟨a, l2, hl2, he⟩ := logO_mem HOK.out hs
    exact ⟨a, (hall l2 hl2).2 _ he⟩
  have hmem : ∀ s k, s ∈ logO t (O.take k) → s ∈ logO t O := fun s k hs => by
    rw [logO_takes] at hs
    exact List.mem_of_mem_take hs
  have hrun := fun k => run_ok (n := t.length) (L := Ln) (logO t (O.take k)) m0 (fun _ => 0) [] G0 (fun s hs => hops s (hmem s k hs)) (fun a => by rw [hm0]; exact new_has _ _ a) (by rw [hm0]; exact new_src _ _)
  have hlen : ∀ k, (runL m0 (logO t (O.take k))).2.mem.length ≤ 32 := fun k => by
    obtain ⟨_, g2, g3, _⟩ := hrun k
    have h1 := rise_len _ (stoS [] (logO t (O.take k))) g2.ris g3.1
    have h2 := stoS_len (logO t (O.take k)) []
    rw [logO_length, List.length_take] at h2
    simp only [List.length_nil] at h2
    omega
  have HRUN := hide hrun
  have HLEN := hide hlen
  have HOPS := hide hops
  rw [← hm0] at NW HSM
  have HM0 := hide hm0
  have hm0n : m0.cs.length = t.length := G0.shp.1
  have hm0l : m0.mem.length = 0 := by rw [hm0]; rfl
  clear hm0 hops hmem hrun hlen hO hall hg htr
  go_enter Tryz.func20, Tryz.ntmps20
  go_wp2_with fail
  rw [← HW.out]
  refine NW.out.mono ?_
  rintro e w1 ⟨A1, c1, us1, rfl, om, b1⟩
  have k2 := k1.kept b1
  have B1 := B0.trans (b1.mono B0.size)
  have z1 := b1.size
  rw [← hm0n] at om
  obtain ⟨gv, cg, cur, hA1, hgb, hcur⟩ := own_open om.cs.row (by omega)
  clear hcur
  simp only [Value.slice.injEq, true_and] at hA1
  obtain ⟨rfl, rfl⟩ := hA1
  have kx := Bk.new w1 #[.slice (some ⟨gv, 0, none⟩) m0.cs.length c1, .slice none 0 0] 35
  have M1 : Mdl (w1.alloc (Obj.cells #[.slice (some ⟨gv, 0, none⟩) m0.cs.length c1, .slice none 0 0] 35)) W.heap.size w1.heap.size gv c1 m0 (.slice none 0 0) us1 := by
    refine ⟨kx, om.alloc _, z1, ?_, fun e => (by cases e), fun u hu e => ?_⟩
    · have := (om.cs.row.lt gv rfl).2; omega
    · have := own_boundLine om.cs u hu _ e; omega
  replace k2 := k2.alloc (Obj.cells #[.slice (some ⟨gv, 0, none⟩) m0.cs.length c1, .slice none 0 0] 35)
  have B2 := B1.alloc B1.size (Obj.cells #[.slice (some ⟨gv, 0, none⟩) m0.cs.length c1, .slice none 0 0] 35)
  rw [hm0n] at M1 k2 B2
  obtain ⟨X1, hX1⟩ : ∃ X1, X1 = w1.alloc (Obj.cells #[.slice (some ⟨gv, 0, none⟩) t.length c1, .slice none 0 0] 35) := ⟨_, rfl⟩
  rw [← hX1] at M1 k2 B2
  obtain ⟨g, hgg⟩ : ∃ g, g = w1.heap.size := ⟨_, rfl⟩
  rw [← hgg] at M1
  have zX1 : g < X1.heap.size := by rw [hX1, hgg]; simp
  obtain ⟨base, hbase⟩ : ∃ b, b = W.heap.size := ⟨_, rfl⟩
  rw [← hbase] at M1
  have HX1 := hide hX1
  have HGG := hide hgg
  have hRb : R < base := by omega
  have hgR : R < g := by omega
  have MD : (madeCells (Value.int .i64 0).cells (t.length * 1)).toList = atR t.length [] := by rw [atR_nil, made_i64]
  have hRX : R + 1 ≤ X1.heap.size := by omega
  rw [← hR] at k2 B2
  clear hX1 hgg hbase om kx b1 NW hR B0 B1 k1 hgb cur
  go_upto_region 2 with fail
  rw [← HX1.out, ← HGG.out]
  go_wp2_with (at_make; refine wpList_make_full _ rfl _ _ 29 rfl (R + 1) 2 i1 (.int .i64 0) 1 Tryz.underlying29 hi1 hy0 hy1 .i64 .i64 _ _ t.length rfl rfl rfl rfl (by rw [hy2]; omega) (by unfold maxLen; omega) hRX ?_; intro w4 hown hg4)
  rw [MD] at hown
  have b4 : Below X1.heap.size X1 w4 := (Below.refl _ _).grown hg4 (Nat.le_refl _) (by simp)
  have M4 := M1.below b4
  have k4 := k2.kept b4
  have B4 := B2.trans (b4.mono (by omega))
  obtain ⟨gat, hgat⟩ : ∃ g, g = X1.heap.size := ⟨_, rfl⟩
  rw [← hgat] at hown
  have hgl4 := (hown.lt gat rfl).2
  have HGAT := hide hgat
  have z4 := b4.size
  have rL : (w4.alloc (Obj.cells #[] 66)).ownsRow (R + 1) 66 4 (.slice (some ⟨w4.heap.size, 0, none⟩) 0 0) 0 [] := World.ownsRow_lit w4 #[] 0 (by omega) (by simp) rfl
  have e4 := (Below.refl w4.heap.size w4).alloc (Nat.le_refl _) (Obj.cells #[] 66)
  have RS0 : RunS w (w4.alloc (Obj.cells #[] 66)) R base g gv c1 gat t.length [] m0 (.slice none 0 0) us1 (.slice (some ⟨w4.heap.size, 0, none⟩) 0 0) [] := ⟨k4.kept e4, M4.below e4, hown.alloc _, rL, B4.trans (e4.mono (by omega)), hRb⟩
  have hz4' : R + 1 ≤ w4.heap.size := by omega
  clear hg4 b4 M1 M4 k2 k4 B2 B4 hown rL e4 MD hgat hRX
  rw [← HGAT.out]
  obtain ⟨X4, hX4⟩ : ∃ X4, X4 = w4.alloc (Obj.cells #[] 66) := ⟨_, rfl⟩
  rw [← hX4] at RS0
  have zX4 : w4.heap.size ≤ X4.heap.size := by rw [hX4]; simp
  have HX4 := hide hX4
  obtain ⟨gl, hgl⟩ : ∃ gl, gl = w4.heap.size := ⟨_, rfl⟩
  rw [← hgl] at RS0
  have HGL := hide hgl
  clear hX4 hgl
  rw [← HX4.out, ← HGL.out]
  have zR := RS0.res.lt
  have zRw : w.heap.size ≤ X4.heap.size := by have := HR.out; omega
  have BW : Below w.heap.size w X4 := by rw [← HR.out]; exact RS0.old
  have hR4 : RdT X4 X4.heap.size A t := ((h.below BW).more zRw).lt
  have hP4 : Rd .i64 X4 X4.heap.size Ap picks := ((hp.below BW).more zRw).lt
  clear BW zRw
  refine (SL.out X4 hR4).mono ?_
  rintro e w5 ⟨v1, rfl, o1⟩
  have hrow1 := o1.row
  have hb12 := o1.old
  obtain ⟨A5, c5, rfl⟩ := o1.shape
  have rd1 := Rd.of_own hrow1
  have RS1 := RS0.below hb12
  have hP5 := (hP4.below hb12).lt
  clear o1 hrow1 RS0 hR4 hP4 SL
  go_wp2_with fail
  have SO2 := SO.out w5 A5 c5 rd1 hP5
  rw [lensI_length]
  refine SO2.mono ?_
  rintro e w6 ⟨v2, rfl, o2⟩
  have hb23 := o2.old
  obtain ⟨A6, c6, rfl⟩ := o2.shape
  have rd2 := Rd.of_own o2.row
  have hOb := o2.row
  have RS2 := RS1.below hb23
  clear o2 SO2 SO RS1 hP5 rd1
  have z5 := hb12.size
  have hne : (Value.slice A6 O.length c6).ownBlock ≠ some gat := fun e => by
    have h1 := (hOb.lt gat e).1
    omega
  have RO : RunO w w6 R base g gv c1 gat t.length [] m0 (.slice none 0 0) us1 (.slice (some ⟨gl, 0, none⟩) 0 0) [] (.slice A6 O.length c6) O := ⟨RS2, own_mono hOb (by omega), hne⟩
  clear RS2 hOb rd2 hne hb23 hb12 z5 hz4' zW zX1 z1 z4 hRb hgR hm0l HX1 HGG HGAT HX4 HGL hm0n G0 zR hp
  go_wp2_with fail
  rw [← HR.out]
  go_loopw [10, 28] (fun lv i wr => ∃ (k : Nat) (vm : Value), k ≤ O.length ∧ i = .int .i64 k ∧ RunO w wr R base g gv c1 gat t.length (O.take k) (runL m0 (logO t (O.take k))).2 vm us1 lv (runL m0 (logO t (O.take k))).1 (.slice A6 O.length c6) O) (fun _ i _ => O.length - (intOf i).toNat)
  case atStart => exact ⟨0, _, Nat.zero_le _, rfl, RO⟩
  case round =>
    clear RO
    obtain ⟨k, vm, hk, rfl, hs⟩ := hrel
    by_cases hlt : k < O.length
    · obtain ⟨p, hpt, hp, hcp⟩ := ord_at HOK.out hlt
      have GI := (HRUN.out k).2.1
      have hl39 := HLEN.out k
      have hXl : (runL m0 (logO t (O.take k))).1.length ≤ 40 := by rw [run_len, logO_length, List.length_take]; omega
      obtain ⟨P, hP⟩ : ∃ P, P = O.take k := ⟨_, rfl⟩
      rw [← hP] at hs hcp GI hl39 hXl
      have HT0 := hide (show P ++ [(p : Int)] = O.take (k + 1) by rw [hP, List.take_succ_eq_append_getElem hlt, hp])
      obtain ⟨mI, hmI⟩ : ∃ mI, mI = (runL m0 (logO t P)).2 := ⟨_, rfl⟩
      obtain ⟨XI, hXI⟩ : ∃ XI, XI = (runL m0 (logO t P)).1 := ⟨_, rfl⟩
      rw [← hmI] at GI hl39
      rw [← hmI, ← hXI] at hs
      rw [← hXI] at hXl
      obtain ⟨b2, off2, rfl, hbb2, hx⟩ := (Rd.of_own (k := .i64) hs.ord).get hlt
      rw [hp] at hx
      obtain ⟨j, hj⟩ : ∃ j, j = cntO P (p : Int) := ⟨_, rfl⟩
      rw [← hj] at hcp
      have hpl := List.getElem_mem hpt
      have h8 := (hall9.out _ hpl).1
      obtain ⟨x, hxx⟩ : ∃ x, x = t[p][j] := ⟨_, rfl⟩
      have hox : opF x = 0 := by rw [hxx]; exact (hall9.out _ hpl).2 _ (List.getElem_mem hcp)
      have hX : evAtO t (p : Int) (cntO P (p : Int)) = x := by rw [← hj, hxx]; exact evAtO_get t p j hpt hcp
      obtain ⟨mJ, hmJ⟩ : ∃ mJ, mJ = (doM mI p x).1 := ⟨_, rfl⟩
      obtain ⟨vJ, hvJ⟩ : ∃ vJ, vJ = (doM mI p x).2 := ⟨_, rfl⟩
      have HSTEP := hide (show runL m0 (logO t (O.take (k + 1))) = (XI ++ [⟨(p : Int), ⟨x.k, x.a, vJ⟩⟩], mJ) by
        rw [← HT0.out, logO_snoc, runL_snoc, hX, ← hmI, ← hXI]
        simp only [Int.toNat_natCast]
        rw [hmJ, hvJ])
      have HMV := hide (And.intro hmJ hvJ)
      clear hmJ hvJ
      obtain ⟨bk, off, a, d, hA, hbb, hcc, hle, hdm, hre⟩ := h.get hpt
      obtain ⟨eb, eo, ha, hebb, _, _, _⟩ := hre.get hcp
      have AC : ∀ w', Below w.heap.size w w' → w'.cell? ⟨gat, p, none⟩ = some (Value.int .i64 (j : Int)) → w'.cell? ⟨bk, off + p, none⟩ = some (Value.slice a t[p].length d) ∧ w'.cell? ⟨gat, p, none⟩ = some (Value.int .i64 (j : Int)) ∧ w'.cell? ⟨eb, eo + j * 3, none⟩ = some (Value.int .i64 x.k) ∧ w'.cell? ⟨eb, eo + j * 3 + 1, none⟩ = some (Value.int .i64 x.a) ∧ w'.cell? ⟨eb, eo + j * 3 + 2, none⟩ = some (Value.int .i64 x.v) := fun w' hb' hg' => by
        obtain ⟨bk', off', a', d', hA', _, hcc', _, _, hre'⟩ := (h.below hb').get hpt
        rw [hA] at hA'
        simp only [Option.some.injEq, Addr.mk.injEq] at hA'
        obtain ⟨rfl, rfl, _⟩ := hA'
        have e1 := (hb'.cell (p := ⟨bk, off + p, none⟩) hbb).trans hcc
        obtain ⟨eb', eo', ha', _, g0, g1, g2⟩ := (hre.below hb').get hcp
        rw [ha] at ha'
        simp only [Option.some.injEq, Addr.mk.injEq] at ha'
        obtain ⟨rfl, rfl, _⟩ := ha'
        rw [hxx]
        exact ⟨e1, hg', g0, g1, g2⟩
      obtain ⟨n, hn⟩ : ∃ n, n = t[p].length := ⟨_, rfl⟩
      rw [← hn] at hcp h8 hle AC
      rw [← HR.out] at AC
      have CJ : ∀ (w' : World) (vm : Value) (v : Value) (m : Mac) (X : List Stp), RunO w w' R base g gv c1 gat t.length P m vm us1 v X (.slice (some ⟨b2, off2, none⟩) O.length c6) O → w'.cell? ⟨gat, p, none⟩ = some (Value.int .i64 (j : Int)) ∧ w'.frozen? ⟨gat, p, none⟩ = false := fun w' vm v m X h9 => by
        have h10 := h9.run.cell hpt
        rw [← hj] at h10
        exact h10
      have HAC := hide AC
      have HCJ := hide CJ
      obtain ⟨D, dd, rfl⟩ := own_shape hs.run.log
      have HJ := hide hj
      have hA1 : decide (n ≤ j) = false := decide_eq_false (by omega)
      have hA2 : ¬ n ≤ j := by omega
      have hA3 : ¬ t.length ≤ p := by omega
      have hA4 : (p : Int) < (t.length : Int) := by omega
      have hA5 : (j : Int) < (n : Int) := by omega
      have hj8 : j ≤ 8 := by omega
      have HGI := hide GI
      have HOX := hide hox
      have HL39 := hide hl39
      have HXL := hide hXl
      have HS0 := hide hs
      subst hA ha
      clear hn hxx hj AC CJ hre hcc hebb hbb hP hmI hXI hX hp hs GI hox hl39 hXl hpl
      go_wp2_with fail
      clear hx
      have hsd := HS0.out.below (Below.refl _ _).drew
      have a0 := HAC.out _ hsd.run.old (HCJ.out _ _ _ _ _ hsd).1
      obtain ⟨V, hV⟩ : ∃ V, V = wr.drew.alloc (Obj.cells #[.int .i64 0, .int .i64 0, .int .i64 0] 84) := ⟨_, rfl⟩
      obtain ⟨pb, hpb⟩ : ∃ x, x = wr.drew.heap.size := ⟨_, rfl⟩
      have kp : Bk V pb #[.int .i64 0, .int .i64 0, .int .i64 0] 84 := by rw [hV, hpb]; exact Bk.new _ _ _
      have bV : Below wr.drew.heap.size wr.drew V := by rw [hV]; exact (Below.refl _ _).alloc (Nat.le_refl _) _
      have sV := hsd.below bV
      have aV := HAC.out V sV.run.old (HCJ.out _ _ _ _ _ sV).1
      obtain ⟨V3, hV3⟩ : ∃ V3, V3 = ((V.setCell ⟨pb, 0, none⟩ (.int .i64 x.k)).setCell ⟨pb, 1, none⟩ (.int .i64 x.a)).setCell ⟨pb, 2, none⟩ (.int .i64 x.v) := ⟨_, rfl⟩
      have kp3 : Bk V3 pb #[.int .i64 x.k, .int .i64 x.a, .int .i64 x.v] 84 := by rw [hV3]; exact ((kp.set_ 0 _).set_ 1 _).set_ 2 _
      have b3 : Below wr.drew.heap.size wr.drew V3 := by rw [hV3]; exact ((bV.setCell (Nat.le_of_eq hpb.symm) _).setCell (Nat.le_of_eq hpb.symm) _).setCell (Nat.le_of_eq hpb.symm) _
      have s3 := hsd.below b3
      have a3 := HAC.out V3 s3.run.old (HCJ.out _ _ _ _ _ s3).1
      have q0 := (kp.cell 0).trans (rfl : _ = some (Value.int .i64 0))
      have q1 := (kp.cell 1).trans (rfl : _ = some (Value.int .i64 0))
      have q2 := (kp.cell 2).trans (rfl : _ = some (Value.int .i64 0))
      have f0 := kp.frozen 0
      have f1 := kp.frozen 1
      have f2 := kp.frozen 2
      have hpS : ¬ MdlS g us1 pb := fun e => by have := hsd.run.mdl.low e; omega
      have hpg : pb ≠ gat := fun e => by have := (hsd.run.at_.lt gat rfl).2; omega
      have HV := hide hV
      have HPB := hide hpb
      have HV3 := hide hV3
      have HK3 := hide kp3
      have HS3 := hide s3
      clear hV hpb hV3 kp kp3 bV b3 sV s3 hsd
      refine wp_region_F 10 (fun w' => w'.cell? ⟨bk, off + p, none⟩ = some (Value.slice (some ⟨eb, eo, none⟩) n d) ∧ w'.cell? ⟨gat, p, none⟩ = some (Value.int .i64 (j : Int)) ∧ w'.cell? ⟨eb, eo + j * 3, none⟩ = some (Value.int .i64 x.k) ∧ w'.cell? ⟨eb, eo + j * 3 + 1, none⟩ = some (Value.int .i64 x.a) ∧ w'.cell? ⟨eb, eo + j * 3 + 2, none⟩ = some (Value.int .i64 x.v)) (fun w' => True) (by kernel_rfl) ⟨a0, trivial⟩ (fun hHeld => ?_)
      try simp only [Act.put, List.setIfInBounds_toArray, List.set_cons_zero, List.set_cons_succ]
      clear a0
      generalize wr.drew = Z at *
      refine wpAnyF_take (i := 0) (v := ?_) (by (simp only [List.getElem?_toArray, List.getElem?_cons_zero]; rfl)) (by kernel_rfl) (by kernel_rfl) (by kernel_rfl) (by decide) (by exact fun _ _ _ h => h) ⟨hHeld.1, .inr hHeld.2⟩ (Or.inl ⟨by rfl, ?_⟩) ?_
      rotate_left
      · (intro w' _; go_simp <;> with_reducible rfl)
      try simp only [Act.put, List.setIfInBounds_toArray, List.set_cons_zero, List.set_cons_succ]
      refine wpAnyF_take (i := 1) (v := ?_) (by (simp only [List.getElem?_toArray, List.getElem?_cons_succ, List.getElem?_cons_zero]; rfl)) (by kernel_rfl) (by kernel_rfl) (by kernel_rfl) (by decide) (by exact fun _ _ _ h => h) ⟨hHeld.1, .inr hHeld.2⟩ (Or.inl ⟨by rfl, ?_⟩) ?_
      rotate_left
      · (intro w' _; go_simp <;> with_reducible rfl)
      try simp only [Act.put, List.setIfInBounds_toArray, List.set_cons_zero, List.set_cons_succ]
      refine wpAnyF_take (i := 2) (v := ?_) (by (simp only [List.getElem?_toArray, List.getElem?_cons_succ, List.getElem?_cons_zero]; rfl)) (by kernel_rfl) (by kernel_rfl) (by kernel_rfl) (by decide) (by exact fun _ _ _ h => h) ⟨hHeld.1, .inr hHeld.2⟩ (Or.inl ⟨by rfl, ?_⟩) ?_
      rotate_left
      · (intro w' _; go_simp <;> with_reducible rfl)
      try simp only [Act.put, List.setIfInBounds_toArray, List.set_cons_zero, List.set_cons_succ]
      refine wpAnyF_keep (i := 3) (v := ?_) (by (simp only [List.getElem?_toArray, List.getElem?_cons_succ, List.getElem?_cons_zero]; rfl)) (by kernel_rfl) (by kernel_rfl) (by kernel_rfl) (by decide) (by exact fun _ _ _ h => h) ⟨hHeld.1, .inr hHeld.2⟩ (Or.inl ⟨by rfl, ?_⟩) ?_
      rotate_left
      · (intro w' hSw; (try dsimp only at hSw); obtain ⟨hSa0, hSa1, hSa2, hSa3, hSa4⟩ := hSw; go_simp <;> with_reducible rfl)
      try simp only [Act.put, List.setIfInBounds_toArray, List.set_cons_zero, List.set_cons_succ]
      refine wpAnyF_take (i := 4) (v := ?_) (by (simp only [List.getElem?_toArray, List.getElem?_cons_succ, List.getElem?_cons_zero]; rfl)) (by kernel_rfl) (by kernel_rfl) (by kernel_rfl) (by decide) (by exact fun _ _ _ h => h) ⟨hHeld.1, .inr hHeld.2⟩ (Or.inl ⟨by rfl, ?_⟩) ?_
      rotate_left
      · (intro w' _; go_simp <;> with_reducible rfl)
      try simp only [Act.put, List.setIfInBounds_toArray, List.set_cons_zero, List.set_cons_succ]
      refine wpAnyF_take (i := 5) (v := ?_) (by (simp only [List.getElem?_toArray, List.getElem?_cons_succ, List.getElem?_cons_zero]; rfl)) (by kernel_rfl) (by kernel_rfl) (by kernel_rfl) (by decide) (by exact fun _ _ _ h => h) ⟨hHeld.1, .inr hHeld.2⟩ (Or.inl ⟨by rfl, ?_⟩) ?_
      rotate_left
      · (intro w' _; go_simp <;> with_reducible rfl)
      try simp only [Act.put, List.setIfInBounds_toArray, List.set_cons_zero, List.set_cons_succ]
      refine wpAnyF_take (i := 6) (v := ?_) (by (simp only [List.getElem?_toArray, List.getElem?_cons_succ, List.getElem?_cons_zero]; rfl)) (by kernel_rfl) (by kernel_rfl) (by kernel_rfl) (by decide) (by exact fun _ _ _ h => h) ⟨hHeld.1, .inr hHeld.2⟩ (Or.inl ⟨by rfl, ?_⟩) ?_
      rotate_left
      · (intro w' _; go_simp <;> with_reducible rfl)
      try simp only [Act.put, List.setIfInBounds_toArray, List.set_cons_zero, List.set_cons_succ]
      refine wpAnyF_keep (i := 7) (v := ?_) (by (simp only [List.getElem?_toArray, List.getElem?_cons_succ, List.getElem?_cons_zero]; rfl)) (by kernel_rfl) (by kernel_rfl) (by kernel_rfl) (by decide) (by exact fun _ _ _ h => h) ⟨hHeld.1, .inr hHeld.2⟩ (Or.inl ⟨by rfl, ?_⟩) ?_
      rotate_left
      · (intro w' hSw; (try dsimp only at hSw); obtain ⟨hSa0, hSa1, hSa2, hSa3, hSa4⟩ := hSw; go_simp <;> with_reducible rfl)
      try simp only [Act.put, List.setIfInBounds_toArray, List.set_cons_zero, List.set_cons_succ]
      refine wpAnyF_take (i := 8) (v := ?_) (by (simp only [List.getElem?_toArray, List.getElem?_cons_succ, List.getElem?_cons_zero]; rfl)) (by kernel_rfl) (by kernel_rfl) (by kernel_rfl) (by decide) (by exact fun _ _ _ h => h) ⟨hHeld.1, .inr hHeld.2⟩ (Or.inl ⟨by rfl, ?_⟩) ?_
      rotate_left
      · (intro w' _; go_simp <;> with_reducible rfl)
      try simp only [Act.put, List.setIfInBounds_toArray, List.set_cons_zero, List.set_cons_succ]
      refine wpAnyF_keep (i := 9) (v := ?_) (by (simp only [List.getElem?_toArray, List.getElem?_cons_succ, List.getElem?_cons_zero]; rfl)) (by kernel_rfl) (by kernel_rfl) (by kernel_rfl) (by decide) (by exact fun _ _ _ h => h) ⟨hHeld.1, .inr hHeld.2⟩ (Or.inl ⟨by rfl, ?_⟩) ?_
      rotate_left
      · (intro w' hSw; (try dsimp only at hSw); obtain ⟨hSa0, hSa1, hSa2, hSa3, hSa4⟩ := hSw; go_simp <;> with_reducible rfl)
      try simp only [Act.put, List.setIfInBounds_toArray, List.set_cons_zero, List.set_cons_succ]
      refine wpAnyF_ready (rs := [10]) (by kernel_rfl) (by simp) ?_
      refine AllReadyF.last (by (simp only [List.getElem?_toArray, List.getElem?_cons_succ, List.getElem?_cons_zero]; rfl)) (by kernel_rfl) (fun K hK => ?_) AllReadyF.nil
      go_simp
      rw [← HV.out, ← HPB.out]
      refine hK.out _ _ aV ?_
      clear hK K
      try simp only [Act.put, List.setIfInBounds_toArray, List.set_cons_zero, List.set_cons_succ]
      refine wpAnyF_ready (rs := [11]) (by kernel_rfl) (by simp) ?_
      refine AllReadyF.last (by (simp only [List.getElem?_toArray, List.getElem?_cons_succ, List.getElem?_cons_zero]; rfl)) (by kernel_rfl) (fun K hK => ?_) AllReadyF.nil
      go_simp
      rw [← HV3.out]
      refine hK.out _ _ a3 ?_
      clear hK K
      try simp only [Act.put, List.setIfInBounds_toArray, List.set_cons_zero, List.set_cons_succ]
      refine wpAnyF_done (by kernel_rfl) ?_ _
      have c3 := a3.2.1
      have f3 := (HCJ.out _ _ _ _ _ HS3.out).2
      have s4 := HS3.out.next p
      rw [← HJ.out] at s4
      have kp4 := HK3.out.far (p := ⟨gat, p, none⟩) (by simp only; omega) (.int .i64 ((j : Int) + 1))
      have DO := l7Do_any s4.run.mdl HGI.out hpt HOX.out (Nat.le_trans HL39.out (by decide)) kp4 hpS
      rw [← HMV.out.1, ← HMV.out.2] at DO
      have HDO := hide DO
      have HS4 := hide s4
      have HK4 := hide kp4
      clear a3 aV q0 q1 q2 f0 f1 f2 DO s4 kp4
      go_wp2_with fail
      refine HDO.out.mono ?_
      rintro e w7 ⟨rfl, hp7⟩
      obtain ⟨vm7, s7⟩ := HS4.out.did hp7
      obtain ⟨_, _, bt7⟩ := hp7
      have k7 := bt7.bk HK4.out hpS
      have d0 := (k7.cell 0).trans (rfl : _ = some (Value.int .i64 x.k))
      have d1 := (k7.cell 1).trans (rfl : _ = some (Value.int .i64 x.a))
      have s8 := s7.below ((Below.refl w7.heap.size w7).alloc (Nat.le_refl _) (Obj.cells #[.int .i64 (p : Int), .int .i64 x.k, .int .i64 x.a, .int .i64 vJ] 66))
      have hBl := RdP.one_new w7 ⟨(p : Int), ⟨x.k, x.a, vJ⟩⟩ 66
      have ho8 := s8.run.log
      have hR7 : R + 1 ≤ w7.heap.size := s7.run.res.lt
      have hX40 := HXL.out
      have HS8 := hide s8
      clear bt7 k7 c3 f3 s7 s8 HDO HS4 HK4 HS3 HK3 HGI HOX HL39
      go_wp2_with (at_builtin; refine wpList_append_rp _ rfl (.tmp 50) (.tmp 59) 24 rfl (R + 1) 66 i0 (.agg #[.int .i64 0, .int .i64 0, .int .i64 0, .int .i64 0]) 32 Tryz.underlying24 hi0 hz0 hz1 hz2 rfl _ _ _ rfl ho8 (some ⟨w7.heap.size, 0, none⟩) [⟨(p : Int), ⟨x.k, x.a, vJ⟩⟩] 1 (w7.heap.size + 1) rfl hBl (by unfold maxLen; simp only [List.length_cons, List.length_nil]; omega) (by simp only [List.length_cons, List.length_nil]; omega) (by simp; omega) ?_; intro v9 w9 o9 g9 hat9; have s9 := hide (HS8.out.push o9 g9); clear o9 g9 hat9 ho8 hBl)
      go_roundw
      case rel => exact ⟨k + 1, vm7, by omega, by go_num, by rw [HSTEP.out, ← HT0.out]; exact s9.out⟩
      case measure => simp [intOf]; omega
    · obtain rfl : k = O.length := by omega
      rw [List.take_length, HSM.out] at hs
      dsimp only at hs
      obtain ⟨D, dd, rfl⟩ := own_shape hs.run.log
      obtain ⟨AM, cM, rfl⟩ := hs.run.mdl.shape
      have hgR : R < g := by have := hs.run.mdl.gb; have := hs.run.nums; omega
      have c0 := (hs.run.mdl.box.cell 0).trans (rfl : _ = some (Value.slice (some ⟨gv, 0, none⟩) M.cs.length c1))
      have c1' := (hs.run.mdl.box.cell 1).trans (rfl : _ = some (Value.slice AM M.mem.length cM))
      have HS9 := hide hs
      clear hs
      go_wp2_with fail
      have a0 : wr.drew.cell? ⟨g, 0, none⟩ = some (Value.slice (some ⟨gv, 0, none⟩) M.cs.length c1) := c0
      have a1 : wr.drew.cell? ⟨g, 1, none⟩ = some (Value.slice AM M.mem.length cM) := c1'
      have S2 := HS9.out.below (Below.refl wr.heap.size wr).drew
      clear c0 c1'
      have z0 := (S2.run.res.cell 0).trans (rfl : _ = some (Value.slice none 0 0))
      have z1 := (S2.run.res.cell 1).trans (rfl : _ = some (Value.slice none 0 0))
      have f0 := S2.run.res.frozen 0
      have f1 := S2.run.res.frozen 1
      have KP : ∀ (j : Nat) {u : Value}, wr.drew.cell? ⟨g, j, none⟩ = some u → ∀ {x0 x1 : Value}, ((wr.drew.setCell ⟨R, 0, none⟩ x0).setCell ⟨R, 1, none⟩ x1).cell? ⟨g, j, none⟩ = some u := fun j u hc x0 x1 => by
        rw [World.cell?_setCell_far _ ⟨R, 1, none⟩ ⟨g, j, none⟩ _ (by simp only; omega), World.cell?_setCell_far _ ⟨R, 0, none⟩ ⟨g, j, none⟩ _ (by simp only; omega)]
        exact hc
      have HKP := hide (And.intro (KP 0 a0 (x0 := .slice (some ⟨gv, 0, none⟩) M.cs.length c1) (x1 := .slice AM M.mem.length cM)) (KP 1 a1 (x0 := .slice (some ⟨gv, 0, none⟩) M.cs.length c1) (x1 := .slice AM M.mem.length cM)))
      clear KP
      refine wp_region_F 3 (fun w' => w'.cell? ⟨g, 0, none⟩ = some (Value.slice (some ⟨gv, 0, none⟩) M.cs.length c1) ∧ w'.cell? ⟨g, 1, none⟩ = some (Value.slice AM M.mem.length cM)) (fun w' => True) (by kernel_rfl) ⟨⟨a0, a1⟩, trivial⟩ (fun hHeld => ?_)
      try simp only [Act.put, List.setIfInBounds_toArray, List.set_cons_zero, List.set_cons_succ]
      clear a0 a1
      generalize wr.drew = Z at *
      refine wpAnyF_take (i := 0) (v := ?_) (by (simp only [List.getElem?_toArray, List.getElem?_cons_zero]; rfl)) (by kernel_rfl) (by kernel_rfl) (by kernel_rfl) (by decide) (by exact fun _ _ _ h => h) ⟨hHeld.1, .inr hHeld.2⟩ (Or.inl ⟨by rfl, ?_⟩) ?_
      rotate_left
      · (intro w' _; go_simp <;> with_reducible rfl)
      try simp only [Act.put, List.setIfInBounds_toArray, List.set_cons_zero, List.set_cons_succ]
      refine wpAnyF_keep (i := 1) (v := ?_) (by (simp only [List.getElem?_toArray, List.getElem?_cons_succ, List.getElem?_cons_zero]; rfl)) (by kernel_rfl) (by kernel_rfl) (by kernel_rfl) (by decide) (by exact fun _ _ _ h => h) ⟨hHeld.1, .inr hHeld.2⟩ (Or.inl ⟨by rfl, ?_⟩) ?_
      rotate_left
      · (intro w' hSw; (try dsimp only at hSw); obtain ⟨hSa0, hSa1⟩ := hSw; go_simp <;> with_reducible rfl)
      try simp only [Act.put, List.setIfInBounds_toArray, List.set_cons_zero, List.set_cons_succ]
      refine wpAnyF_take (i := 2) (v := ?_) (by (simp only [List.getElem?_toArray, List.getElem?_cons_succ, List.getElem?_cons_zero]; rfl)) (by kernel_rfl) (by kernel_rfl) (by kernel_rfl) (by decide) (by exact fun _ _ _ h => h) ⟨hHeld.1, .inr hHeld.2⟩ (Or.inl ⟨by rfl, ?_⟩) ?_
      rotate_left
      · (intro w' _; go_simp <;> with_reducible rfl)
      try simp only [Act.put, List.setIfInBounds_toArray, List.set_cons_zero, List.set_cons_succ]
      refine wpAnyF_ready (rs := [3]) (by kernel_rfl) (by simp) ?_
      refine AllReadyF.last (by (simp only [List.getElem?_toArray, List.getElem?_cons_succ, List.getElem?_cons_zero]; rfl)) (by kernel_rfl) (fun K hK => ?_) AllReadyF.nil
      go_simp
      refine hK.out _ _ ⟨HKP.out.1, HKP.out.2⟩ ?_
      clear hK K
      try simp only [Act.put, List.setIfInBounds_toArray, List.set_cons_zero, List.set_cons_succ]
      refine wpAnyF_done (by kernel_rfl) ?_ _
      go_wp2
      refine bodyPost_ret (v := .tuple #[.slice D S.length dd, macV (some ⟨gv, 0, none⟩) M.cs.length c1 AM M.mem.length cM]) (by simp [results, Tryz.results20, go_sem, z0, z1]) rfl ?_
      have hRR := HR.out
      have hO := S2.run.old
      have hRb := S2.run.nums
      refine ⟨D, dd, some ⟨gv, 0, none⟩, c1, AM, cM, us1, rfl, ?_, ?_, ?_⟩
      · exact own_mono (ownsRow_setCell_below (ownsRow_setCell_below S2.run.log (a := ⟨R, 0, none⟩) (Nat.lt_succ_self R) _) (a := ⟨R, 1, none⟩) (Nat.lt_succ_self R) _) (by omega)
      · exact OwnMac.mono ((S2.run.mdl.own.set_ (by omega) _).set_ (by omega) _) (by omega)
      · rw [hRR] at hO ⊢
        exact (hO.setCell (Nat.le_refl _) _).setCell (Nat.le_refl _) _
end Go.Proofs.YtnnfkmjhaljplaaGreat
namespace Go.Proofs.YtnnfkmjhaljplaaGreat
open Go.RowKit
set_option maxRecDepth 100000 in
set_option maxHeartbeats 3200000 in
theorem specSim_any (t : List (List Ev)) (L : Int) (picks : List Int) (A Ap : Option Addr) (c cp : Nat) (w : World) (hm : t.length ≤ maxLen) (hpm : picks.length ≤ maxLen) (h : RdT w w.heap.size A t) (hp : Rd .i64 w w.heap.size Ap picks) :
    Calls Tryz.prog 10 #[.slice A t.length c, .int .i64 L, .slice Ap picks.length cp] w (SimPost (simR t L picks) w) := by
  unfold SimPost
  obtain ⟨W, hW⟩ : ∃ W, W = w.alloc (Obj.cells #[.int .i64 0, .slice none 0 0, .slice none 0 0, .slice none 0 0] 37) := ⟨_, rfl⟩
  have k1 : Bk W w.heap.size #[.int .i64 0, .slice none 0 0, .slice none 0 0, .slice none 0 0] 37 := by rw [hW]; exact Bk.new _ _ _
  have B0 : Below w.heap.size w W := by rw [hW]; exact (Below.refl _ _).alloc (Nat.le_refl _) _
  have HW := hide hW
  clear hW
  have hset : ∀ V : World, Below w.heap.size w V → ∀ (x0 x1 x2 x3 : Value), Below w.heap.size w ((((V.setCell ⟨w.heap.size, 0, none⟩ x0).setCell ⟨w.heap.size, 1, none⟩ x1).setCell ⟨w.heap.size, 2, none⟩ x2).setCell ⟨w.heap.size, 3, none⟩ x3) := fun V hb x0 x1 x2 x3 => (((hb.setCell (Nat.le_refl _) x0).setCell (Nat.le_refl _) x1).setCell (Nat.le_refl _) x2).setCell (Nat.le_refl _) x3
  have HSET := hide hset
  have AS := hide (l7Asked_any t L picks A Ap c cp W hm hpm (h.below B0).lt)
  clear hset
  by_cases hC : simC t L picks = 0
  · rw [simR_ok hC]
    rw [hC] at AS
    obtain ⟨hg, hL, hpk⟩ := simC_zero hC
    obtain ⟨Ln, rfl⟩ := Int.eq_ofNat_of_zero_le (show 0 ≤ L by omega)
    have RN := hide (fun W' hT hP => l7Run_any t Ln picks A Ap c cp W' hg (by omega) (by omega) hT hP)
    unfold RunPost at RN
    have hsim : runL (newM t.length Ln) (logO t (ordF t picks)) = simL t (Ln : Int) picks := by unfold simL; rw [Int.toNat_natCast]
    rw [hsim] at RN
    obtain ⟨S, M, hSM⟩ : ∃ S M, simL t (Ln : Int) picks = (S, M) := ⟨_, _, rfl⟩
    rw [hSM] at RN ⊢
    clear hsim hSM hC
    dsimp only at RN ⊢
    go_enter Tryz.func10, Tryz.ntmps10
    go_wp2_with fail
    rw [← HW.out]
    refine AS.out.mono ?_
    rintro e w1 ⟨rfl, b1⟩
    replace k1 := k1.kept b1
    have B1 := B0.trans (b1.mono B0.size)
    have R2 := RN.out w1 (((h.below B1).more B1.size).lt) (((hp.below B1).more B1.size).lt)
    have zk := k1.lt
    clear AS b1 B0 RN
    have HR2 := hide R2
    clear R2
    go_wp2_with fail
    refine HR2.out.mono ?_
    rintro e w2 ⟨B, cb, A1, c1, Ap1, cp1, us, rfl, ol, om, b2⟩
    clear HR2
    replace k1 := k1.kept b2
    have B2 := B1.trans (b2.mono B1.size)
    have e2 := (Below.refl w2.heap.size w2).alloc (Nat.le_refl _) (Obj.cells #[.slice A1 M.cs.length c1, .slice Ap1 M.mem.length cp1] 35)
    have k9 := Bk.new w2 #[.slice A1 M.cs.length c1, .slice Ap1 M.mem.length cp1] 35
    replace k1 := k1.kept e2
    have B3 := B2.trans (e2.mono B2.size)
    have ol2 := own_below ol e2 (Nat.le_refl _)
    have om2 := om.below e2
    obtain ⟨X9, hX9⟩ : ∃ X9, X9 = w2.alloc (Obj.cells #[.slice A1 M.cs.length c1, .slice Ap1 M.mem.length cp1] 35) := ⟨_, rfl⟩
    obtain ⟨b9, hb9⟩ : ∃ b9, b9 = w2.heap.size := ⟨_, rfl⟩
    have hq9 : w.heap.size ≠ b9 := by have := B2.size; have := b2.size; omega
    rw [← hX9] at k1 B3 ol2 om2 k9
    rw [← hb9] at k9
    have HX9 := hide hX9
    have HB9 := hide hb9
    clear hX9 hb9 ol om e2 b2 B2 B1
    go_upto_region 5 with fail
    rw [← HX9.out, ← HB9.out]
    have d0 := (k9.cell 0).trans (rfl : _ = some (Value.slice A1 M.cs.length c1))
    have d1 := (k9.cell 1).trans (rfl : _ = some (Value.slice Ap1 M.mem.length cp1))
    have z0 := (k1.cell 0).trans (rfl : _ = some (Value.int .i64 0))
    have z1 := (k1.cell 1).trans (rfl : _ = some (Value.slice none 0 0))
    have z2 := (k1.cell 2).trans (rfl : _ = some (Value.slice none 0 0))
    have z3 := (k1.cell 3).trans (rfl : _ = some (Value.slice none 0 0))
    have f0 := k1.frozen 0
    have f1 := k1.frozen 1
    have f2 := k1.frozen 2
    have f3 := k1.frozen 3
    have hB3 := HSET.out _ B3
    have HB3 := hide hB3
    have HOL := hide ol2
    have HOM := hide om2
    clear hB3 B3 ol2 om2 k1 k9
    go_wp2
    refine bodyPost_ret (v := siV 0 B S.length cb A1 M.cs.length c1 Ap1 M.mem.length cp1) (by simp [results, Tryz.results10, go_sem, z0, z1, z2, z3]) rfl ?_
    have own4 : ∀ (e : TypeId) (s n : Nat) (v : Value) (xs : List Value), X9.ownsRow w1.heap.size e s v n xs → ∀ {x0 x1 x2 x3 : Value}, ((((X9.setCell ⟨w.heap.size, 0, none⟩ x0).setCell ⟨w.heap.size, 1, none⟩ x1).setCell ⟨w.heap.size, 2, none⟩ x2).setCell ⟨w.heap.size, 3, none⟩ x3).ownsRow w.heap.size e s v n xs := fun e s n v xs hh x0 x1 x2 x3 =>
      own_mono (ownsRow_setCell_below (ownsRow_setCell_below (ownsRow_setCell_below (ownsRow_setCell_below hh (a := ⟨w.heap.size, 0, none⟩) zk _) (a := ⟨w.heap.size, 1, none⟩) zk _) (a := ⟨w.heap.size, 2, none⟩) zk _) (a := ⟨w.heap.size, 3, none⟩) zk _) (by omega)
    refine ⟨B, cb, A1, c1, Ap1, cp1, us, rfl, own4 _ _ _ _ _ HOL.out, ?_, RunPost.apart HOL.out HOM.out, HB3.out _ _ _ _⟩
    exact OwnMac.mono ((((HOM.out.set_ zk _).set_ zk _).set_ zk _).set_ zk _) (by omega)
  · rw [simR_no hC]
    obtain ⟨F, hF⟩ : ∃ F, F = simC t L picks := ⟨_, rfl⟩
    rw [← hF] at AS hC ⊢
    have g0 : (F != 0) = true := bne_iff_ne.2 hC
    have g1 : (F == 0) = false := beq_eq_false_iff_ne.2 hC
    clear hF hC
    dsimp only
    go_enter Tryz.func10, Tryz.ntmps10
    go_wp2_with fail
    rw [← HW.out]
    refine AS.out.mono ?_
    rintro e w1 ⟨rfl, b1⟩
    replace k1 := k1.kept b1
    have B1 := B0.trans (b1.mono B0.size)
    have z0 := (k1.cell 0).trans (rfl : _ = some (Value.int .i64 0))
    have z1 := (k1.cell 1).trans (rfl : _ = some (Value.slice none 0 0))
    have z2 := (k1.cell 2).trans (rfl : _ = some (Value.slice none 0 0))
    have z3 := (k1.cell 3).trans (rfl : _ = some (Value.slice none 0 0))
    have f0 := k1.frozen 0
    have f1 := k1.frozen 1
    have f2 := k1.frozen 2
    have f3 := k1.frozen 3
    have HBB := hide (HSET.out _ B1)
    clear AS b1 B0 k1 B1
    go_wp2
    refine bodyPost_ret (v := siV F none 0 0 none 0 0 none 0 0) (by simp [results, Tryz.results10, go_sem, z0, z1, z2, z3]) rfl ?_
    first
      | exact ⟨none, 0, none, 0, none, 0, [], rfl, World.ownsRow_nil _ _ _ _, OwnMac.nil_ _ _, fun b e => (by cases e), HBB.out _ _ _ _⟩
      | exact ⟨none, 0, none, 0, none, 0, rfl, World.ownsRow_nil _ _ _ _, [], OwnMac.nil_ _ _, HBB.out _ _ _ _⟩
      | exact ⟨none, 0, none, 0, none, 0, rfl, World.ownsRow_nil _ _ _ _, ⟨[], OwnMac.nil_ _ _⟩, HBB.out _ _ _ _⟩
      | exact ⟨none, 0, none, 0, none, 0, rfl, World.ownsRow_nil _ _ _ _, ⟨[], OwnMac.nil_ _ _, fun b e => (by cases e)⟩, HBB.out _ _ _ _⟩
end Go.Proofs.YtnnfkmjhaljplaaGreat
