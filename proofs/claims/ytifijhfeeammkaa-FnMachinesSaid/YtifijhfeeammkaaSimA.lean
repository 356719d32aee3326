/- What a simulation tells, and where the program stands in it. Plain lemmas. -/
import Derived.Test.YtifijhfeeammkaaGMcs
import Derived.Test.YtifijhfeeammkaaGBus
import Derived.Test.YtifijhfeeammkaaGNew
namespace Go.Proofs.Ytifijhfeeammkaa
open Go.RowKit

/-- What Simulate tells, as mathematics. -/
def simR (t : List (List Ev)) (L : Int) (picks : List Int) : Int × List Stp × Mac := if simC t L picks = 0 then (0, simL t L picks) else (simC t L picks, [], ⟨[], []⟩)
theorem simR_ok {t : List (List Ev)} {L : Int} {picks : List Int} (h : simC t L picks = 0) : simR t L picks = (0, simL t L picks) := if_pos h
theorem simR_no {t : List (List Ev)} {L : Int} {picks : List Int} (h : ¬ simC t L picks = 0) : simR t L picks = (simC t L picks, [], ⟨[], []⟩) := if_neg h
theorem simC_p {t : List (List Ev)} {L : Int} {picks : List Int} (h : ¬ pgF t = 0) : simC t L picks = pgF t := if_neg h
theorem simC_l {t : List (List Ev)} {L : Int} {picks : List Int} (h : pgF t = 0) (h2 : ¬ (1 ≤ L ∧ L ≤ 4)) : simC t L picks = 3 := by unfold simC; rw [if_pos h, if_neg h2]
theorem simC_k {t : List (List Ev)} {L : Int} {picks : List Int} (h : pgF t = 0) (h2 : 1 ≤ L ∧ L ≤ 4) (h3 : ¬ picks.length ≤ 100) : simC t L picks = 2 := by unfold simC; rw [if_pos h, if_pos h2, if_neg h3]
def SimPost (r : Int × List Stp × Mac) (w : World) (e : Ending) (w' : World) : Prop :=
  ∃ B cb A c A' c' us, e = .returned (siV r.1 B r.2.1.length cb A r.2.2.cs.length c A' r.2.2.mem.length c') ∧ w'.ownsRow w.heap.size 143 4 (.slice B r.2.1.length cb) r.2.1.length (stps r.2.1) ∧ OwnMac w' w.heap.size (.slice A r.2.2.cs.length c) (.slice A' r.2.2.mem.length c') r.2.2 us ∧
    (∀ b, (Value.slice B r.2.1.length cb).ownBlock = some b → (Value.slice A r.2.2.cs.length c).ownBlock ≠ some b ∧ (Value.slice A' r.2.2.mem.length c').ownBlock ≠ some b ∧ ∀ u ∈ us, u.ownBlock ≠ some b) ∧ Below w.heap.size w w'

theorem OwnMac.allB {w : World} {base : Nat} {v v' : Value} {m : Mac} {us : List Value} (h : OwnMac w base v v' m us) : ∀ u ∈ v :: v' :: us, ∀ b, u.ownBlock = some b → base ≤ b ∧ b < w.heap.size := fun u hu b hb => by
  rcases List.mem_cons.1 hu with rfl | hu
  · exact h.cs.row.lt b hb
  · rcases List.mem_cons.1 hu with rfl | hu
    · exact h.mem.lt b hb
    · obtain ⟨i, hi⟩ := List.getElem?_of_mem hu
      obtain ⟨_, h1, _⟩ := h.cs.at_ hi
      exact h1.lt b hb
theorem stps_setV (l : List Stp) (k : Nat) (v : Int) (hk : k < l.length) : (stps l).set (k * 4 + 3) (.int .i64 v) = stps (l.set k ⟨l[k].c, ⟨l[k].e.k, l[k].e.a, v⟩⟩) := by
  induction l generalizing k with
  | nil => simp at hk
  | cons y r ih =>
    rcases k with _ | k
    · rfl
    · have := ih k (by simpa using hk)
      rw [show (k + 1) * 4 + 3 = k * 4 + 3 + 1 + 1 + 1 + 1 by omega]
      simp only [stps, List.set_cons_succ, List.getElem_cons_succ]
      rw [this]
/-- The log when i ops are done. -/
def logI (m : Mac) (l : List Stp) (i : Nat) : List Stp := (runL m (l.take i)).1 ++ l.drop i
theorem logI_zero (m : Mac) (l : List Stp) : logI m l 0 = l := by simp [logI, runL]
theorem logI_all (m : Mac) (l : List Stp) : logI m l l.length = (runL m l).1 := by simp [logI]
theorem logI_length (m : Mac) (l : List Stp) {i : Nat} (hi : i ≤ l.length) : (logI m l i).length = l.length := by
  unfold logI
  rw [List.length_append, run_len, List.length_take, List.length_drop]
  omega
theorem logI_get (m : Mac) (l : List Stp) {i j : Nat} (hi : i ≤ j) (hj : j < l.length) (h : j < (logI m l i).length) : (logI m l i)[j] = l[j] := by
  have hl : (runL m (l.take i)).1.length = i := by rw [run_len, List.length_take]; omega
  have e : (logI m l i)[j]? = l[j]? := by
    unfold logI
    rw [List.getElem?_append_right (by omega), hl, List.getElem?_drop]
    congr 1
    omega
  rw [List.getElem?_eq_getElem h, List.getElem?_eq_getElem hj] at e
  exact Option.some.inj e
theorem take_st {l : List Stp} {i : Nat} (hi : i < l.length) : l.take (i + 1) = l.take i ++ [l[i]] := List.take_succ_eq_append_getElem hi
theorem logI_step (m : Mac) (l : List Stp) {i : Nat} (hi : i < l.length) : (logI m l i).set i ⟨l[i].c, ⟨l[i].e.k, l[i].e.a, (doM (runL m (l.take i)).2 l[i].c.toNat l[i].e).2⟩⟩ = logI m l (i + 1) := by
  have hl : (runL m (l.take i)).1.length = i := by rw [run_len, List.length_take]; omega
  unfold logI
  rw [take_st hi, runL_snoc, List.set_append_right _ _ (by omega), hl, Nat.sub_self, List.append_assoc]
  congr 1
  rw [List.drop_eq_getElem_cons hi]
  rfl
theorem mac_step (m : Mac) (l : List Stp) {i : Nat} (hi : i < l.length) : (runL m (l.take (i + 1))).2 = (doM (runL m (l.take i)).2 l[i].c.toNat l[i].e).1 := by rw [take_st hi, runL_snoc]

/-- Where the program stands in a simulation. -/
structure SimAt (w0 w : World) (q b9 b10 base1 base2 gv c pm : Nat) (LA : Option Addr) (cL n : Nat) (X : List Stp) (m : Mac) (vm : Value) (us : List Value) : Prop where
  res : Bk w q #[.int .i64 0, .slice none 0 0, .slice none 0 0, .slice none 0 0] 55
  box9 : Bk w b9 #[.int .i64 0, .slice LA n cL] 138
  box10 : Bk w b10 #[.slice (some ⟨gv, 0, none⟩) m.cs.length c, .pointer (some ⟨pm, 0, none⟩)] 102
  log : w.ownsRow base1 143 4 (.slice LA n cL) n (stps X)
  bus : Bus w base2 gv c pm m vm us
  nums : q < base1 ∧ b9 < base2 ∧ (∀ b, (Value.slice LA n cL).ownBlock = some b → b < b9) ∧ q < b9 ∧ base2 ≤ b10
  b10n : ¬ BusS pm vm us b10
  old : Below q w0 w
section
variable {w0 w w' : World} {q b9 b10 base1 base2 gv c pm cL n : Nat} {LA : Option Addr} {X : List Stp} {m m' : Mac} {vm vm' : Value} {us : List Value}
theorem SimAt.below (h : SimAt w0 w q b9 b10 base1 base2 gv c pm LA cL n X m vm us) (hb : Below w.heap.size w w') : SimAt w0 w' q b9 b10 base1 base2 gv c pm LA cL n X m vm us :=
  ⟨h.res.kept hb, h.box9.kept hb, h.box10.kept hb, own_below h.log hb (Nat.le_refl _), h.bus.below hb, h.nums, h.b10n, h.old.trans (hb.mono (by have := h.res.lt; omega))⟩
theorem SimAt.did (h : SimAt w0 w q b9 b10 base1 base2 gv c pm LA cL n X m vm us) (hb : Bus w' base2 gv c pm m' vm' us) (mv : Moved vm vm' w) (bt : But (BusS pm vm us) w w') (hl : m'.cs.length = m.cs.length) : SimAt w0 w' q b9 b10 base1 base2 gv c pm LA cL n X m' vm' us := by
  have hnS : ∀ k, k < base2 → ¬ BusS pm vm us k := fun k hk e => by have := h.bus.low e; omega
  obtain ⟨n1, n2, n3, n4, n5⟩ := h.nums
  refine ⟨bt.bk h.res (hnS q (by omega)), bt.bk h.box9 (hnS b9 (by omega)), by rw [hl]; exact bt.bk h.box10 h.b10n, bt.own h.log (fun b e => hnS b (by have := n3 b e; omega)), hb, ⟨n1, n2, n3, n4, n5⟩, fun e => ?_, h.old.trans (bt.below (B := q) (by have := h.res.lt; omega) (fun x hx => by have := h.bus.low hx; omega))⟩
  rcases BusS.moved mv e with e2 | e2
  · exact h.b10n e2
  · have := h.box10.lt; omega
theorem SimAt.put {bL i : Nat} (h : SimAt w0 w q b9 b10 base1 base2 gv c pm (some ⟨bL, 0, none⟩) cL n X m vm us) (hi : i < X.length) (v : Int) :
    SimAt w0 (w.setCell ⟨bL, i * 4 + 3, none⟩ (.int .i64 v)) q b9 b10 base1 base2 gv c pm (some ⟨bL, 0, none⟩) cL n (X.set i ⟨X[i].c, ⟨X[i].e.k, X[i].e.a, v⟩⟩) m vm us := by
  obtain ⟨n1, n2, n3, n4, n5⟩ := h.nums
  have hbl := n3 bL rfl
  have hlo := (h.log.lt bL rfl).1
  have hnS : ∀ k, k < base2 → ¬ BusS pm vm us k := fun k hk e => by have := h.bus.low e; omega
  have hS := h.log.stored (i * 4 + 3) (.int .i64 v)
  rw [stps_setV X i v hi] at hS
  refine ⟨h.res.far (p := ⟨bL, i * 4 + 3, none⟩) (by simp only; omega) _, h.box9.far (p := ⟨bL, i * 4 + 3, none⟩) (by simp only; omega) _, h.box10.far (p := ⟨bL, i * 4 + 3, none⟩) (by simp only; omega) _, hS.1, ?_, ⟨n1, n2, n3, n4, n5⟩, h.b10n, h.old.setCell (by simp only; omega) _⟩
  have hb : But (fun x => x = bL) w (w.setCell ⟨bL, i * 4 + 3, none⟩ (.int .i64 v)) := (But.refl (fun x => x = bL) _).set_ rfl _ _
  exact h.bus.but hb fun k e => by
    subst e
    refine ⟨hnS k (by omega), fun e2 => ?_⟩
    have := h.bus.gv_lt
    omega
end
end Go.Proofs.Ytifijhfeeammkaa
