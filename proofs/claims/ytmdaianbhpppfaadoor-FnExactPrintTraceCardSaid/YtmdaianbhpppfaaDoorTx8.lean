/- A trace's text: l5Print, PrintTrace of the document. -/
import Derived.Test.YtmdaianbhpppfaaDoorTx7
import Derived.Test.YtmdaianbhpppfaaDoorTrF
namespace Go.Proofs.YtmdaianbhpppfaaDoor
open Go.RowKit

/-- The line ahead of a core; the first line. -/
def coL (i : Nat) : List Int := [99, 111, 114, 101, 32] ++ digL 10 i ++ [10]
def trL (n : Nat) : List Int := [116, 114, 97, 99, 101, 32] ++ digL 10 n ++ [10]
theorem prC_snoc : ∀ (l : List Ev) (e : Ev), prC (l ++ [e]) = prC l ++ (txE e ++ [10])
  | [], e => by simp [prC]
  | x :: l, e => by rw [List.cons_append, prC, prC_snoc l e, prC]; simp
theorem prS_snoc : ∀ (r : List (List Ev)) (i : Nat) (l : List Ev), prS i (r ++ [l]) = prS i r ++ (coL (i + r.length) ++ prC l)
  | [], i, l => by simp [prS, coL]
  | x :: r, i, l => by
    rw [List.cons_append, prS, prS_snoc r (i + 1) l, prS]
    simp only [List.length_cons, List.append_assoc]
    rw [show i + 1 + r.length = i + (r.length + 1) by omega]
theorem prL_eq (t : List (List Ev)) : prL t = trL t.length ++ prS 0 t := by unfold prL trL; simp
theorem prC_take {l : List Ev} {k : Nat} (h : k < l.length) : prC (l.take (k + 1)) = prC (l.take k) ++ (txE l[k] ++ [10]) := by
  rw [List.take_succ_eq_append_getElem h, prC_snoc]
theorem prS_take {t : List (List Ev)} {k : Nat} (h : k < t.length) : prS 0 (t.take (k + 1)) = prS 0 (t.take k) ++ (coL k ++ prC t[k]) := by
  rw [List.take_succ_eq_append_getElem h, prS_snoc]
  simp [show min k t.length = k by omega]
theorem prC_len : ∀ {l : List Ev}, (∀ e ∈ l, evF e = 0) → (prC l).length ≤ 17 * l.length
  | [], _ => by simp [prC]
  | e :: l, h => by
    have h1 := txE_length (h e (List.mem_cons_self ..))
    have h2 := prC_len (l := l) (fun x hx => h x (List.mem_cons_of_mem _ hx))
    unfold prC
    simp only [List.length_append, List.length_cons, List.length_nil]
    omega
theorem stF_8 {l : List Ev} (h : stF l = 0) : l.length ≤ 8 := (stF_zero h).1
theorem prC_few {l : List Ev} (h : stF l = 0) (k : Nat) : (prC (l.take k)).length ≤ 136 := by
  have h1 := prC_len (l := l.take k) (fun e he => evs_right h e (List.mem_of_mem_take he))
  have h2 := stF_8 h
  have h3 : (l.take k).length ≤ 8 := by rw [List.length_take]; omega
  omega
theorem dig_one {n : Nat} (h : n < 10) : (digL 10 n).length = 1 := by rw [digL_few h]; rfl
theorem coL_len {n : Nat} (h : n < 10) : (coL n).length = 7 := by unfold coL; simp [dig_one h]
theorem trL_len {n : Nat} (h : n < 10) : (trL n).length = 8 := by unfold trL; simp [dig_one h]
theorem prS_len : ∀ {r : List (List Ev)} {i : Nat}, (∀ l ∈ r, stF l = 0) → i + r.length ≤ 9 → (prS i r).length ≤ 143 * r.length
  | [], i, _, _ => by simp [prS]
  | l :: r, i, h, hi => by
    simp only [List.length_cons] at hi
    have h1 := prC_few (h l (List.mem_cons_self ..)) l.length
    rw [List.take_length] at h1
    have h2 := prS_len (r := r) (i := i + 1) (fun x hx => h x (List.mem_cons_of_mem _ hx)) (by omega)
    have h3 := dig_one (n := i) (by omega)
    unfold prS
    simp only [List.length_append, List.length_cons, List.length_nil, h3]
    omega
theorem prS_few {t : List (List Ev)} (h : trF t = 0) (k : Nat) : (prS 0 (t.take k)).length ≤ 572 := by
  obtain ⟨_, h4, hall⟩ := trT_zero h
  have h3 : (t.take k).length ≤ 4 := by rw [List.length_take]; omega
  have := prS_len (r := t.take k) (i := 0) (fun l hl => hall l (List.mem_of_mem_take hl)) (by omega)
  omega
theorem prL_len {t : List (List Ev)} (h : trF t = 0) : (prL t).length ≤ 580 := by
  obtain ⟨_, h4, hall⟩ := trT_zero h
  have h1 := prS_few h t.length
  rw [List.take_length] at h1
  rw [prL_eq, List.length_append, trL_len (by omega)]
  omega
theorem coL_B8 (n : Nat) : B8 (coL n) := by
  unfold coL
  refine B8.append (B8.append (fun x hx => ?_) (digL_B8 (by omega) (by omega) _)) (fun x hx => ?_)
  · simp only [List.mem_cons, List.not_mem_nil, or_false] at hx; omega
  · simp only [List.mem_cons, List.not_mem_nil, or_false] at hx; omega
theorem trL_B8 (n : Nat) : B8 (trL n) := by
  unfold trL
  refine B8.append (B8.append (fun x hx => ?_) (digL_B8 (by omega) (by omega) _)) (fun x hx => ?_)
  · simp only [List.mem_cons, List.not_mem_nil, or_false] at hx; omega
  · simp only [List.mem_cons, List.not_mem_nil, or_false] at hx; omega
theorem prC_B8 : ∀ (l : List Ev), B8 (prC l)
  | [] => fun x hx => by simp [prC] at hx
  | e :: l => by
    unfold prC
    exact (txE_B8 e).append (B8.append (fun x hx => by simp only [List.mem_cons, List.not_mem_nil, or_false] at hx; omega) (prC_B8 l))
theorem prS_B8 : ∀ (r : List (List Ev)) (i : Nat), B8 (prS i r)
  | [], i => fun x hx => by simp [prS] at hx
  | l :: r, i => by
    unfold prS
    refine B8.append (fun x hx => ?_) ((digL_B8 (by omega) (by omega) _).append (B8.append (fun x hx => ?_) ((prC_B8 l).append (prS_B8 r (i + 1)))))
    · simp only [List.mem_cons, List.not_mem_nil, or_false] at hx; omega
    · simp only [List.mem_cons, List.not_mem_nil, or_false] at hx; omega
theorem prL_B8 (t : List (List Ev)) : B8 (prL t) := by rw [prL_eq]; exact (trL_B8 _).append (prS_B8 _ _)

set_option maxRecDepth 100000 in
set_option maxHeartbeats 3200000 in
theorem l5Print_any (t : List (List Ev)) (A : Option Addr) (c : Nat) (w : World) (hF : trF t = 0) (h : RdT w w.heap.size A t) :
    Calls Tryd.prog 32 #[.slice A t.length c] w fun e w' => e = .returned (.string (strOfNums (prL t))) ∧ Below w.heap.size w w' := by
  obtain ⟨h1, h4, hall⟩ := trT_zero hF
  have DG := hide (fun (n : Nat) w (hn : n < 10) => l1Digits_any (n + 1) n w (by omega) (by omega))
  have hd1 := dig_one (n := t.length) (by omega)
  have p0 := fun w => run_sadd (P := Tryd.prog) (l := [116, 114, 97, 99, 101, 32]) (m := digL 10 t.length) (by simp only [List.length_cons, List.length_nil]; omega) w
  have p1 := fun w => run_sadd (P := Tryd.prog) (l := [116, 114, 97, 99, 101, 32] ++ digL 10 t.length) (m := [10]) (by simp only [List.length_append, List.length_cons, List.length_nil]; omega) w
  have q0 : ∀ w, (Op.stringOp .add ({ data := #[116, 114, 97, 99, 101, 32] } : ByteArray) (strOfNums (digL 10 t.length))).run Tryd.prog w = .ok (.string (strOfNums ([116, 114, 97, 99, 101, 32] ++ digL 10 t.length))) w := p0
  have q1 : ∀ w, (Op.stringOp .add (strOfNums ([116, 114, 97, 99, 101, 32] ++ digL 10 t.length)) ({ data := #[10] } : ByteArray)).run Tryd.prog w = .ok (.string (strOfNums (trL t.length))) w := p1
  have HE := hide (prL_eq t)
  have hlt := trL_len (n := t.length) (by omega)
  have dg0 := fun w => DG.out t.length w (by omega)
  generalize trL t.length = T at q1 HE hlt
  generalize [116, 114, 97, 99, 101, 32] ++ digL 10 t.length = X1 at q0 q1
  generalize digL 10 t.length = D at q0 dg0
  clear p0 p1 hd1
  go_enter Tryd.func32, Tryd.ntmps32
  go_wp2_with fail
  refine (dg0 _).mono ?_
  rintro e w1 ⟨rfl, b1⟩
  go_wp2
  clear q0 q1 dg0
  go_loopw [3, 4, 5, 13] (fun o _ _ i wr => ∃ k : Nat, k ≤ t.length ∧ i = .int .i64 k ∧ o = .string (strOfNums (T ++ prS 0 (t.take k))) ∧ Below w.heap.size w wr) (fun _ _ _ i _ => t.length - (intOf i).toNat)
  case atStart => exact ⟨0, Nat.zero_le _, rfl, by simp [prS], b1⟩
  case round =>
    obtain ⟨k, hk, rfl, rfl, hb⟩ := hrel
    by_cases hlt2 : k < t.length
    · obtain ⟨b, off, a, d, rfl, hbb, hc0, hle, hcm, hr⟩ := (h.below hb).get hlt2
      have hlS := prS_few hF k
      have HP := hide (prS_take hlt2)
      have hst := hall _ (List.getElem_mem hlt2)
      have hlC := fun m => prC_few hst m
      have h8 := stF_8 hst
      have hev := fun m (hm : m < t[k].length) => evs_right hst t[k][m] (List.getElem_mem hm)
      have hco := coL_len (n := k) (by omega)
      have hd1 := dig_one (n := k) (by omega)
      have p0 := fun w => run_sadd (P := Tryd.prog) (l := T ++ prS 0 (t.take k)) (m := [99, 111, 114, 101, 32]) (by simp only [List.length_append, List.length_cons, List.length_nil]; omega) w
      have p1 := fun w => run_sadd (P := Tryd.prog) (l := T ++ prS 0 (t.take k) ++ [99, 111, 114, 101, 32]) (m := digL 10 k) (by simp only [List.length_append, List.length_cons, List.length_nil]; omega) w
      have p2 := fun w => run_sadd (P := Tryd.prog) (l := T ++ prS 0 (t.take k) ++ [99, 111, 114, 101, 32] ++ digL 10 k) (m := [10]) (by simp only [List.length_append, List.length_cons, List.length_nil]; omega) w
      have e2 : T ++ prS 0 (t.take k) ++ [99, 111, 114, 101, 32] ++ digL 10 k ++ [10] = T ++ prS 0 (t.take k) ++ coL k := by unfold coL; simp
      rw [e2] at p2
      have hX : (T ++ prS 0 (t.take k) ++ coL k).length ≤ 600 := by simp only [List.length_append]; omega
      have HX := hide (show T ++ prS 0 (t.take k) ++ coL k ++ prC t[k] = T ++ prS 0 (t.take (k + 1)) by rw [HP.out]; simp)
      have dg0 := fun w => DG.out k w (by omega)
      generalize T ++ prS 0 (t.take k) ++ coL k = X at p2 hX HX
      generalize T ++ prS 0 (t.take k) ++ [99, 111, 114, 101, 32] ++ digL 10 k = X2 at p1 p2
      generalize T ++ prS 0 (t.take k) ++ [99, 111, 114, 101, 32] = X3 at p0 p1
      generalize T ++ prS 0 (t.take k) = X4 at p0 ⊢
      generalize digL 10 k = D at p1 dg0
      have q0 : ∀ w, (Op.stringOp .add (strOfNums X4) ({ data := #[99, 111, 114, 101, 32] } : ByteArray)).run Tryd.prog w = .ok (.string (strOfNums X3)) w := p0
      have q2 : ∀ w, (Op.stringOp .add (strOfNums X2) ({ data := #[10] } : ByteArray)).run Tryd.prog w = .ok (.string (strOfNums X)) w := p2
      clear p0 p2 e2 hco hd1 hlS hlt HP
      go_wp2_with fail
      refine (dg0 _).mono ?_
      rintro e w2 ⟨rfl, b2⟩
      have hb2 := hb.trans (b2.mono hb.size)
      have hc2 := (b2.cell (p := ⟨b, off + k, none⟩) (block_lt_of_cell hc0)).trans hc0
      go_wp2
      clear q0 q2 p1 dg0
      have hr2 := hr.below (b2.mono hb.size)
      clear hc0 hr b2 hb
      go_loopw [3, 5, 27] (fun o _ j wr => ∃ m : Nat, m ≤ t[k].length ∧ j = .int .i64 m ∧ o = .string (strOfNums (X ++ prC (t[k].take m))) ∧ Below w.heap.size w2 wr) (fun _ _ j _ => t[k].length - (intOf j).toNat)
      case atStart => exact ⟨0, Nat.zero_le _, rfl, by simp [prC], Below.refl _ _⟩
      case round =>
        obtain ⟨m, hm, rfl, rfl, hb3⟩ := hrel
        have hc3 := (hb3.cell (p := ⟨b, off + k, none⟩) hbb).trans hc2
        by_cases hlt3 : m < t[k].length
        · obtain ⟨b3, off3, rfl, hbb3, d0, d1, d2⟩ := (hr2.below hb3).get hlt3
          have hE := hev m hlt3
          have hll := txE_length hE
          have hlm := hlC m
          have HP := hide (prC_take hlt3)
          have EV := hide (l5Event_any t[k][m] b3 (off3 + m * 3) wr hE (block_lt_of_cell d0) d0 d1 d2)
          have p0 := fun w => run_sadd (P := Tryd.prog) (l := X ++ prC (t[k].take m)) (m := txE t[k][m]) (by simp only [List.length_append]; omega) w
          have p1 := fun w => run_sadd (P := Tryd.prog) (l := X ++ prC (t[k].take m) ++ txE t[k][m]) (m := [10]) (by simp only [List.length_append, List.length_cons, List.length_nil]; omega) w
          have HY := hide (show X ++ prC (t[k].take m) ++ txE t[k][m] ++ [10] = X ++ prC (t[k].take (m + 1)) by rw [HP.out]; simp)
          generalize X ++ prC (t[k].take m) ++ txE t[k][m] ++ [10] = Y at p1 HY
          generalize X ++ prC (t[k].take m) ++ txE t[k][m] = Y2 at p0 p1
          generalize X ++ prC (t[k].take m) = Y3 at p0 ⊢
          generalize txE t[k][m] = Y4 at p0 EV
          have q1 : ∀ w, (Op.stringOp .add (strOfNums Y2) ({ data := #[10] } : ByteArray)).run Tryd.prog w = .ok (.string (strOfNums Y)) w := p1
          clear p1 HP hE hll hlm d0 d1 d2
          go_wp2_with fail
          refine EV.out.mono ?_
          rintro e w4 ⟨rfl, b4⟩
          have hb4 := hb3.trans (b4.mono (by have := hb3.size; have := hb2.size; omega))
          go_wp2
          go_roundw
          case rel => exact ⟨m + 1, by omega, by go_num, by rw [← HY.out], hb4⟩
          case measure => simp [intOf]; omega
        · have HN := hide (show t[k].take m = t[k] from List.take_of_length_le (by omega))
          have hb4 := hb2.trans hb3
          go_wp2
          go_roundw
          case rel => exact ⟨k + 1, by omega, by go_num, by rw [← HX.out, HN.out], hb4⟩
          case measure => simp [intOf]; omega
    · have HN := hide (show T ++ prS 0 (t.take k) = prL t by rw [HE.out, List.take_of_length_le (by omega)])
      go_wp2
      go_ret
      exact ⟨congrArg (fun l => Ending.returned (Value.string (strOfNums l))) HN.out, hb⟩

/-- A trace's text, as an answer. -/
def ptL (t : List (List Ev)) : List Int := if trF t = 0 then prL t else []
theorem PrintTrace_spec (t : List (List Ev)) (A : Option Addr) (c : Nat) (w : World) (hm : t.length ≤ maxLen) (h : RdT w w.heap.size A t) :
    Calls Tryd.prog 14 #[.slice A t.length c] w fun e w' => e = .returned (txtV (trF t) (ptL t)) ∧ Below w.heap.size w w' := by
  have hC := hide (fun w h => specTrF_any t A c w hm h)
  unfold ptL
  obtain ⟨o, ho⟩ : ∃ o, o = Obj.cells #[.int .i64 0, .string { data := #[] }] 23 := ⟨_, rfl⟩
  have h0 : RdT (w.alloc o) (w.alloc o).heap.size A t := (h.alloc (Nat.le_refl _) o).lt
  by_cases hF : trF t = 0
  · rw [if_pos hF]
    have hP := hide (fun w h => l5Print_any t A c w hF h)
    rw [hF] at hC ⊢
    generalize prL t = L at hP ⊢
    go_enter Tryd.func14, Tryd.ntmps14
    go_wp2_with fail
    rw [← ho]
    refine (hC.out _ h0).mono ?_
    rintro e w1 ⟨rfl, b1⟩
    go_wp2_with fail
    refine (hP.out _ (h0.below b1).lt).mono ?_
    rintro e w2 ⟨rfl, b2⟩
    have hb := b1.trans (b2.mono b1.size)
    rw [ho] at hb
    have r0 := res_cell hb 0
    have r1 := res_cell hb 1
    have r2 := res_frozen hb 0
    have r3 := res_frozen hb 1
    have hbw := below_alloc hb
    clear hb b1 b2 ho
    go_wp2
    refine bodyPost_ret (v := txtV 0 L) (by simp [results, Tryd.results14, go_sem, r0, r1]) rfl ?_
    exact ⟨rfl, (hbw.setCell (Nat.le_refl _) _).setCell (Nat.le_refl _) _⟩
  · rw [if_neg hF]
    obtain ⟨F, hFF⟩ : ∃ F, F = trF t := ⟨_, rfl⟩
    rw [← hFF] at hF hC ⊢
    have f0 : (F != 0) = true := bne_iff_ne.2 hF
    clear hF hFF
    go_enter Tryd.func14, Tryd.ntmps14
    go_wp2_with fail
    rw [← ho]
    refine (hC.out _ h0).mono ?_
    rintro e w1 ⟨rfl, hb⟩
    rw [ho] at hb
    have r0 := res_cell hb 0
    have r1 := res_cell hb 1
    have r2 := res_frozen hb 0
    have r3 := res_frozen hb 1
    have hbw := below_alloc hb
    clear hb ho
    go_wp2
    refine bodyPost_ret (v := txtV F []) (by simp [results, Tryd.results14, go_sem, r0, r1]; rfl) rfl ?_
    exact ⟨rfl, (hbw.setCell (Nat.le_refl _) _).setCell (Nat.le_refl _) _⟩
end Go.Proofs.YtmdaianbhpppfaaDoor
