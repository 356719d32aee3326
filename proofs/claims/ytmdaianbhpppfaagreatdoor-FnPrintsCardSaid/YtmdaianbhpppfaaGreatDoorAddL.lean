/- The contract of the program's addLine. -/
import Derived.Test.YtmdaianbhpppfaaGreatDoorAddE
import Derived.Test.YtmdaianbhpppfaaGreatDoorSplit
namespace Go.Proofs.YtmdaianbhpppfaaGreatDoor
open Go.RowKit

/-- The library's variable that a split looks up holds a number. -/
def ML (w : World) : Prop := ∃ m, w.cell? ⟨1, 0, none⟩ = some (.int .i64 m)
theorem ML.below {w w' : World} (h : ML w) (hb : Below w.heap.size w w') : ML w' := by
  obtain ⟨m, hm⟩ := h
  exact ⟨m, cell_kept hb hm⟩
theorem AddPost.from_ {base : Nat} {w w1 w' : World} {M : Option (List (List Ev))} {e : Ending} (h : AddPost base w1 M e w') (hb : Below base w w1) : AddPost base w M e w' := by
  rcases h with ⟨t, A, c, us, h1, h2, h3, h4⟩ | ⟨h1, h2, h4⟩
  · exact .inl ⟨t, A, c, us, h1, h2, h3, hb.trans h4⟩
  · exact .inr ⟨h1, h2, hb.trans h4⟩
theorem addM_core2 {t : List (List Ev)} {x : List Int} {rest : List (List Int)} (h : x = coreW) : addM t (x :: rest) = coreM t rest := by
  unfold addM coreM
  simp only [List.getD_cons_zero, List.getD_cons_succ, List.length_cons]
  rw [if_pos h]
  by_cases h1 : rest.length = 1 ∧ numL 10 6 (rest.getD 0 []) = t.length
  · rw [if_pos h1, if_pos ⟨by omega, h1.2⟩]
  · rw [if_neg h1, if_neg (fun h => h1 ⟨by omega, h.2⟩)]
theorem addM_ev2 {t : List (List Ev)} {x : List Int} {rest : List (List Int)} {kd : Int} (h : x = [119] ∧ kd = 1 ∨ x = [114] ∧ kd = 0) : addM t (x :: rest) = evM t kd rest := by
  have hx : ¬ x = coreW := by rcases h with ⟨rfl, _⟩ | ⟨rfl, _⟩ <;> (unfold coreW; simp)
  have hx2 : x = [119] ∨ x = [114] := by rcases h with ⟨h, _⟩ | ⟨h, _⟩; exact .inl h; exact .inr h
  have hk : (if x = [119] then (1 : Int) else 0) = kd := by rcases h with ⟨rfl, rfl⟩ | ⟨rfl, rfl⟩ <;> simp
  unfold addM evM lnE
  simp only [List.getD_cons_zero, List.getD_cons_succ, List.length_cons]
  rw [if_neg hx, if_pos hx2, hk]
  by_cases h1 : rest.length = 2 ∧ 0 < t.length ∧ 0 ≤ hexV (rest.getD 0 []) ∧ 0 ≤ numL 10 6 (rest.getD 1 [])
  · rw [if_pos h1, if_pos ⟨by omega, h1.2⟩]
  · rw [if_neg h1, if_neg (fun h => h1 ⟨by omega, h.2⟩)]
theorem addM_none2 {t : List (List Ev)} {x : List Int} {rest : List (List Int)} (h1 : ¬ x = coreW) (h2 : ¬ x = [119]) (h3 : ¬ x = [114]) : addM t (x :: rest) = none := by
  unfold addM
  simp only [List.getD_cons_zero]
  rw [if_neg h1, if_neg (by rintro (h | h); exact h2 h; exact h3 h)]
theorem addE_len (t : List (List Ev)) (e : Ev) : (addE t e).length = t.length := by unfold addE; rw [List.length_set]
theorem addM_few {t t' : List (List Ev)} {ws : List (List Int)} (h : addM t ws = some t') {m : Nat} (hm : t.length ≤ m) (hall : ∀ l ∈ t, l.length ≤ m) : t'.length ≤ m + 1 ∧ ∀ l ∈ t', l.length ≤ m + 1 := by
  unfold addM at h
  by_cases h1 : ws.getD 0 [] = coreW
  · rw [if_pos h1] at h
    split at h
    · cases h
      refine ⟨by simp; omega, fun l hl => ?_⟩
      rcases List.mem_append.1 hl with hl | hl
      · have := hall l hl; omega
      · simp at hl; rw [hl]; simp
    · cases h
  · rw [if_neg h1] at h
    split at h
    · split at h
      · cases h
        refine ⟨by rw [addE_len]; omega, fun l hl => ?_⟩
        rcases List.mem_or_eq_of_mem_set hl with hl | hl
        · have := hall l hl; omega
        · rw [hl, List.length_append]
          have : (t.getD (t.length - 1) []).length ≤ m := by
            rcases hg : t[t.length - 1]? with _ | x
            · rw [List.getD_eq_getElem?_getD, hg]; simp
            · rw [List.getD_eq_getElem?_getD, hg]
              exact hall x (List.mem_of_getElem? hg)
          simp only [List.length_cons, List.length_nil]
          omega
      · cases h
    · cases h
theorem RdS.new (w : World) (ls : List (List Int)) (T : TypeId) : RdS (w.alloc (.cells (sts ls).toArray T)) (w.heap.size + 1) (some ⟨w.heap.size, 0, none⟩) ls := fun _ =>
  ⟨w.heap.size, 0, rfl, Nat.lt_succ_self _, fun i hi => by
    rw [Nat.zero_add, (Bk.new w (sts ls).toArray T).cell i]
    simp only [List.getElem?_toArray]
    exact List.getElem?_eq_getElem hi⟩

set_option maxRecDepth 100000 in
set_option maxHeartbeats 1600000 in
theorem addLine_any (base : Nat) (t : List (List Ev)) (A : Option Addr) (c : Nat) (us : List Value) (l : List Int) (w : World) (hM : ML w) (hb : base ≤ w.heap.size) (ht : t.length ≤ 4000) (hall : ∀ l ∈ t, l.length ≤ 4000) (ho : OwnT w base (.slice A t.length c) t us) (b8 : B8 l) (hl : l.length ≤ 2000) :
    Calls Tryz.prog 59 #[.slice A t.length c, .string (strOfNums l)] w (AddPost base w (addM t (cutS 32 [] l))) := by
  have SP0 := fun hM => split_any l 32 w (by omega) (by omega) b8 hM
  have hB8 := cutS_B8 32 l [] b8 (fun x h => by simp at h)
  have hLen := cutS_len 32 l []
  have hCnt := cutS_count 32 l []
  obtain ⟨x, rest, hws⟩ : ∃ x rest, cutS 32 [] l = x :: rest := by
    cases h : cutS 32 [] l with
    | nil => exact absurd h (cutS_ne 32 l [])
    | cons x r => exact ⟨x, r, rfl⟩
  rw [hws] at SP0 hB8 hLen hCnt ⊢
  simp only [List.length_cons, List.length_nil, Nat.zero_add] at SP0 hLen hCnt
  have hx8 := hB8 x (List.mem_cons_self ..)
  have h8 : ∀ y ∈ rest, B8 y ∧ y.length ≤ 4000 := fun y hy => ⟨hB8 y (List.mem_cons_of_mem _ hy), by have := hLen y (List.mem_cons_of_mem _ hy); omega⟩
  have hr4 : rest.length ≤ 4000 := by omega
  have SP : Calls Tryz.prog 58 #[.string (strOfNums l), .string { data := #[32] }] w fun e w' => e = .returned (.slice (some ⟨w.heap.size, 0, none⟩) (rest.length + 1) (rest.length + 1)) ∧ w' = w.alloc (.cells (sts (x :: rest)).toArray 9) := SP0 hM
  have hRd := RdS.new w (x :: rest) 9
  obtain ⟨W, hW⟩ : ∃ W, W = w.alloc (.cells (sts (x :: rest)).toArray 9) := ⟨_, rfl⟩
  have zW : W.heap.size = w.heap.size + 1 := by rw [hW]; simp
  have bW : Below w.heap.size w W := by rw [hW]; exact (Below.refl _ _).alloc (Nat.le_refl _) _
  rw [← hW] at SP hRd
  have c0 : W.cell? ⟨w.heap.size, 0, none⟩ = some (.string (strOfNums x)) := by
    obtain ⟨b, off, e, _, h⟩ := hRd.get (i := 0) (by simp)
    cases e
    exact h
  have hRest : RdS W W.heap.size (cutW (some ⟨w.heap.size, 0, none⟩) 1 (rest.length + 1)) rest := by
    have := hRd.cut (n := 1) (c := rest.length + 1) (by simp) (by simp)
    rw [zW]
    exact this
  have CUT : ∀ W, (Instr.slice 61 (.slice (some ⟨w.heap.size, 0, none⟩) (rest.length + 1) (rest.length + 1)) (some (.int .i64 1)) none none).run Tryz.prog W = .ok (.slice (cutW (some ⟨w.heap.size, 0, none⟩) 1 (rest.length + 1)) rest.length rest.length) W := fun W => run_cutS (some ⟨w.heap.size, 0, none⟩) (rest.length + 1) 1 (rest.length + 1) 1 W rfl (by omega)
  generalize cutW (some ⟨w.heap.size, 0, none⟩) 1 (rest.length + 1) = A2 at hRest CUT
  have hoW := ho.below bW
  have hbW : base ≤ W.heap.size := by omega
  have hB := bW.mono hb
  have z1 : (0 : Int) < (rest.length : Int) + 1 := by omega
  have CO := hide (addCore_any base t A A2 c rest.length us rest W hbW ht hoW hRest hr4 h8)
  have EV := hide (fun kd => addEvent_any base t kd A A2 c rest.length us rest W hbW ht hall hoW hRest hr4 h8)
  unfold AddPost at CO EV
  have s0 := seq_lit hx8 (m := coreW) (fun y hy => by unfold coreW at hy; simp at hy; omega) (u := [99, 111, 114, 101]) rfl
  have s1 := seq_lit hx8 (m := [119]) (fun y hy => by simp at hy; omega) (u := [119]) rfl
  have s2 := seq_lit hx8 (m := [114]) (fun y hy => by simp at hy; omega) (u := [114]) rfl
  have HW := hide hB
  clear SP0 hB8 hLen hCnt hx8 h8 hws hRd hW hRest hoW ho hM bW hB hl b8
  by_cases k0 : x = coreW
  · rw [beq_iff_eq.2 k0] at s0
    rw [addM_core2 k0]
    clear s1 s2 k0 EV
    generalize coreM t rest = M at CO ⊢
    go_enter Tryz.func59, Tryz.ntmps59
    go_wp2_with fail
    refine SP.mono ?_
    rintro e w1 ⟨rfl, rfl⟩
    go_wp2_with fail
    refine CO.out.mono ?_
    rintro e w1 (⟨t', A', c', us', h1, rfl, h3, h4⟩ | ⟨h1, rfl, h4⟩)
    · go_wp2
      go_returns
      exact .inl ⟨t', A', c', us', h1, rfl, h3, HW.out.trans h4⟩
    · go_wp2
      go_returns
      exact .inr ⟨h1, rfl, HW.out.trans h4⟩
  · rw [beq_eq_false_iff_ne.2 k0] at s0
    by_cases k1 : x = [119]
    · rw [beq_iff_eq.2 k1] at s1
      rw [addM_ev2 (.inl ⟨k1, rfl⟩)]
      have EV1 := hide (EV.out 1)
      clear s2 k0 k1 EV CO
      generalize evM t 1 rest = M at EV1 ⊢
      go_enter Tryz.func59, Tryz.ntmps59
      go_wp2_with fail
      refine SP.mono ?_
      rintro e w1 ⟨rfl, rfl⟩
      go_wp2_with fail
      refine EV1.out.mono ?_
      rintro e w1 (⟨t', A', c', us', h1, rfl, h3, h4⟩ | ⟨h1, rfl, h4⟩)
      · go_wp2
        go_returns
        exact .inl ⟨t', A', c', us', h1, rfl, h3, HW.out.trans h4⟩
      · go_wp2
        go_returns
        exact .inr ⟨h1, rfl, HW.out.trans h4⟩
    · rw [beq_eq_false_iff_ne.2 k1] at s1
      by_cases k2 : x = [114]
      · rw [beq_iff_eq.2 k2] at s2
        rw [addM_ev2 (.inr ⟨k2, rfl⟩)]
        have EV1 := hide (EV.out 0)
        clear k0 k1 k2 EV CO
        generalize evM t 0 rest = M at EV1 ⊢
        go_enter Tryz.func59, Tryz.ntmps59
        go_wp2_with fail
        refine SP.mono ?_
        rintro e w1 ⟨rfl, rfl⟩
        go_wp2_with fail
        refine EV1.out.mono ?_
        rintro e w1 (⟨t', A', c', us', h1, rfl, h3, h4⟩ | ⟨h1, rfl, h4⟩)
        · go_wp2
          go_returns
          exact .inl ⟨t', A', c', us', h1, rfl, h3, HW.out.trans h4⟩
        · go_wp2
          go_returns
          exact .inr ⟨h1, rfl, HW.out.trans h4⟩
      · rw [beq_eq_false_iff_ne.2 k2] at s2
        rw [addM_none2 k0 k1 k2]
        clear k0 k1 k2 EV CO
        go_enter Tryz.func59, Tryz.ntmps59
        go_wp2_with fail
        refine SP.mono ?_
        rintro e w1 ⟨rfl, rfl⟩
        go_wp2
        go_returns
        exact .inr ⟨rfl, rfl, HW.out⟩
end Go.Proofs.YtmdaianbhpppfaaGreatDoor
