/- The contract of the program's addEvent. -/
import Derived.Test.YtmdaianbhpppfaaGreatDoorAddC
import Derived.Test.YtmdaianbhpppfaaGreatDoorGHeld
import Derived.StillTailTactics
import Derived.Deep.DeepCutAuto
namespace Go.Proofs.YtmdaianbhpppfaaGreatDoor
open Go.RowKit

def evM (t : List (List Ev)) (kd : Int) (wd : List (List Int)) : Option (List (List Ev)) :=
  if wd.length = 2 ∧ 0 < t.length ∧ 0 ≤ hexV (wd.getD 0 []) ∧ 0 ≤ numL 10 6 (wd.getD 1 []) then some (addE t ⟨kd, hexV (wd.getD 0 []), numL 10 6 (wd.getD 1 [])⟩) else none

/-- Two new variables, which lie or not. -/
structure E3 (w : World) (g1 g2 : Option Nat) (W : World) : Prop where
  old : Below w.heap.size w W
  c1 : ∀ p, g1 = some p → w.heap.size ≤ p ∧ Bk W p #[.int .i64 0, .int .i64 0] 36
  c2 : ∀ p, g2 = some p → w.heap.size ≤ p ∧ Bk W p #[.int .i64 0, .int .i64 0] 36
  ne : ∀ p q, g1 = some p → g2 = some q → p ≠ q ∧ q ≠ p
theorem E3.call {w W W' : World} {g1 g2 : Option Nat} (h : E3 w g1 g2 W) (hb : Below W.heap.size W W') : E3 w g1 g2 W' :=
  ⟨h.old.trans (hb.mono h.old.size), fun p e => ⟨(h.c1 p e).1, (h.c1 p e).2.kept hb⟩, fun p e => ⟨(h.c2 p e).1, (h.c2 p e).2.kept hb⟩, h.ne⟩
theorem E3.al1 {w W : World} {g2 : Option Nat} (h : E3 w none g2 W) : E3 w (some W.heap.size) g2 (W.alloc (.cells #[.int .i64 0, .int .i64 0] 36)) :=
  ⟨h.old.alloc h.old.size _, fun p e => by cases e; exact ⟨h.old.size, Bk.new _ _ _⟩, fun p e => ⟨(h.c2 p e).1, (h.c2 p e).2.alloc _⟩, fun p q e1 e2 => by cases e1; have := (h.c2 q e2).2.lt; omega⟩
theorem E3.al2 {w W : World} {g1 : Option Nat} (h : E3 w g1 none W) : E3 w g1 (some W.heap.size) (W.alloc (.cells #[.int .i64 0, .int .i64 0] 36)) :=
  ⟨h.old.alloc h.old.size _, fun p e => ⟨(h.c1 p e).1, (h.c1 p e).2.alloc _⟩, fun p e => by cases e; exact ⟨h.old.size, Bk.new _ _ _⟩, fun p q e1 e2 => by cases e2; have := (h.c1 p e1).2.lt; omega⟩
theorem below_set2 {w W : World} {B p : Nat} (h : Below B w W) (hp : B ≤ p) (u v : Value) : Below B w ((W.setCell ⟨p, 0, none⟩ u).setCell ⟨p, 1, none⟩ v) := (h.setCell (p := ⟨p, 0, none⟩) hp u).setCell (p := ⟨p, 1, none⟩) hp v
theorem Bk.far2 {w : World} {g p : Nat} {cs : Array Value} {t : TypeId} (h : Bk w g cs t) (hp : g ≠ p) (u v : Value) : Bk ((w.setCell ⟨p, 0, none⟩ u).setCell ⟨p, 1, none⟩ v) g cs t := (h.far (p := ⟨p, 0, none⟩) hp u).far (p := ⟨p, 1, none⟩) hp v

theorem RdE.one_new (w : World) (e : Ev) (T : TypeId) : RdE (w.alloc (.cells #[.int .i64 e.k, .int .i64 e.a, .int .i64 e.v] T)) (w.heap.size + 1) (some ⟨w.heap.size, 0, none⟩) [e] := fun _ =>
  ⟨w.heap.size, 0, rfl, Nat.lt_succ_self _, fun i hi => by
    rw [Nat.zero_add, (Bk.new w #[.int .i64 e.k, .int .i64 e.a, .int .i64 e.v] T).cell i]
    simp only [List.getElem?_toArray]
    exact List.getElem?_eq_getElem hi⟩

set_option maxRecDepth 100000 in
set_option maxHeartbeats 6400000 in
theorem addEvent_any (base : Nat) (t : List (List Ev)) (kd : Int) (A A2 : Option Addr) (c c2 : Nat) (us : List Value) (wd : List (List Int)) (w : World) (hb : base ≤ w.heap.size) (ht : t.length ≤ 4000) (hall : ∀ l ∈ t, l.length ≤ 4000) (ho : OwnT w base (.slice A t.length c) t us) (hr : RdS w w.heap.size A2 wd) (hw : wd.length ≤ 4000) (h8 : ∀ x ∈ wd, B8 x ∧ x.length ≤ 4000) :
    Calls Tryz.prog 75 #[.slice A t.length c, .int .i64 kd, .slice A2 wd.length c2] w (AddPost base w (evM t kd wd)) := by
  by_cases h1 : wd.length = 2 ∧ 0 < t.length
  · obtain ⟨h1, ht0⟩ := h1
    obtain ⟨x0, x1, rfl⟩ : ∃ x0 x1, wd = [x0, x1] := ⟨_, _, two h1⟩
    obtain ⟨b, off, rfl, hb2, hcc⟩ := hr.all (by simp)
    have hc0 := hcc 0 (by simp)
    have hc1 := hcc 1 (by simp)
    rw [Nat.add_zero] at hc0
    simp only [List.getElem_cons_zero, List.getElem_cons_succ] at hc0 hc1
    have hx0 := h8 x0 (List.mem_cons_self ..)
    have hx1 := h8 x1 (List.mem_cons_of_mem _ (List.mem_cons_self ..))
    have RH := hide (fun w => ReadHex_any x0 w hx0.1 (by unfold maxLen; omega))
    have NO := hide (fun w => NumberOf_any x1 w hx1.1 (by unfold maxLen; omega))
    have hM : evM t kd [x0, x1] = if 0 ≤ hexV x0 ∧ 0 ≤ numL 10 6 x1 then some (addE t ⟨kd, hexV x0, numL 10 6 x1⟩) else none := by
      unfold evM
      simp [ht0]
    rw [hM]
    have MC := hide (show ∀ W, Below w.heap.size w W → W.cell? ⟨b, off, none⟩ = some (.string (strOfNums x0)) ∧ W.cell? ⟨b, off + 1, none⟩ = some (.string (strOfNums x1)) from fun W h => ⟨(h.cell (p := ⟨b, off, none⟩) hb2).trans hc0, (h.cell (p := ⟨b, off + 1, none⟩) hb2).trans hc1⟩)
    obtain ⟨a, ha⟩ : ∃ a, a = hexV x0 := ⟨_, rfl⟩
    obtain ⟨v, hv⟩ : ∃ v, v = numL 10 6 x1 := ⟨_, rfl⟩
    rw [← ha] at RH ⊢
    rw [← hv] at NO ⊢
    obtain ⟨C1, hC1⟩ : ∃ C, C = inC a := ⟨_, rfl⟩
    obtain ⟨V1, hV1⟩ : ∃ C, C = inV a := ⟨_, rfl⟩
    obtain ⟨C2, hC2⟩ : ∃ C, C = inC v := ⟨_, rfl⟩
    obtain ⟨V2, hV2⟩ : ∃ C, C = inV v := ⟨_, rfl⟩
    rw [← hC1, ← hV1] at RH
    rw [← hC2, ← hV2] at NO
    have q0 : ((t.length : Int) == 0) = false := beq_eq_false_iff_ne.2 (by omega)
    obtain ⟨M0, hM0⟩ : ∃ M, M = if 0 ≤ a ∧ 0 ≤ v then some (addE t ⟨kd, a, v⟩) else none := ⟨_, rfl⟩
    rw [← hM0]
    have HM := hide hM0
    clear hM0
    have HC1 := hide hC1
    have HV1 := hide hV1
    have HC2 := hide hC2
    have HV2 := hide hV2
    clear hC1 hV1 hC2 hV2
    clear hM ha hv h8 hr h1 hx0 hx1 hw hcc
    simp only [List.length_cons, List.length_nil]
    go_enter Tryz.func75, Tryz.ntmps75
    go_wp2_with fail
    go_cut [8, 9] (fun s8 s9 wx => ∃ p1 p2, s8 = .pointer (some ⟨p1, 0, none⟩) ∧ s9 = .pointer (some ⟨p2, 0, none⟩) ∧ w.heap.size ≤ p1 ∧ w.heap.size ≤ p2 ∧ Bk wx p1 #[.int .i64 C1, .int .i64 V1] 36 ∧ Bk wx p2 #[.int .i64 C2, .int .i64 V2] 36 ∧ Below w.heap.size w wx)
    case first =>
      have M : E3 w none none w.drew := ⟨(Below.refl _ _).drew, fun p h => by (cases h), fun p h => by (cases h), fun p q h => by (cases h)⟩
      refine wp_region_F 99 (fun w' => w'.cell? ⟨b, off, none⟩ = some (.string (strOfNums x0)) ∧ w'.cell? ⟨b, off + 1, none⟩ = some (.string (strOfNums x1))) (fun w' => True) (by kernel_rfl) ⟨MC.out _ M.old, trivial⟩ (fun hHeld => ?_)
      try simp only [Act.put, List.setIfInBounds_toArray, List.set_cons_zero, List.set_cons_succ]
      generalize hq : w.drew = wq at M hHeld ⊢
      clear hq
      refine wpAnyF_take (i := 0) (v := ?_) (by (simp only [List.getElem?_toArray, List.getElem?_cons_zero]; rfl)) (by kernel_rfl) (by kernel_rfl) (by kernel_rfl) (by decide) (by exact fun _ _ _ h => h) ⟨hHeld.1, .inr hHeld.2⟩ (Or.inl ⟨by rfl, ?_⟩) ?_
      rotate_left
      · (intro w' _; go_simp <;> with_reducible rfl)
      try simp only [Act.put, List.setIfInBounds_toArray, List.set_cons_zero, List.set_cons_succ]
      refine wpAnyF_take (i := 1) (v := ?_) (by (simp only [List.getElem?_toArray, List.getElem?_cons_succ, List.getElem?_cons_zero]; rfl)) (by kernel_rfl) (by kernel_rfl) (by kernel_rfl) (by decide) (by exact fun _ _ _ h => h) ⟨hHeld.1, .inr hHeld.2⟩ (Or.inl ⟨by rfl, ?_⟩) ?_
      rotate_left
      · (intro w' _; go_simp <;> with_reducible rfl)
      try simp only [Act.put, List.setIfInBounds_toArray, List.set_cons_zero, List.set_cons_succ]
      refine wpAnyF_keep (i := 2) (v := ?_) (by (simp only [List.getElem?_toArray, List.getElem?_cons_succ, List.getElem?_cons_zero]; rfl)) (by kernel_rfl) (by kernel_rfl) (by kernel_rfl) (by decide) (by exact fun _ _ _ h => h) ⟨hHeld.1, .inr hHeld.2⟩ (Or.inl ⟨by rfl, ?_⟩) ?_
      rotate_left
      · (intro w' hSw; (try dsimp only at hSw); obtain ⟨hSa0, hSa1⟩ := hSw; go_simp <;> with_reducible rfl)
      try simp only [Act.put, List.setIfInBounds_toArray, List.set_cons_zero, List.set_cons_succ]
      refine wpAnyF_take (i := 4) (v := ?_) (by (simp only [List.getElem?_toArray, List.getElem?_cons_succ, List.getElem?_cons_zero]; rfl)) (by kernel_rfl) (by kernel_rfl) (by kernel_rfl) (by decide) (by exact fun _ _ _ h => h) ⟨hHeld.1, .inr hHeld.2⟩ (Or.inl ⟨by rfl, ?_⟩) ?_
      rotate_left
      · (intro w' _; go_simp <;> with_reducible rfl)
      try simp only [Act.put, List.setIfInBounds_toArray, List.set_cons_zero, List.set_cons_succ]
      refine wpAnyF_take (i := 5) (v := ?_) (by (simp only [List.getElem?_toArray, List.getElem?_cons_succ, List.getElem?_cons_zero]; rfl)) (by kernel_rfl) (by kernel_rfl) (by kernel_rfl) (by decide) (by exact fun _ _ _ h => h) ⟨hHeld.1, .inr hHeld.2⟩ (Or.inl ⟨by rfl, ?_⟩) ?_
      rotate_left
      · (intro w' _; go_simp <;> with_reducible rfl)
      try simp only [Act.put, List.setIfInBounds_toArray, List.set_cons_zero, List.set_cons_succ]
      refine wpAnyF_keep (i := 6) (v := ?_) (by (simp only [List.getElem?_toArray, List.getElem?_cons_succ, List.getElem?_cons_zero]; rfl)) (by kernel_rfl) (by kernel_rfl) (by kernel_rfl) (by decide) (by exact fun _ _ _ h => h) ⟨hHeld.1, .inr hHeld.2⟩ (Or.inl ⟨by rfl, ?_⟩) ?_
      rotate_left
      · (intro w' hSw; (try dsimp only at hSw); obtain ⟨hSa0, hSa1⟩ := hSw; go_simp <;> with_reducible rfl)
      try simp only [Act.put, List.setIfInBounds_toArray, List.set_cons_zero, List.set_cons_succ]
      refine wpAnyF_ready (rs := [3, 8, 9]) (by kernel_rfl) (by simp) ?_
      refine AllReadyF.cons (by (simp only [List.getElem?_toArray, List.getElem?_cons_succ, List.getElem?_cons_zero]; rfl)) (fun K hK => ?_) ?_
      · skip
        go_simp
        go_at_call 12
        refine (RH.out _).mono ?_
        rintro e wa3 ⟨rfl, ba⟩
        replace M := M.call ba
        clear ba
        refine hK.out _ _ ⟨MC.out _ M.old, trivial⟩ (fun hNew => ?_)
        replace hHeld := hNew
        clear hK K hNew
        try simp only [Act.put, List.setIfInBounds_toArray, List.set_cons_zero, List.set_cons_succ]
        refine wpAnyF_ready (rs := [7, 8, 9]) (by kernel_rfl) (by simp) ?_
        refine AllReadyF.cons (by (simp only [List.getElem?_toArray, List.getElem?_cons_succ, List.getElem?_cons_zero]; rfl)) (fun K hK => ?_) ?_
        · skip
          go_simp
          go_at_call 20
          refine (NO.out _).mono ?_
          rintro e wa7 ⟨rfl, ba⟩
          replace M := M.call ba
          clear ba
          refine hK.out _ _ ⟨MC.out _ M.old, trivial⟩ (fun hNew => ?_)
          replace hHeld := hNew
          clear hK K hNew
          try simp only [Act.put, List.setIfInBounds_toArray, List.set_cons_zero, List.set_cons_succ]
          refine wpAnyF_ready (rs := [8, 9]) (by kernel_rfl) (by simp) ?_
          refine AllReadyF.cons (by (simp only [List.getElem?_toArray, List.getElem?_cons_succ, List.getElem?_cons_zero]; rfl)) (fun K hK => ?_) ?_
          · skip
            go_simp
            replace M := M.al1
            generalize hQ : wa7.alloc (Obj.cells #[Value.int IntKind.i64 0, Value.int IntKind.i64 0] 36) = wb8 at M ⊢
            generalize hP : wa7.heap.size = p1 at M ⊢
            clear hQ hP
            refine hK.out _ _ ⟨MC.out _ M.old, trivial⟩ (fun hNew => ?_)
            replace hHeld := hNew
            clear hK K hNew
            try simp only [Act.put, List.setIfInBounds_toArray, List.set_cons_zero, List.set_cons_succ]
            refine wpAnyF_ready (rs := [9]) (by kernel_rfl) (by simp) ?_
            refine AllReadyF.cons (by (simp only [List.getElem?_toArray, List.getElem?_cons_succ, List.getElem?_cons_zero]; rfl)) (fun K hK => ?_) AllReadyF.nil
            go_simp
            replace M := M.al2
            generalize hQ : wb8.alloc (Obj.cells #[Value.int IntKind.i64 0, Value.int IntKind.i64 0] 36) = wb9 at M ⊢
            generalize hP : wb8.heap.size = p2 at M ⊢
            clear hQ hP
            refine hK.out _ _ ⟨MC.out _ M.old, trivial⟩ (fun hNew => ?_)
            replace hHeld := hNew
            clear hK K hNew
            try simp only [Act.put, List.setIfInBounds_toArray, List.set_cons_zero, List.set_cons_succ]
            obtain ⟨l1, k1⟩ := M.c1 _ rfl
            obtain ⟨l2, k2⟩ := M.c2 _ rfl
            have n12 := M.ne _ _ rfl rfl
            have d0 := (k1.cell 0).trans (rfl : _ = some (Value.int .i64 0))
            have d1 := (k1.cell 1).trans (rfl : _ = some (Value.int .i64 0))
            have f0 := k1.frozen 0
            have f1 := k1.frozen 1
            refine wpAnyF_ready (rs := [10]) (by kernel_rfl) (by simp) ?_
            refine AllReadyF.cons (by (simp only [List.getElem?_toArray, List.getElem?_cons_succ, List.getElem?_cons_zero]; rfl)) (fun K hK => ?_) AllReadyF.nil
            go_simp
            have B1 := below_set2 M.old l1 (.int .i64 C1) (.int .i64 V1)
            have k1' := (k1.set_ 0 (.int .i64 C1)).set_ 1 (.int .i64 V1)
            have k2' := k2.far2 n12.2 (.int .i64 C1) (.int .i64 V1)
            have e0 := (k2'.cell 0).trans (rfl : _ = some (Value.int .i64 0))
            have e1 := (k2'.cell 1).trans (rfl : _ = some (Value.int .i64 0))
            have g0 := k2'.frozen 0
            have g1 := k2'.frozen 1
            refine hK.out _ _ ⟨MC.out _ B1, trivial⟩ (fun hNew => ?_)
            replace hHeld := hNew
            clear hK K hNew d0 d1 f0 f1
            try simp only [Act.put, List.setIfInBounds_toArray, List.set_cons_zero, List.set_cons_succ]
            refine wpAnyF_ready (rs := [11]) (by kernel_rfl) (by simp) ?_
            refine AllReadyF.cons (by (simp only [List.getElem?_toArray, List.getElem?_cons_succ, List.getElem?_cons_zero]; rfl)) (fun K hK => ?_) AllReadyF.nil
            go_simp
            have B2 := below_set2 B1 l2 (.int .i64 C2) (.int .i64 V2)
            refine hK.out _ _ ⟨MC.out _ B2, trivial⟩ (fun hNew => ?_)
            replace hHeld := hNew
            clear hK K hNew e0 e1 g0 g1
            try simp only [Act.put, List.setIfInBounds_toArray, List.set_cons_zero, List.set_cons_succ]
            refine wpAnyF_done (by kernel_rfl) ?_ _
            go_wp2_with fail
            go_meet
            exact ⟨_, _, rfl, rfl, l1, l2, k1'.far2 n12.1 (.int .i64 C2) (.int .i64 V2), (k2'.set_ 0 (.int .i64 C2)).set_ 1 (.int .i64 V2), B2⟩
          refine AllReadyF.cons (by (simp only [List.getElem?_toArray, List.getElem?_cons_succ, List.getElem?_cons_zero]; rfl)) (fun K hK => ?_) ?_
          · skip
            go_simp
            replace M := M.al2
            generalize hQ : wa7.alloc (Obj.cells #[Value.int IntKind.i64 0, Value.int IntKind.i64 0] 36) = wb9 at M ⊢
            generalize hP : wa7.heap.size = p2 at M ⊢
            clear hQ hP
            refine hK.out _ _ ⟨MC.out _ M.old, trivial⟩ (fun hNew => ?_)
            replace hHeld := hNew
            clear hK K hNew
            try simp only [Act.put, List.setIfInBounds_toArray, List.set_cons_zero, List.set_cons_succ]
            refine wpAnyF_ready (rs := [8]) (by kernel_rfl) (by simp) ?_
            refine AllReadyF.cons (by (simp only [List.getElem?_toArray, List.getElem?_cons_succ, List.getElem?_cons_zero]; rfl)) (fun K hK => ?_) AllReadyF.nil
            go_simp
            replace M := M.al1
            generalize hQ : wb9.alloc (Obj.cells #[Value.int IntKind.i64 0, Value.int IntKind.i64 0] 36) = wb8 at M ⊢
            generalize hP : wb9.heap.size = p1 at M ⊢
            clear hQ hP
            refine hK.out _ _ ⟨MC.out _ M.old, trivial⟩ (fun hNew => ?_)
            replace hHeld := hNew
            clear hK K hNew
            try simp only [Act.put, List.setIfInBounds_toArray, List.set_cons_zero, List.set_cons_succ]
            obtain ⟨l1, k1⟩ := M.c1 _ rfl
            obtain ⟨l2, k2⟩ := M.c2 _ rfl
            have n12 := M.ne _ _ rfl rfl
            have d0 := (k1.cell 0).trans (rfl : _ = some (Value.int .i64 0))
            have d1 := (k1.cell 1).trans (rfl : _ = some (Value.int .i64 0))
            have f0 := k1.frozen 0
            have f1 := k1.frozen 1
            refine wpAnyF_ready (rs := [10]) (by kernel_rfl) (by simp) ?_
            refine AllReadyF.cons (by (simp only [List.getElem?_toArray, List.getElem?_cons_succ, List.getElem?_cons_zero]; rfl)) (fun K hK => ?_) AllReadyF.nil
            go_simp
            have B1 := below_set2 M.old l1 (.int .i64 C1) (.int .i64 V1)
            have k1' := (k1.set_ 0 (.int .i64 C1)).set_ 1 (.int .i64 V1)
            have k2' := k2.far2 n12.2 (.int .i64 C1) (.int .i64 V1)
            have e0 := (k2'.cell 0).trans (rfl : _ = some (Value.int .i64 0))
            have e1 := (k2'.cell 1).trans (rfl : _ = some (Value.int .i64 0))
            have g0 := k2'.frozen 0
            have g1 := k2'.frozen 1
            refine hK.out _ _ ⟨MC.out _ B1, trivial⟩ (fun hNew => ?_)
            replace hHeld := hNew
            clear hK K hNew d0 d1 f0 f1
            try simp only [Act.put, List.setIfInBounds_toArray, List.set_cons_zero, List.set_cons_succ]
            refine wpAnyF_ready (rs := [11]) (by kernel_rfl) (by simp) ?_
            refine AllReadyF.cons (by (simp only [List.getElem?_toArray, List.getElem?_cons_succ, List.getElem?_cons_zero]; rfl)) (fun K hK => ?_) AllReadyF.nil
            go_simp
            have B2 := below_set2 B1 l2 (.int .i64 C2) (.int .i64 V2)
            refine hK.out _ _ ⟨MC.out _ B2, trivial⟩ (fun hNew => ?_)
            replace hHeld := hNew
            clear hK K hNew e0 e1 g0 g1
            try simp only [Act.put, List.setIfInBounds_toArray, List.set_cons_zero, List.set_cons_succ]
            refine wpAnyF_done (by kernel_rfl) ?_ _
            go_wp2_with fail
            go_meet
            exact ⟨_, _, rfl, rfl, l1, l2, k1'.far2 n12.1 (.int .i64 C2) (.int .i64 V2), (k2'.set_ 0 (.int .i64 C2)).set_ 1 (.int .i64 V2), B2⟩
          exact AllReadyF.nil
        refine AllReadyF.cons (by (simp only [List.getElem?_toArray, List.getElem?_cons_succ, List.getElem?_cons_zero]; rfl)) (fun K hK => ?_) ?_
        · skip
          go_simp
          replace M := M.al1
          generalize hQ : wa3.alloc (Obj.cells #[Value.int IntKind.i64 0, Value.int IntKind.i64 0] 36) = wb8 at M ⊢
          generalize hP : wa3.heap.size = p1 at M ⊢
          clear hQ hP
          refine hK.out _ _ ⟨MC.out _ M.old, trivial⟩ (fun hNew => ?_)
          replace hHeld := hNew
          clear hK K hNew
          try simp only [Act.put, List.setIfInBounds_toArray, List.set_cons_zero, List.set_cons_succ]
          refine wpAnyF_ready (rs := [7, 9]) (by kernel_rfl) (by simp) ?_
          refine AllReadyF.cons (by (simp only [List.getElem?_toArray, List.getElem?_cons_succ, List.getElem?_cons_zero]; rfl)) (fun K hK => ?_) ?_
          · skip
            go_simp
            go_at_call 20
            refine (NO.out _).mono ?_
            rintro e wa7 ⟨rfl, ba⟩
            replace M := M.call ba
            clear ba
            refine hK.out _ _ ⟨MC.out _ M.old, trivial⟩ (fun hNew => ?_)
            replace hHeld := hNew
            clear hK K hNew
            try simp only [Act.put, List.setIfInBounds_toArray, List.set_cons_zero, List.set_cons_succ]
            refine wpAnyF_ready (rs := [9]) (by kernel_rfl) (by simp) ?_
            refine AllReadyF.cons (by (simp only [List.getElem?_toArray, List.getElem?_cons_succ, List.getElem?_cons_zero]; rfl)) (fun K hK => ?_) AllReadyF.nil
            go_simp
            replace M := M.al2
            generalize hQ : wa7.alloc (Obj.cells #[Value.int IntKind.i64 0, Value.int IntKind.i64 0] 36) = wb9 at M ⊢
            generalize hP : wa7.heap.size = p2 at M ⊢
            clear hQ hP
            refine hK.out _ _ ⟨MC.out _ M.old, trivial⟩ (fun hNew => ?_)
            replace hHeld := hNew
            clear hK K hNew
            try simp only [Act.put, List.setIfInBounds_toArray, List.set_cons_zero, List.set_cons_succ]
            obtain ⟨l1, k1⟩ := M.c1 _ rfl
            obtain ⟨l2, k2⟩ := M.c2 _ rfl
            have n12 := M.ne _ _ rfl rfl
            have d0 := (k1.cell 0).trans (rfl : _ = some (Value.int .i64 0))
            have d1 := (k1.cell 1).trans (rfl : _ = some (Value.int .i64 0))
            have f0 := k1.frozen 0
            have f1 := k1.frozen 1
            refine wpAnyF_ready (rs := [10]) (by kernel_rfl) (by simp) ?_
            refine AllReadyF.cons (by (simp only [List.getElem?_toArray, List.getElem?_cons_succ, List.getElem?_cons_zero]; rfl)) (fun K hK => ?_) AllReadyF.nil
            go_simp
            have B1 := below_set2 M.old l1 (.int .i64 C1) (.int .i64 V1)
            have k1' := (k1.set_ 0 (.int .i64 C1)).set_ 1 (.int .i64 V1)
            have k2' := k2.far2 n12.2 (.int .i64 C1) (.int .i64 V1)
            have e0 := (k2'.cell 0).trans (rfl : _ = some (Value.int .i64 0))
            have e1 := (k2'.cell 1).trans (rfl : _ = some (Value.int .i64 0))
            have g0 := k2'.frozen 0
            have g1 := k2'.frozen 1
            refine hK.out _ _ ⟨MC.out _ B1, trivial⟩ (fun hNew => ?_)
            replace hHeld := hNew
            clear hK K hNew d0 d1 f0 f1
            try simp only [Act.put, List.setIfInBounds_toArray, List.set_cons_zero, List.set_cons_succ]
            refine wpAnyF_ready (rs := [11]) (by kernel_rfl) (by simp) ?_
            refine AllReadyF.cons (by (simp only [List.getElem?_toArray, List.getElem?_cons_succ, List.getElem?_cons_zero]; rfl)) (fun K hK => ?_) AllReadyF.nil
            go_simp
            have B2 := below_set2 B1 l2 (.int .i64 C2) (.int .i64 V2)
            refine hK.out _ _ ⟨MC.out _ B2, trivial⟩ (fun hNew => ?_)
            replace hHeld := hNew
            clear hK K hNew e0 e1 g0 g1
            try simp only [Act.put, List.setIfInBounds_toArray, List.set_cons_zero, List.set_cons_succ]
            refine wpAnyF_done (by kernel_rfl) ?_ _
            go_wp2_with fail
            go_meet
            exact ⟨_, _, rfl, rfl, l1, l2, k1'.far2 n12.1 (.int .i64 C2) (.int .i64 V2), (k2'.set_ 0 (.int .i64 C2)).set_ 1 (.int .i64 V2), B2⟩
          refine AllReadyF.cons (by (simp only [List.getElem?_toArray, List.getElem?_cons_succ, List.getElem?_cons_zero]; rfl)) (fun K hK => ?_) ?_
          · skip
            go_simp
            replace M := M.al2
            generalize hQ : wb8.alloc (Obj.cells #[Value.int IntKind.i64 0, Value.int IntKind.i64 0] 36) = wb9 at M ⊢
            generalize hP : wb8.heap.size = p2 at M ⊢
            clear hQ hP
            refine hK.out _ _ ⟨MC.out _ M.old, trivial⟩ (fun hNew => ?_)
            replace hHeld := hNew
            clear hK K hNew
            try simp only [Act.put, List.setIfInBounds_toArray, List.set_cons_zero, List.set_cons_succ]
            refine wpAnyF_ready (rs := [7]) (by kernel_rfl) (by simp) ?_
            refine AllReadyF.cons (by (simp only [List.getElem?_toArray, List.getElem?_cons_succ, List.getElem?_cons_zero]; rfl)) (fun K hK => ?_) AllReadyF.nil
            go_simp
            go_at_call 20
            refine (NO.out _).mono ?_
            rintro e wa7 ⟨rfl, ba⟩
            replace M := M.call ba
            clear ba
            refine hK.out _ _ ⟨MC.out _ M.old, trivial⟩ (fun hNew => ?_)
            replace hHeld := hNew
            clear hK K hNew
            try simp only [Act.put, List.setIfInBounds_toArray, List.set_cons_zero, List.set_cons_succ]
            obtain ⟨l1, k1⟩ := M.c1 _ rfl
            obtain ⟨l2, k2⟩ := M.c2 _ rfl
            have n12 := M.ne _ _ rfl rfl
            have d0 := (k1.cell 0).trans (rfl : _ = some (Value.int .i64 0))
            have d1 := (k1.cell 1).trans (rfl : _ = some (Value.int .i64 0))
            have f0 := k1.frozen 0
            have f1 := k1.frozen 1
            refine wpAnyF_ready (rs := [10]) (by kernel_rfl) (by simp) ?_
            refine AllReadyF.cons (by (simp only [List.getElem?_toArray, List.getElem?_cons_succ, List.getElem?_cons_zero]; rfl)) (fun K hK => ?_) AllReadyF.nil
            go_simp
            have B1 := below_set2 M.old l1 (.int .i64 C1) (.int .i64 V1)
            have k1' := (k1.set_ 0 (.int .i64 C1)).set_ 1 (.int .i64 V1)
            have k2' := k2.far2 n12.2 (.int .i64 C1) (.int .i64 V1)
            have e0 := (k2'.cell 0).trans (rfl : _ = some (Value.int .i64 0))
            have e1 := (k2'.cell 1).trans (rfl : _ = some (Value.int .i64 0))
            have g0 := k2'.frozen 0
            have g1 := k2'.frozen 1
            refine hK.out _ _ ⟨MC.out _ B1, trivial⟩ (fun hNew => ?_)
            replace hHeld := hNew
            clear hK K hNew d0 d1 f0 f1
            try simp only [Act.put, List.setIfInBounds_toArray, List.set_cons_zero, List.set_cons_succ]
            refine wpAnyF_ready (rs := [11]) (by kernel_rfl) (by simp) ?_
            refine AllReadyF.cons (by (simp only [List.getElem?_toArray, List.getElem?_cons_succ, List.getElem?_cons_zero]; rfl)) (fun K hK => ?_) AllReadyF.nil
            go_simp
            have B2 := below_set2 B1 l2 (.int .i64 C2) (.int .i64 V2)
            refine hK.out _ _ ⟨MC.out _ B2, trivial⟩ (fun hNew => ?_)
            replace hHeld := hNew
            clear hK K hNew e0 e1 g0 g1
            try simp only [Act.put, List.setIfInBounds_toArray, List.set_cons_zero, List.set_cons_succ]
            refine wpAnyF_done (by kernel_rfl) ?_ _
            go_wp2_with fail
            go_meet
            exact ⟨_, _, rfl, rfl, l1, l2, k1'.far2 n12.1 (.int .i64 C2) (.int .i64 V2), (k2'.set_ 0 (.int .i64 C2)).set_ 1 (.int .i64 V2), B2⟩
          exact AllReadyF.nil
        refine AllReadyF.cons (by (simp only [List.getElem?_toArray, List.getElem?_cons_succ, List.getElem?_cons_zero]; rfl)) (fun K hK => ?_) ?_
        · skip
          go_simp
          replace M := M.al2
          generalize hQ : wa3.alloc (Obj.cells #[Value.int IntKind.i64 0, Value.int IntKind.i64 0] 36) = wb9 at M ⊢
          generalize hP : wa3.heap.size = p2 at M ⊢
          clear hQ hP
          refine hK.out _ _ ⟨MC.out _ M.old, trivial⟩ (fun hNew => ?_)
          replace hHeld := hNew
          clear hK K hNew
          try simp only [Act.put, List.setIfInBounds_toArray, List.set_cons_zero, List.set_cons_succ]
          refine wpAnyF_ready (rs := [7, 8]) (by kernel_rfl) (by simp) ?_
          refine AllReadyF.cons (by (simp only [List.getElem?_toArray, List.getElem?_cons_succ, List.getElem?_cons_zero]; rfl)) (fun K hK => ?_) ?_
          · skip
            go_simp
            go_at_call 20
            refine (NO.out _).mono ?_
            rintro e wa7 ⟨rfl, ba⟩
            replace M := M.call ba
            clear ba
            refine hK.out _ _ ⟨MC.out _ M.old, trivial⟩ (fun hNew => ?_)
            replace hHeld := hNew
            clear hK K hNew
            try simp only [Act.put, List.setIfInBounds_toArray, List.set_cons_zero, List.set_cons_succ]
            refine wpAnyF_ready (rs := [8]) (by kernel_rfl) (by simp) ?_
            refine AllReadyF.cons (by (simp only [List.getElem?_toArray, List.getElem?_cons_succ, List.getElem?_cons_zero]; rfl)) (fun K hK => ?_) AllReadyF.nil
            go_simp
            replace M := M.al1
            generalize hQ : wa7.alloc (Obj.cells #[Value.int IntKind.i64 0, Value.int IntKind.i64 0] 36) = wb8 at M ⊢
            generalize hP : wa7.heap.size = p1 at M ⊢
            clear hQ hP
            refine hK.out _ _ ⟨MC.out _ M.old, trivial⟩ (fun hNew => ?_)
            replace hHeld := hNew
            clear hK K hNew
            try simp only [Act.put, List.setIfInBounds_toArray, List.set_cons_zero, List.set_cons_succ]
            obtain ⟨l1, k1⟩ := M.c1 _ rfl
            obtain ⟨l2, k2⟩ := M.c2 _ rfl
            have n12 := M.ne _ _ rfl rfl
            have d0 := (k1.cell 0).trans (rfl : _ = some (Value.int .i64 0))
            have d1 := (k1.cell 1).trans (rfl : _ = some (Value.int .i64 0))
            have f0 := k1.frozen 0
            have f1 := k1.frozen 1
            refine wpAnyF_ready (rs := [10]) (by kernel_rfl) (by simp) ?_
            refine AllReadyF.cons (by (simp only [List.getElem?_toArray, List.getElem?_cons_succ, List.getElem?_cons_zero]; rfl)) (fun K hK => ?_) AllReadyF.nil
            go_simp
            have B1 := below_set2 M.old l1 (.int .i64 C1) (.int .i64 V1)
            have k1' := (k1.set_ 0 (.int .i64 C1)).set_ 1 (.int .i64 V1)
            have k2' := k2.far2 n12.2 (.int .i64 C1) (.int .i64 V1)
            have e0 := (k2'.cell 0).trans (rfl : _ = some (Value.int .i64 0))
            have e1 := (k2'.cell 1).trans (rfl : _ = some (Value.int .i64 0))
            have g0 := k2'.frozen 0
            have g1 := k2'.frozen 1
            refine hK.out _ _ ⟨MC.out _ B1, trivial⟩ (fun hNew => ?_)
            replace hHeld := hNew
            clear hK K hNew d0 d1 f0 f1
            try simp only [Act.put, List.setIfInBounds_toArray, List.set_cons_zero, List.set_cons_succ]
            refine wpAnyF_ready (rs := [11]) (by kernel_rfl) (by simp) ?_
            refine AllReadyF.cons (by (simp only [List.getElem?_toArray, List.getElem?_cons_succ, List.getElem?_cons_zero]; rfl)) (fun K hK => ?_) AllReadyF.nil
            go_simp
            have B2 := below_set2 B1 l2 (.int .i64 C2) (.int .i64 V2)
            refine hK.out _ _ ⟨MC.out _ B2, trivial⟩ (fun hNew => ?_)
            replace hHeld := hNew
            clear hK K hNew e0 e1 g0 g1
            try simp only [Act.put, List.setIfInBounds_toArray, List.set_cons_zero, List.set_cons_succ]
            refine wpAnyF_done (by kernel_rfl) ?_ _
            go_wp2_with fail
            go_meet
            exact ⟨_, _, rfl, rfl, l1, l2, k1'.far2 n12.1 (.int .i64 C2) (.int .i64 V2), (k2'.set_ 0 (.int .i64 C2)).set_ 1 (.int .i64 V2), B2⟩
          refine AllReadyF.cons (by (simp only [List.getElem?_toArray, List.getElem?_cons_succ, List.getElem?_cons_zero]; rfl)) (fun K hK => ?_) ?_
          · skip
            go_simp
            replace M := M.al1
            generalize hQ : wb9.alloc (Obj.cells #[Value.int IntKind.i64 0, Value.int IntKind.i64 0] 36) = wb8 at M ⊢
            generalize hP : wb9.heap.size = p1 at M ⊢
            clear hQ hP
            refine hK.out _ _ ⟨MC.out _ M.old, trivial⟩ (fun hNew => ?_)
            replace hHeld := hNew
            clear hK K hNew
            try simp only [Act.put, List.setIfInBounds_toArray, List.set_cons_zero, List.set_cons_succ]
            refine wpAnyF_ready (rs := [7]) (by kernel_rfl) (by simp) ?_
            refine AllReadyF.cons (by (simp only [List.getElem?_toArray, List.getElem?_cons_succ, List.getElem?_cons_zero]; rfl)) (fun K hK => ?_) AllReadyF.nil
            go_simp
            go_at_call 20
            refine (NO.out _).mono ?_
            rintro e wa7 ⟨rfl, ba⟩
            replace M := M.call ba
            clear ba
            refine hK.out _ _ ⟨MC.out _ M.old, trivial⟩ (fun hNew => ?_)
            replace hHeld := hNew
            clear hK K hNew
            try simp only [Act.put, List.setIfInBounds_toArray, List.set_cons_zero, List.set_cons_succ]
            obtain ⟨l1, k1⟩ := M.c1 _ rfl
            obtain ⟨l2, k2⟩ := M.c2 _ rfl
            have n12 := M.ne _ _ rfl rfl
            have d0 := (k1.cell 0).trans (rfl : _ = some (Value.int .i64 0))
            have d1 := (k1.cell 1).trans (rfl : _ = some (Value.int .i64 0))
            have f0 := k1.frozen 0
            have f1 := k1.frozen 1
            refine wpAnyF_ready (rs := [10]) (by kernel_rfl) (by simp) ?_
            refine AllReadyF.cons (by (simp only [List.getElem?_toArray, List.getElem?_cons_succ, List.getElem?_cons_zero]; rfl)) (fun K hK => ?_) AllReadyF.nil
            go_simp
            have B1 := below_set2 M.old l1 (.int .i64 C1) (.int .i64 V1)
            have k1' := (k1.set_ 0 (.int .i64 C1)).set_ 1 (.int .i64 V1)
            have k2' := k2.far2 n12.2 (.int .i64 C1) (.int .i64 V1)
            have e0 := (k2'.cell 0).trans (rfl : _ = some (Value.int .i64 0))
            have e1 := (k2'.cell 1).trans (rfl : _ = some (Value.int .i64 0))
            have g0 := k2'.frozen 0
            have g1 := k2'.frozen 1
            refine hK.out _ _ ⟨MC.out _ B1, trivial⟩ (fun hNew => ?_)
            replace hHeld := hNew
            clear hK K hNew d0 d1 f0 f1
            try simp only [Act.put, List.setIfInBounds_toArray, List.set_cons_zero, List.set_cons_succ]
            refine wpAnyF_ready (rs := [11]) (by kernel_rfl) (by simp) ?_
            refine AllReadyF.cons (by (simp only [List.getElem?_toArray, List.getElem?_cons_succ, List.getElem?_cons_zero]; rfl)) (fun K hK => ?_) AllReadyF.nil
            go_simp
            have B2 := below_set2 B1 l2 (.int .i64 C2) (.int .i64 V2)
            refine hK.out _ _ ⟨MC.out _ B2, trivial⟩ (fun hNew => ?_)
            replace hHeld := hNew
            clear hK K hNew e0 e1 g0 g1
            try simp only [Act.put, List.setIfInBounds_toArray, List.set_cons_zero, List.set_cons_succ]
            refine wpAnyF_done (by kernel_rfl) ?_ _
            go_wp2_with fail
            go_meet
            exact ⟨_, _, rfl, rfl, l1, l2, k1'.far2 n12.1 (.int .i64 C2) (.int .i64 V2), (k2'.set_ 0 (.int .i64 C2)).set_ 1 (.int .i64 V2), B2⟩
          exact AllReadyF.nil
        exact AllReadyF.nil
      refine AllReadyF.cons (by (simp only [List.getElem?_toArray, List.getElem?_cons_succ, List.getElem?_cons_zero]; rfl)) (fun K hK => ?_) ?_
      · skip
        go_simp
        replace M := M.al1
        generalize hQ : wq.alloc (Obj.cells #[Value.int IntKind.i64 0, Value.int IntKind.i64 0] 36) = wb8 at M ⊢
        generalize hP : wq.heap.size = p1 at M ⊢
        clear hQ hP
        refine hK.out _ _ ⟨MC.out _ M.old, trivial⟩ (fun hNew => ?_)
        replace hHeld := hNew
        clear hK K hNew
        try simp only [Act.put, List.setIfInBounds_toArray, List.set_cons_zero, List.set_cons_succ]
        refine wpAnyF_ready (rs := [3, 9]) (by kernel_rfl) (by simp) ?_
        refine AllReadyF.cons (by (simp only [List.getElem?_toArray, List.getElem?_cons_succ, List.getElem?_cons_zero]; rfl)) (fun K hK => ?_) ?_
        · skip
          go_simp
          go_at_call 12
          refine (RH.out _).mono ?_
          rintro e wa3 ⟨rfl, ba⟩
          replace M := M.call ba
          clear ba
          refine hK.out _ _ ⟨MC.out _ M.old, trivial⟩ (fun hNew => ?_)
          replace hHeld := hNew
          clear hK K hNew
          try simp only [Act.put, List.setIfInBounds_toArray, List.set_cons_zero, List.set_cons_succ]
          refine wpAnyF_ready (rs := [7, 9]) (by kernel_rfl) (by simp) ?_
          refine AllReadyF.cons (by (simp only [List.getElem?_toArray, List.getElem?_cons_succ, List.getElem?_cons_zero]; rfl)) (fun K hK => ?_) ?_
          · skip
            go_simp
            go_at_call 20
            refine (NO.out _).mono ?_
            rintro e wa7 ⟨rfl, ba⟩
            replace M := M.call ba
            clear ba
            refine hK.out _ _ ⟨MC.out _ M.old, trivial⟩ (fun hNew => ?_)
            replace hHeld := hNew
            clear hK K hNew
            try simp only [Act.put, List.setIfInBounds_toArray, List.set_cons_zero, List.set_cons_succ]
            refine wpAnyF_ready (rs := [9]) (by kernel_rfl) (by simp) ?_
            refine AllReadyF.cons (by (simp only [List.getElem?_toArray, List.getElem?_cons_succ, List.getElem?_cons_zero]; rfl)) (fun K hK => ?_) AllReadyF.nil
            go_simp
            replace M := M.al2
            generalize hQ : wa7.alloc (Obj.cells #[Value.int IntKind.i64 0, Value.int IntKind.i64 0] 36) = wb9 at M ⊢
            generalize hP : wa7.heap.size = p2 at M ⊢
            clear hQ hP
            refine hK.out _ _ ⟨MC.out _ M.old, trivial⟩ (fun hNew => ?_)
            replace hHeld := hNew
            clear hK K hNew
            try simp only [Act.put, List.setIfInBounds_toArray, List.set_cons_zero, List.set_cons_succ]
            obtain ⟨l1, k1⟩ := M.c1 _ rfl
            obtain ⟨l2, k2⟩ := M.c2 _ rfl
            have n12 := M.ne _ _ rfl rfl
            have d0 := (k1.cell 0).trans (rfl : _ = some (Value.int .i64 0))
            have d1 := (k1.cell 1).trans (rfl : _ = some (Value.int .i64 0))
            have f0 := k1.frozen 0
            have f1 := k1.frozen 1
            refine wpAnyF_ready (rs := [10]) (by kernel_rfl) (by simp) ?_
            refine AllReadyF.cons (by (simp only [List.getElem?_toArray, List.getElem?_cons_succ, List.getElem?_cons_zero]; rfl)) (fun K hK => ?_) AllReadyF.nil
            go_simp
            have B1 := below_set2 M.old l1 (.int .i64 C1) (.int .i64 V1)
            have k1' := (k1.set_ 0 (.int .i64 C1)).set_ 1 (.int .i64 V1)
            have k2' := k2.far2 n12.2 (.int .i64 C1) (.int .i64 V1)
            have e0 := (k2'.cell 0).trans (rfl : _ = some (Value.int .i64 0))
            have e1 := (k2'.cell 1).trans (rfl : _ = some (Value.int .i64 0))
            have g0 := k2'.frozen 0
            have g1 := k2'.frozen 1
            refine hK.out _ _ ⟨MC.out _ B1, trivial⟩ (fun hNew => ?_)
            replace hHeld := hNew
            clear hK K hNew d0 d1 f0 f1
            try simp only [Act.put, List.setIfInBounds_toArray, List.set_cons_zero, List.set_cons_succ]
            refine wpAnyF_ready (rs := [11]) (by kernel_rfl) (by simp) ?_
            refine AllReadyF.cons (by (simp only [List.getElem?_toArray, List.getElem?_cons_succ, List.getElem?_cons_zero]; rfl)) (fun K hK => ?_) AllReadyF.nil
            go_simp
            have B2 := below_set2 B1 l2 (.int .i64 C2) (.int .i64 V2)
            refine hK.out _ _ ⟨MC.out _ B2, trivial⟩ (fun hNew => ?_)
            replace hHeld := hNew
            clear hK K hNew e0 e1 g0 g1
            try simp only [Act.put, List.setIfInBounds_toArray, List.set_cons_zero, List.set_cons_succ]
            refine wpAnyF_done (by kernel_rfl) ?_ _
            go_wp2_with fail
            go_meet
            exact ⟨_, _, rfl, rfl, l1, l2, k1'.far2 n12.1 (.int .i64 C2) (.int .i64 V2), (k2'.set_ 0 (.int .i64 C2)).set_ 1 (.int .i64 V2), B2⟩
          refine AllReadyF.cons (by (simp only [List.getElem?_toArray, List.getElem?_cons_succ, List.getElem?_cons_zero]; rfl)) (fun K hK => ?_) ?_
          · skip
            go_simp
            replace M := M.al2
            generalize hQ : wa3.alloc (Obj.cells #[Value.int IntKind.i64 0, Value.int IntKind.i64 0] 36) = wb9 at M ⊢
            generalize hP : wa3.heap.size = p2 at M ⊢
            clear hQ hP
            refine hK.out _ _ ⟨MC.out _ M.old, trivial⟩ (fun hNew => ?_)
            replace hHeld := hNew
            clear hK K hNew
            try simp only [Act.put, List.setIfInBounds_toArray, List.set_cons_zero, List.set_cons_succ]
            refine wpAnyF_ready (rs := [7]) (by kernel_rfl) (by simp) ?_
            refine AllReadyF.cons (by (simp only [List.getElem?_toArray, List.getElem?_cons_succ, List.getElem?_cons_zero]; rfl)) (fun K hK => ?_) AllReadyF.nil
            go_simp
            go_at_call 20
            refine (NO.out _).mono ?_
            rintro e wa7 ⟨rfl, ba⟩
            replace M := M.call ba
            clear ba
            refine hK.out _ _ ⟨MC.out _ M.old, trivial⟩ (fun hNew => ?_)
            replace hHeld := hNew
            clear hK K hNew
            try simp only [Act.put, List.setIfInBounds_toArray, List.set_cons_zero, List.set_cons_succ]
            obtain ⟨l1, k1⟩ := M.c1 _ rfl
            obtain ⟨l2, k2⟩ := M.c2 _ rfl
            have n12 := M.ne _ _ rfl rfl
            have d0 := (k1.cell 0).trans (rfl : _ = some (Value.int .i64 0))
            have d1 := (k1.cell 1).trans (rfl : _ = some (Value.int .i64 0))
            have f0 := k1.frozen 0
            have f1 := k1.frozen 1
            refine wpAnyF_ready (rs := [10]) (by kernel_rfl) (by simp) ?_
            refine AllReadyF.cons (by (simp only [List.getElem?_toArray, List.getElem?_cons_succ, List.getElem?_cons_zero]; rfl)) (fun K hK => ?_) AllReadyF.nil
            go_simp
            have B1 := below_set2 M.old l1 (.int .i64 C1) (.int .i64 V1)
            have k1' := (k1.set_ 0 (.int .i64 C1)).set_ 1 (.int .i64 V1)
            have k2' := k2.far2 n12.2 (.int .i64 C1) (.int .i64 V1)
            have e0 := (k2'.cell 0).trans (rfl : _ = some (Value.int .i64 0))
            have e1 := (k2'.cell 1).trans (rfl : _ = some (Value.int .i64 0))
            have g0 := k2'.frozen 0
            have g1 := k2'.frozen 1
            refine hK.out _ _ ⟨MC.out _ B1, trivial⟩ (fun hNew => ?_)
            replace hHeld := hNew
            clear hK K hNew d0 d1 f0 f1
            try simp only [Act.put, List.setIfInBounds_toArray, List.set_cons_zero, List.set_cons_succ]
            refine wpAnyF_ready (rs := [11]) (by kernel_rfl) (by simp) ?_
            refine AllReadyF.cons (by (simp only [List.getElem?_toArray, List.getElem?_cons_succ, List.getElem?_cons_zero]; rfl)) (fun K hK => ?_) AllReadyF.nil
            go_simp
            have B2 := below_set2 B1 l2 (.int .i64 C2) (.int .i64 V2)
            refine hK.out _ _ ⟨MC.out _ B2, trivial⟩ (fun hNew => ?_)
            replace hHeld := hNew
            clear hK K hNew e0 e1 g0 g1
            try simp only [Act.put, List.setIfInBounds_toArray, List.set_cons_zero, List.set_cons_succ]
            refine wpAnyF_done (by kernel_rfl) ?_ _
            go_wp2_with fail
            go_meet
            exact ⟨_, _, rfl, rfl, l1, l2, k1'.far2 n12.1 (.int .i64 C2) (.int .i64 V2), (k2'.set_ 0 (.int .i64 C2)).set_ 1 (.int .i64 V2), B2⟩
          exact AllReadyF.nil
        refine AllReadyF.cons (by (simp only [List.getElem?_toArray, List.getElem?_cons_succ, List.getElem?_cons_zero]; rfl)) (fun K hK => ?_) ?_
        · skip
          go_simp
          replace M := M.al2
          generalize hQ : wb8.alloc (Obj.cells #[Value.int IntKind.i64 0, Value.int IntKind.i64 0] 36) = wb9 at M ⊢
          generalize hP : wb8.heap.size = p2 at M ⊢
          clear hQ hP
          refine hK.out _ _ ⟨MC.out _ M.old, trivial⟩ (fun hNew => ?_)
          replace hHeld := hNew
          clear hK K hNew
          try simp only [Act.put, List.setIfInBounds_toArray, List.set_cons_zero, List.set_cons_succ]
          refine wpAnyF_ready (rs := [3]) (by kernel_rfl) (by simp) ?_
          refine AllReadyF.cons (by (simp only [List.getElem?_toArray, List.getElem?_cons_succ, List.getElem?_cons_zero]; rfl)) (fun K hK => ?_) AllReadyF.nil
          go_simp
          go_at_call 12
          refine (RH.out _).mono ?_
          rintro e wa3 ⟨rfl, ba⟩
          replace M := M.call ba
          clear ba
          refine hK.out _ _ ⟨MC.out _ M.old, trivial⟩ (fun hNew => ?_)
          replace hHeld := hNew
          clear hK K hNew
          try simp only [Act.put, List.setIfInBounds_toArray, List.set_cons_zero, List.set_cons_succ]
          refine wpAnyF_ready (rs := [7]) (by kernel_rfl) (by simp) ?_
          refine AllReadyF.cons (by (simp only [List.getElem?_toArray, List.getElem?_cons_succ, List.getElem?_cons_zero]; rfl)) (fun K hK => ?_) AllReadyF.nil
          go_simp
          go_at_call 20
          refine (NO.out _).mono ?_
          rintro e wa7 ⟨rfl, ba⟩
          replace M := M.call ba
          clear ba
          refine hK.out _ _ ⟨MC.out _ M.old, trivial⟩ (fun hNew => ?_)
          replace hHeld := hNew
          clear hK K hNew
          try simp only [Act.put, List.setIfInBounds_toArray, List.set_cons_zero, List.set_cons_succ]
          obtain ⟨l1, k1⟩ := M.c1 _ rfl
          obtain ⟨l2, k2⟩ := M.c2 _ rfl
          have n12 := M.ne _ _ rfl rfl
          have d0 := (k1.cell 0).trans (rfl : _ = some (Value.int .i64 0))
          have d1 := (k1.cell 1).trans (rfl : _ = some (Value.int .i64 0))
          have f0 := k1.frozen 0
          have f1 := k1.frozen 1
          refine wpAnyF_ready (rs := [10]) (by kernel_rfl) (by simp) ?_
          refine AllReadyF.cons (by (simp only [List.getElem?_toArray, List.getElem?_cons_succ, List.getElem?_cons_zero]; rfl)) (fun K hK => ?_) AllReadyF.nil
          go_simp
          have B1 := below_set2 M.old l1 (.int .i64 C1) (.int .i64 V1)
          have k1' := (k1.set_ 0 (.int .i64 C1)).set_ 1 (.int .i64 V1)
          have k2' := k2.far2 n12.2 (.int .i64 C1) (.int .i64 V1)
          have e0 := (k2'.cell 0).trans (rfl : _ = some (Value.int .i64 0))
          have e1 := (k2'.cell 1).trans (rfl : _ = some (Value.int .i64 0))
          have g0 := k2'.frozen 0
          have g1 := k2'.frozen 1
          refine hK.out _ _ ⟨MC.out _ B1, trivial⟩ (fun hNew => ?_)
          replace hHeld := hNew
          clear hK K hNew d0 d1 f0 f1
          try simp only [Act.put, List.setIfInBounds_toArray, List.set_cons_zero, List.set_cons_succ]
          refine wpAnyF_ready (rs := [11]) (by kernel_rfl) (by simp) ?_
          refine AllReadyF.cons (by (simp only [List.getElem?_toArray, List.getElem?_cons_succ, List.getElem?_cons_zero]; rfl)) (fun K hK => ?_) AllReadyF.nil
          go_simp
          have B2 := below_set2 B1 l2 (.int .i64 C2) (.int .i64 V2)
          refine hK.out _ _ ⟨MC.out _ B2, trivial⟩ (fun hNew => ?_)
          replace hHeld := hNew
          clear hK K hNew e0 e1 g0 g1
          try simp only [Act.put, List.setIfInBounds_toArray, List.set_cons_zero, List.set_cons_succ]
          refine wpAnyF_done (by kernel_rfl) ?_ _
          go_wp2_with fail
          go_meet
          exact ⟨_, _, rfl, rfl, l1, l2, k1'.far2 n12.1 (.int .i64 C2) (.int .i64 V2), (k2'.set_ 0 (.int .i64 C2)).set_ 1 (.int .i64 V2), B2⟩
        exact AllReadyF.nil
      refine AllReadyF.cons (by (simp only [List.getElem?_toArray, List.getElem?_cons_succ, List.getElem?_cons_zero]; rfl)) (fun K hK => ?_) ?_
      · skip
        go_simp
        replace M := M.al2
        generalize hQ : wq.alloc (Obj.cells #[Value.int IntKind.i64 0, Value.int IntKind.i64 0] 36) = wb9 at M ⊢
        generalize hP : wq.heap.size = p2 at M ⊢
        clear hQ hP
        refine hK.out _ _ ⟨MC.out _ M.old, trivial⟩ (fun hNew => ?_)
        replace hHeld := hNew
        clear hK K hNew
        try simp only [Act.put, List.setIfInBounds_toArray, List.set_cons_zero, List.set_cons_succ]
        refine wpAnyF_ready (rs := [3, 8]) (by kernel_rfl) (by simp) ?_
        refine AllReadyF.cons (by (simp only [List.getElem?_toArray, List.getElem?_cons_succ, List.getElem?_cons_zero]; rfl)) (fun K hK => ?_) ?_
        · skip
          go_simp
          go_at_call 12
          refine (RH.out _).mono ?_
          rintro e wa3 ⟨rfl, ba⟩
          replace M := M.call ba
          clear ba
          refine hK.out _ _ ⟨MC.out _ M.old, trivial⟩ (fun hNew => ?_)
          replace hHeld := hNew
          clear hK K hNew
          try simp only [Act.put, List.setIfInBounds_toArray, List.set_cons_zero, List.set_cons_succ]
          refine wpAnyF_ready (rs := [7, 8]) (by kernel_rfl) (by simp) ?_
          refine AllReadyF.cons (by (simp only [List.getElem?_toArray, List.getElem?_cons_succ, List.getElem?_cons_zero]; rfl)) (fun K hK => ?_) ?_
          · skip
            go_simp
            go_at_call 20
            refine (NO.out _).mono ?_
            rintro e wa7 ⟨rfl, ba⟩
            replace M := M.call ba
            clear ba
            refine hK.out _ _ ⟨MC.out _ M.old, trivial⟩ (fun hNew => ?_)
            replace hHeld := hNew
            clear hK K hNew
            try simp only [Act.put, List.setIfInBounds_toArray, List.set_cons_zero, List.set_cons_succ]
            refine wpAnyF_ready (rs := [8]) (by kernel_rfl) (by simp) ?_
            refine AllReadyF.cons (by (simp only [List.getElem?_toArray, List.getElem?_cons_succ, List.getElem?_cons_zero]; rfl)) (fun K hK => ?_) AllReadyF.nil
            go_simp
            replace M := M.al1
            generalize hQ : wa7.alloc (Obj.cells #[Value.int IntKind.i64 0, Value.int IntKind.i64 0] 36) = wb8 at M ⊢
            generalize hP : wa7.heap.size = p1 at M ⊢
            clear hQ hP
            refine hK.out _ _ ⟨MC.out _ M.old, trivial⟩ (fun hNew => ?_)
            replace hHeld := hNew
            clear hK K hNew
            try simp only [Act.put, List.setIfInBounds_toArray, List.set_cons_zero, List.set_cons_succ]
            obtain ⟨l1, k1⟩ := M.c1 _ rfl
            obtain ⟨l2, k2⟩ := M.c2 _ rfl
            have n12 := M.ne _ _ rfl rfl
            have d0 := (k1.cell 0).trans (rfl : _ = some (Value.int .i64 0))
            have d1 := (k1.cell 1).trans (rfl : _ = some (Value.int .i64 0))
            have f0 := k1.frozen 0
            have f1 := k1.frozen 1
            refine wpAnyF_ready (rs := [10]) (by kernel_rfl) (by simp) ?_
            refine AllReadyF.cons (by (simp only [List.getElem?_toArray, List.getElem?_cons_succ, List.getElem?_cons_zero]; rfl)) (fun K hK => ?_) AllReadyF.nil
            go_simp
            have B1 := below_set2 M.old l1 (.int .i64 C1) (.int .i64 V1)
            have k1' := (k1.set_ 0 (.int .i64 C1)).set_ 1 (.int .i64 V1)
            have k2' := k2.far2 n12.2 (.int .i64 C1) (.int .i64 V1)
            have e0 := (k2'.cell 0).trans (rfl : _ = some (Value.int .i64 0))
            have e1 := (k2'.cell 1).trans (rfl : _ = some (Value.int .i64 0))
            have g0 := k2'.frozen 0
            have g1 := k2'.frozen 1
            refine hK.out _ _ ⟨MC.out _ B1, trivial⟩ (fun hNew => ?_)
            replace hHeld := hNew
            clear hK K hNew d0 d1 f0 f1
            try simp only [Act.put, List.setIfInBounds_toArray, List.set_cons_zero, List.set_cons_succ]
            refine wpAnyF_ready (rs := [11]) (by kernel_rfl) (by simp) ?_
            refine AllReadyF.cons (by (simp only [List.getElem?_toArray, List.getElem?_cons_succ, List.getElem?_cons_zero]; rfl)) (fun K hK => ?_) AllReadyF.nil
            go_simp
            have B2 := below_set2 B1 l2 (.int .i64 C2) (.int .i64 V2)
            refine hK.out _ _ ⟨MC.out _ B2, trivial⟩ (fun hNew => ?_)
            replace hHeld := hNew
            clear hK K hNew e0 e1 g0 g1
            try simp only [Act.put, List.setIfInBounds_toArray, List.set_cons_zero, List.set_cons_succ]
            refine wpAnyF_done (by kernel_rfl) ?_ _
            go_wp2_with fail
            go_meet
            exact ⟨_, _, rfl, rfl, l1, l2, k1'.far2 n12.1 (.int .i64 C2) (.int .i64 V2), (k2'.set_ 0 (.int .i64 C2)).set_ 1 (.int .i64 V2), B2⟩
          refine AllReadyF.cons (by (simp only [List.getElem?_toArray, List.getElem?_cons_succ, List.getElem?_cons_zero]; rfl)) (fun K hK => ?_) ?_
          · skip
            go_simp
            replace M := M.al1
            generalize hQ : wa3.alloc (Obj.cells #[Value.int IntKind.i64 0, Value.int IntKind.i64 0] 36) = wb8 at M ⊢
            generalize hP : wa3.heap.size = p1 at M ⊢
            clear hQ hP
            refine hK.out _ _ ⟨MC.out _ M.old, trivial⟩ (fun hNew => ?_)
            replace hHeld := hNew
            clear hK K hNew
            try simp only [Act.put, List.setIfInBounds_toArray, List.set_cons_zero, List.set_cons_succ]
            refine wpAnyF_ready (rs := [7]) (by kernel_rfl) (by simp) ?_
            refine AllReadyF.cons (by (simp only [List.getElem?_toArray, List.getElem?_cons_succ, List.getElem?_cons_zero]; rfl)) (fun K hK => ?_) AllReadyF.nil
            go_simp
            go_at_call 20
            refine (NO.out _).mono ?_
            rintro e wa7 ⟨rfl, ba⟩
            replace M := M.call ba
            clear ba
            refine hK.out _ _ ⟨MC.out _ M.old, trivial⟩ (fun hNew => ?_)
            replace hHeld := hNew
            clear hK K hNew
            try simp only [Act.put, List.setIfInBounds_toArray, List.set_cons_zero, List.set_cons_succ]
            obtain ⟨l1, k1⟩ := M.c1 _ rfl
            obtain ⟨l2, k2⟩ := M.c2 _ rfl
            have n12 := M.ne _ _ rfl rfl
            have d0 := (k1.cell 0).trans (rfl : _ = some (Value.int .i64 0))
            have d1 := (k1.cell 1).trans (rfl : _ = some (Value.int .i64 0))
            have f0 := k1.frozen 0
            have f1 := k1.frozen 1
            refine wpAnyF_ready (rs := [10]) (by kernel_rfl) (by simp) ?_
            refine AllReadyF.cons (by (simp only [List.getElem?_toArray, List.getElem?_cons_succ, List.getElem?_cons_zero]; rfl)) (fun K hK => ?_) AllReadyF.nil
            go_simp
            have B1 := below_set2 M.old l1 (.int .i64 C1) (.int .i64 V1)
            have k1' := (k1.set_ 0 (.int .i64 C1)).set_ 1 (.int .i64 V1)
            have k2' := k2.far2 n12.2 (.int .i64 C1) (.int .i64 V1)
            have e0 := (k2'.cell 0).trans (rfl : _ = some (Value.int .i64 0))
            have e1 := (k2'.cell 1).trans (rfl : _ = some (Value.int .i64 0))
            have g0 := k2'.frozen 0
            have g1 := k2'.frozen 1
            refine hK.out _ _ ⟨MC.out _ B1, trivial⟩ (fun hNew => ?_)
            replace hHeld := hNew
            clear hK K hNew d0 d1 f0 f1
            try simp only [Act.put, List.setIfInBounds_toArray, List.set_cons_zero, List.set_cons_succ]
            refine wpAnyF_ready (rs := [11]) (by kernel_rfl) (by simp) ?_
            refine AllReadyF.cons (by (simp only [List.getElem?_toArray, List.getElem?_cons_succ, List.getElem?_cons_zero]; rfl)) (fun K hK => ?_) AllReadyF.nil
            go_simp
            have B2 := below_set2 B1 l2 (.int .i64 C2) (.int .i64 V2)
            refine hK.out _ _ ⟨MC.out _ B2, trivial⟩ (fun hNew => ?_)
            replace hHeld := hNew
            clear hK K hNew e0 e1 g0 g1
            try simp only [Act.put, List.setIfInBounds_toArray, List.set_cons_zero, List.set_cons_succ]
            refine wpAnyF_done (by kernel_rfl) ?_ _
            go_wp2_with fail
            go_meet
            exact ⟨_, _, rfl, rfl, l1, l2, k1'.far2 n12.1 (.int .i64 C2) (.int .i64 V2), (k2'.set_ 0 (.int .i64 C2)).set_ 1 (.int .i64 V2), B2⟩
          exact AllReadyF.nil
        refine AllReadyF.cons (by (simp only [List.getElem?_toArray, List.getElem?_cons_succ, List.getElem?_cons_zero]; rfl)) (fun K hK => ?_) ?_
        · skip
          go_simp
          replace M := M.al1
          generalize hQ : wb9.alloc (Obj.cells #[Value.int IntKind.i64 0, Value.int IntKind.i64 0] 36) = wb8 at M ⊢
          generalize hP : wb9.heap.size = p1 at M ⊢
          clear hQ hP
          refine hK.out _ _ ⟨MC.out _ M.old, trivial⟩ (fun hNew => ?_)
          replace hHeld := hNew
          clear hK K hNew
          try simp only [Act.put, List.setIfInBounds_toArray, List.set_cons_zero, List.set_cons_succ]
          refine wpAnyF_ready (rs := [3]) (by kernel_rfl) (by simp) ?_
          refine AllReadyF.cons (by (simp only [List.getElem?_toArray, List.getElem?_cons_succ, List.getElem?_cons_zero]; rfl)) (fun K hK => ?_) AllReadyF.nil
          go_simp
          go_at_call 12
          refine (RH.out _).mono ?_
          rintro e wa3 ⟨rfl, ba⟩
          replace M := M.call ba
          clear ba
          refine hK.out _ _ ⟨MC.out _ M.old, trivial⟩ (fun hNew => ?_)
          replace hHeld := hNew
          clear hK K hNew
          try simp only [Act.put, List.setIfInBounds_toArray, List.set_cons_zero, List.set_cons_succ]
          refine wpAnyF_ready (rs := [7]) (by kernel_rfl) (by simp) ?_
          refine AllReadyF.cons (by (simp only [List.getElem?_toArray, List.getElem?_cons_succ, List.getElem?_cons_zero]; rfl)) (fun K hK => ?_) AllReadyF.nil
          go_simp
          go_at_call 20
          refine (NO.out _).mono ?_
          rintro e wa7 ⟨rfl, ba⟩
          replace M := M.call ba
          clear ba
          refine hK.out _ _ ⟨MC.out _ M.old, trivial⟩ (fun hNew => ?_)
          replace hHeld := hNew
          clear hK K hNew
          try simp only [Act.put, List.setIfInBounds_toArray, List.set_cons_zero, List.set_cons_succ]
          obtain ⟨l1, k1⟩ := M.c1 _ rfl
          obtain ⟨l2, k2⟩ := M.c2 _ rfl
          have n12 := M.ne _ _ rfl rfl
          have d0 := (k1.cell 0).trans (rfl : _ = some (Value.int .i64 0))
          have d1 := (k1.cell 1).trans (rfl : _ = some (Value.int .i64 0))
          have f0 := k1.frozen 0
          have f1 := k1.frozen 1
          refine wpAnyF_ready (rs := [10]) (by kernel_rfl) (by simp) ?_
          refine AllReadyF.cons (by (simp only [List.getElem?_toArray, List.getElem?_cons_succ, List.getElem?_cons_zero]; rfl)) (fun K hK => ?_) AllReadyF.nil
          go_simp
          have B1 := below_set2 M.old l1 (.int .i64 C1) (.int .i64 V1)
          have k1' := (k1.set_ 0 (.int .i64 C1)).set_ 1 (.int .i64 V1)
          have k2' := k2.far2 n12.2 (.int .i64 C1) (.int .i64 V1)
          have e0 := (k2'.cell 0).trans (rfl : _ = some (Value.int .i64 0))
          have e1 := (k2'.cell 1).trans (rfl : _ = some (Value.int .i64 0))
          have g0 := k2'.frozen 0
          have g1 := k2'.frozen 1
          refine hK.out _ _ ⟨MC.out _ B1, trivial⟩ (fun hNew => ?_)
          replace hHeld := hNew
          clear hK K hNew d0 d1 f0 f1
          try simp only [Act.put, List.setIfInBounds_toArray, List.set_cons_zero, List.set_cons_succ]
          refine wpAnyF_ready (rs := [11]) (by kernel_rfl) (by simp) ?_
          refine AllReadyF.cons (by (simp only [List.getElem?_toArray, List.getElem?_cons_succ, List.getElem?_cons_zero]; rfl)) (fun K hK => ?_) AllReadyF.nil
          go_simp
          have B2 := below_set2 B1 l2 (.int .i64 C2) (.int .i64 V2)
          refine hK.out _ _ ⟨MC.out _ B2, trivial⟩ (fun hNew => ?_)
          replace hHeld := hNew
          clear hK K hNew e0 e1 g0 g1
          try simp only [Act.put, List.setIfInBounds_toArray, List.set_cons_zero, List.set_cons_succ]
          refine wpAnyF_done (by kernel_rfl) ?_ _
          go_wp2_with fail
          go_meet
          exact ⟨_, _, rfl, rfl, l1, l2, k1'.far2 n12.1 (.int .i64 C2) (.int .i64 V2), (k2'.set_ 0 (.int .i64 C2)).set_ 1 (.int .i64 V2), B2⟩
        exact AllReadyF.nil
      exact AllReadyF.nil
    case rest =>
      obtain ⟨p1, p2, rfl, rfl, l1, l2, k1, k2, B2⟩ := hcut
      have d0 := (k1.cell 0).trans (rfl : _ = some (Value.int .i64 C1))
      have d1 := (k1.cell 1).trans (rfl : _ = some (Value.int .i64 V1))
      have e0 := (k2.cell 0).trans (rfl : _ = some (Value.int .i64 C2))
      have e1 := (k2.cell 1).trans (rfl : _ = some (Value.int .i64 V2))
      have hbb := B2.mono hb
      have ho2 := ho.below B2
      have HO0 := hide ho
      clear hc0 hc1 ho MC RH NO
      by_cases ha : 0 ≤ a
      · have e3 : C1 = 0 := by rw [HC1.out]; unfold inC; rw [if_neg (by omega)]
        have e4 : V1 = a := by rw [HV1.out]; unfold inV; rw [if_neg (by omega)]
        subst e3 e4
        by_cases hv : 0 ≤ v
        · have e5 : C2 = 0 := by rw [HC2.out]; unfold inC; rw [if_neg (by omega)]
          have e6 : V2 = v := by rw [HV2.out]; unfold inV; rw [if_neg (by omega)]
          subst e5 e6
          rw [if_pos ⟨ha, hv⟩] at HM
          obtain ⟨gv, rfl⟩ : ∃ g, A = some ⟨g, 0, none⟩ := by
            rcases ho2.row.2 with ⟨h', h''⟩ | ⟨g, cap, cur, h', _⟩
            · omega
            · simp only [Value.slice.injEq, true_and] at h'
              exact ⟨g, h'.1⟩
          obtain ⟨k, hk⟩ : ∃ k, t.length = k + 1 := ⟨t.length - 1, by omega⟩
          have hkt : k < t.length := by omega
          obtain ⟨u, hu, hown, hu3⟩ := ho2.rows k hkt
          obtain ⟨ak, ck, hak⟩ := own_shape hown
          subst hak
          have hxk : wc.cell? ⟨gv, k, none⟩ = some (.slice ak t[k].length ck) := by
            rw [ho2.row.cellAt k (by omega)]
            exact hu
          have hlk := hall _ (List.getElem_mem hkt)
          have hAdd : Hid (addE t ⟨kd, V1, V2⟩ = t.set k (t[k] ++ [⟨kd, V1, V2⟩])) := hide (by
            unfold addE
            rw [show t.length - 1 = k by omega]
            simp [hkt])
          have w1 : IntKind.i64.wrap ((t.length : Int) - 1) = k := by rw [show (t.length : Int) - 1 = k by omega]; exact IntWalk.i64_in _ (by omega)
          obtain ⟨L, hL⟩ : ∃ L, L = t[k] := ⟨_, rfl⟩
          rw [← hL] at hxk hlk hu hown hu3 hAdd
          have HL := hide hL
          have HALL := hide hall
          have hAk : decide (t.length ≤ k) = false := decide_eq_false (by omega)
          have hBk : ¬ t.length ≤ k := by omega
          have hka : (0 : Int) ≤ (k : Int) := by omega
          have hkb : (k : Int) < (t.length : Int) := by omega
          obtain ⟨i0, hi, hz0, hz1, hz2⟩ := info_parts info_event
          have hgvx : gv < wc.heap.size := (ho2.row.lt gv rfl).2
          have zx := hbb.size
          have HK := hide hk
          clear hL hk hall HC1 HC2 HV1 HV2 ha hv
          have hru : ∀ b, (Value.slice ak L.length ck).ownBlock = some b → b < w.heap.size ∧ base ≤ b := fun b e => by
            obtain ⟨_, q1, _⟩ := HO0.out.at_ hu
            exact ⟨(q1.lt b e).2, (q1.lt b e).1⟩
          have hgv0 := HO0.out.row.lt gv rfl
          have hgvb : base ≤ gv := hgv0.1
          have na1 : p1 ≠ gv := by have := hgv0.2; omega
          have na2 : p2 ≠ gv := by have := hgv0.2; omega
          have AS := hide (show ∀ W, Below wc.heap.size wc W → (W.cell? ⟨p1, 1, none⟩ = some (Value.int .i64 V1) ∧ W.cell? ⟨p2, 1, none⟩ = some (Value.int .i64 V2)) ∧ W.cell? ⟨gv, k, none⟩ = some (Value.slice ak L.length ck) from fun W h => ⟨⟨((k1.kept h).cell 1).trans rfl, ((k2.kept h).cell 1).trans rfl⟩, cell_kept h hxk⟩)
          have hbb2 : Below base w wc.drew := hbb.drew
          have bW : Below wc.heap.size wc wc.drew := (Below.refl _ _).drew
          have ho3 : OwnT wc.drew base (.slice (some ⟨gv, 0, none⟩) t.length c) t us := ho2.below (Below.refl _ _).drew
          have hown3 : wc.drew.ownsRow base 39 3 (.slice ak L.length ck) L.length (evs L) := hown
          have k13 : Bk wc.drew p1 #[.int .i64 0, .int .i64 V1] 36 := k1
          have k23 : Bk wc.drew p2 #[.int .i64 0, .int .i64 V2] 36 := k2
          have zy : base ≤ wc.drew.heap.size := by have := hbb2.size; omega
          have H0 := AS.out wc.drew bW
          clear hbb ho2 hown k1 k2 B2
          go_wp2
          clear hxk d0 d1 e0 e1
          refine wp_region_F 13 (fun w' => w'.cell? ⟨p1, 1, none⟩ = some (Value.int .i64 V1) ∧ w'.cell? ⟨p2, 1, none⟩ = some (Value.int .i64 V2)) (fun w' => w'.cell? ⟨gv, k, none⟩ = some (Value.slice ak L.length ck)) (by kernel_rfl) ⟨H0.1, H0.2⟩ (fun hHeld => ?_)
          try simp only [Act.put, List.setIfInBounds_toArray, List.set_cons_zero, List.set_cons_succ]
          have bW2 := hide bW
          clear bW H0
          generalize wc.drew = wy at *
          refine wpAnyF_take (i := 0) (v := ?_) (by (simp only [List.getElem?_toArray, List.getElem?_cons_zero]; rfl)) (by kernel_rfl) (by kernel_rfl) (by kernel_rfl) (by decide) (by exact fun _ _ _ h => h) ⟨hHeld.1, .inr hHeld.2⟩ (Or.inl ⟨by rfl, ?_⟩) ?_
          rotate_left
          · (intro w' _; go_simp <;> with_reducible rfl)
          try simp only [Act.put, List.setIfInBounds_toArray, List.set_cons_zero, List.set_cons_succ]
          refine wpAnyF_take (i := 1) (v := ?_) (by (simp only [List.getElem?_toArray, List.getElem?_cons_succ, List.getElem?_cons_zero]; rfl)) (by kernel_rfl) (by kernel_rfl) (by kernel_rfl) (by decide) (by exact fun _ _ _ h => h) ⟨hHeld.1, .inr hHeld.2⟩ (Or.inl ⟨by rfl, ?_⟩) ?_
          rotate_left
          · (intro w' _; go_simp <;> with_reducible rfl)
          try simp only [Act.put, List.setIfInBounds_toArray, List.set_cons_zero, List.set_cons_succ]
          refine wpAnyF_take (i := 2) (v := ?_) (by (simp only [List.getElem?_toArray, List.getElem?_cons_succ, List.getElem?_cons_zero]; rfl)) (by kernel_rfl) (by kernel_rfl) (by kernel_rfl) (by decide) (by exact fun _ _ _ h => h) ⟨hHeld.1, .inr hHeld.2⟩ (Or.inl ⟨by rfl, ?_⟩) ?_
          rotate_left
          · (intro w' _; go_simp <;> with_reducible rfl)
          try simp only [Act.put, List.setIfInBounds_toArray, List.set_cons_zero, List.set_cons_succ]
          refine wpAnyF_take (i := 3) (v := ?_) (by (simp only [List.getElem?_toArray, List.getElem?_cons_succ, List.getElem?_cons_zero]; rfl)) (by kernel_rfl) (by kernel_rfl) (by kernel_rfl) (by decide) (by exact fun _ _ _ h => h) ⟨hHeld.1, .inr hHeld.2⟩ (Or.inl ⟨by rfl, ?_⟩) ?_
          rotate_left
          · (intro w' _; go_simp <;> with_reducible rfl)
          try simp only [Act.put, List.setIfInBounds_toArray, List.set_cons_zero, List.set_cons_succ]
          refine wpAnyF_take (i := 4) (v := ?_) (by (simp only [List.getElem?_toArray, List.getElem?_cons_succ, List.getElem?_cons_zero]; rfl)) (by kernel_rfl) (by kernel_rfl) (by kernel_rfl) (by decide) (by exact fun _ _ _ h => h) ⟨hHeld.1, .inr hHeld.2⟩ (Or.inl ⟨by rfl, ?_⟩) ?_
          rotate_left
          · (intro w' _; go_simp <;> with_reducible rfl)
          try simp only [Act.put, List.setIfInBounds_toArray, List.set_cons_zero, List.set_cons_succ]
          refine wpAnyF_load (i := 5) (v := ?_) (by (simp only [List.getElem?_toArray, List.getElem?_cons_succ, List.getElem?_cons_zero]; rfl)) (by kernel_rfl) (by kernel_rfl) (by kernel_rfl) (by decide) (by exact fun _ _ _ h => h) hHeld (by kernel_rfl) (by kernel_rfl) (Or.inl ⟨by rfl, ?_⟩) ?_
          rotate_left
          · (intro w' hSw; (try dsimp only at hSw); obtain hSb0 := hSw; go_simp <;> with_reducible rfl)
          try simp only [Act.put, List.setIfInBounds_toArray, List.set_cons_zero, List.set_cons_succ]
          refine wpAnyF_take (i := 6) (v := ?_) (by (simp only [List.getElem?_toArray, List.getElem?_cons_succ, List.getElem?_cons_zero]; rfl)) (by kernel_rfl) (by kernel_rfl) (by kernel_rfl) (by decide) (by exact fun _ _ _ h => h) ⟨hHeld.1, .inr hHeld.2⟩ (Or.inl ⟨by rfl, ?_⟩) ?_
          rotate_left
          · (intro w' _; go_simp <;> with_reducible rfl)
          try simp only [Act.put, List.setIfInBounds_toArray, List.set_cons_zero, List.set_cons_succ]
          refine wpAnyF_take (i := 7) (v := ?_) (by (simp only [List.getElem?_toArray, List.getElem?_cons_succ, List.getElem?_cons_zero]; rfl)) (by kernel_rfl) (by kernel_rfl) (by kernel_rfl) (by decide) (by exact fun _ _ _ h => h) ⟨hHeld.1, .inr hHeld.2⟩ (Or.inl ⟨by rfl, ?_⟩) ?_
          rotate_left
          · (intro w' _; go_simp <;> with_reducible rfl)
          try simp only [Act.put, List.setIfInBounds_toArray, List.set_cons_zero, List.set_cons_succ]
          refine wpAnyF_keep (i := 8) (v := ?_) (by (simp only [List.getElem?_toArray, List.getElem?_cons_succ, List.getElem?_cons_zero]; rfl)) (by kernel_rfl) (by kernel_rfl) (by kernel_rfl) (by decide) (by exact fun _ _ _ h => h) ⟨hHeld.1, .inr hHeld.2⟩ (Or.inl ⟨by rfl, ?_⟩) ?_
          rotate_left
          · (intro w' hSw; (try dsimp only at hSw); obtain ⟨hSa0, hSa1⟩ := hSw; go_simp <;> with_reducible rfl)
          try simp only [Act.put, List.setIfInBounds_toArray, List.set_cons_zero, List.set_cons_succ]
          refine wpAnyF_take (i := 9) (v := ?_) (by (simp only [List.getElem?_toArray, List.getElem?_cons_succ, List.getElem?_cons_zero]; rfl)) (by kernel_rfl) (by kernel_rfl) (by kernel_rfl) (by decide) (by exact fun _ _ _ h => h) ⟨hHeld.1, .inr hHeld.2⟩ (Or.inl ⟨by rfl, ?_⟩) ?_
          rotate_left
          · (intro w' _; go_simp <;> with_reducible rfl)
          try simp only [Act.put, List.setIfInBounds_toArray, List.set_cons_zero, List.set_cons_succ]
          refine wpAnyF_keep (i := 10) (v := ?_) (by (simp only [List.getElem?_toArray, List.getElem?_cons_succ, List.getElem?_cons_zero]; rfl)) (by kernel_rfl) (by kernel_rfl) (by kernel_rfl) (by decide) (by exact fun _ _ _ h => h) ⟨hHeld.1, .inr hHeld.2⟩ (Or.inl ⟨by rfl, ?_⟩) ?_
          rotate_left
          · (intro w' hSw; (try dsimp only at hSw); obtain ⟨hSa0, hSa1⟩ := hSw; go_simp <;> with_reducible rfl)
          try simp only [Act.put, List.setIfInBounds_toArray, List.set_cons_zero, List.set_cons_succ]
          refine wpAnyF_take (i := 11) (v := ?_) (by (simp only [List.getElem?_toArray, List.getElem?_cons_succ, List.getElem?_cons_zero]; rfl)) (by kernel_rfl) (by kernel_rfl) (by kernel_rfl) (by decide) (by exact fun _ _ _ h => h) ⟨hHeld.1, .inr hHeld.2⟩ (Or.inl ⟨by rfl, ?_⟩) ?_
          rotate_left
          · (intro w' _; go_simp <;> with_reducible rfl)
          try simp only [Act.put, List.setIfInBounds_toArray, List.set_cons_zero, List.set_cons_succ]
          refine wpAnyF_ready (rs := [12]) (by kernel_rfl) (by simp) ?_
          refine AllReadyF.cons (by (simp only [List.getElem?_toArray, List.getElem?_cons_succ, List.getElem?_cons_zero]; rfl)) (fun K hK => ?_) AllReadyF.nil
          go_simp
          have hR := RdE.one_new wy ⟨kd, V1, V2⟩ 39
          have HS := AS.out (wy.alloc (.cells #[.int .i64 kd, .int .i64 V1, .int .i64 V2] 39)) (bW2.out.alloc bW2.out.size _)
          refine hK.out _ _ ⟨HS.1, HS.2⟩ (fun hNew => ?_)
          clear hK K hHeld
          have hHeld := hNew
          clear hNew
          try simp only [Act.put, List.setIfInBounds_toArray, List.set_cons_zero, List.set_cons_succ]
          refine wpAnyF_ready (rs := [13]) (by kernel_rfl) (by simp) ?_
          refine AllReadyF.last (by (simp only [List.getElem?_toArray, List.getElem?_cons_succ, List.getElem?_cons_zero]; rfl)) (by kernel_rfl) (fun K hK => ?_) AllReadyF.nil
          refine step_append_re _ (by rfl) (.tmp 43) (.tmp 50) 55 (by rfl) base 39 i0 (.agg #[.int .i64 0, .int .i64 0, .int .i64 0]) 24 Tryz.underlying55 hi hz0 hz1 hz2 rfl (.slice ak L.length ck) L.length (evs L) (by rfl) (hown3.alloc (.cells #[.int .i64 kd, .int .i64 V1, .int .i64 V2] 39)) (some ⟨wy.heap.size, 0, none⟩) [⟨kd, V1, V2⟩] 1 (wy.heap.size + 1) (by rfl) hR (by unfold maxLen; simp only [List.length_cons, List.length_nil]; omega) (by simp only [List.length_cons, List.length_nil]; omega) (by simp; omega) ?_
          intro v' w7 hown' hgrow hat
          simp only [List.length_cons, List.length_nil, Nat.zero_add] at hown'
          obtain ⟨D5, d5, hv5⟩ := own_shape hown'
          subst hv5
          have k17 := (k13.alloc (.cells #[.int .i64 kd, .int .i64 V1, .int .i64 V2] 39)).grown hgrow (fun e => by have := (hru p1 e.symm).1; omega)
          have k27 := (k23.alloc (.cells #[.int .i64 kd, .int .i64 V1, .int .i64 V2] 39)).grown hgrow (fun e => by have := (hru p2 e.symm).1; omega)
          have row5 := (ho3.row.alloc (.cells #[.int .i64 kd, .int .i64 V1, .int .i64 V2] 39)).kept hgrow (own_sep fun b hb e => by simp only [Value.ownBlock, Option.some.injEq] at hb; subst hb; exact hu3 _ e rfl)
          have hf5 := row5.frozenAt k
          have hc5 : w7.cell? ⟨gv, k, none⟩ = some (.slice ak L.length ck) := by rw [row5.cellAt k (by omega)]; exact hu
          have A5 : w7.cell? ⟨p1, 1, none⟩ = some (Value.int .i64 V1) ∧ w7.cell? ⟨p2, 1, none⟩ = some (Value.int .i64 V2) := ⟨(k17.cell 1).trans rfl, (k27.cell 1).trans rfl⟩
          have A6 : ∀ x, (w7.setCell ⟨gv, k, none⟩ x).cell? ⟨p1, 1, none⟩ = some (Value.int .i64 V1) ∧ (w7.setCell ⟨gv, k, none⟩ x).cell? ⟨p2, 1, none⟩ = some (Value.int .i64 V2) := fun x => ⟨((k17.far (p := ⟨gv, k, none⟩) na1 x).cell 1).trans rfl, ((k27.far (p := ⟨gv, k, none⟩) na2 x).cell 1).trans rfl⟩
          have HOX := hide hown'
          have HGR := hide hgrow
          have HAT := hide hat
          clear hown' hgrow hat row5 k17 k27 hR HS
          refine hK.out _ _ A5 ?_
          clear hK K
          try simp only [Act.put, List.setIfInBounds_toArray, List.set_cons_zero, List.set_cons_succ]
          refine wpAnyF_take (i := 14) (v := ?_) (by (simp only [List.getElem?_toArray, List.getElem?_cons_succ, List.getElem?_cons_zero]; rfl)) (by kernel_rfl) (by kernel_rfl) (by kernel_rfl) (by decide) (by exact fun _ _ _ h => h) ⟨A5, .inl (by kernel_rfl)⟩ (Or.inl ⟨by rfl, ?_⟩) ?_
          rotate_left
          · (intro w' _; go_simp <;> with_reducible rfl)
          try simp only [Act.put, List.setIfInBounds_toArray, List.set_cons_zero, List.set_cons_succ]
          refine wpAnyF_ready (rs := [15]) (by kernel_rfl) (by simp) ?_
          refine AllReadyF.last (by (simp only [List.getElem?_toArray, List.getElem?_cons_succ, List.getElem?_cons_zero]; rfl)) (by kernel_rfl) (fun K hK => ?_) AllReadyF.nil
          go_simp
          refine hK.out _ _ (A6 _) ?_
          clear hK K
          try simp only [Act.put, List.setIfInBounds_toArray, List.set_cons_zero, List.set_cons_succ]
          refine wpAnyF_done (by kernel_rfl) ?_ _
          go_wp2
          go_returns
          have hl1 : (L ++ [(⟨kd, V1, V2⟩ : Ev)]).length = L.length + 1 := by simp
          have oS := (ho3.alloc (.cells #[.int .i64 kd, .int .i64 V1, .int .i64 V2] 39)).swap (es' := L ++ [(⟨kd, V1, V2⟩ : Ev)]) hu HGR.out (fun b e => .inl e) (by rw [evs_append, hl1]; exact HOX.out) (fun b hb => by
            rcases HAT.out with e | e
            · exact .inl (e.symm.trans hb)
            · rw [e] at hb; simp only [Option.some.injEq] at hb; exact .inr (Nat.le_of_eq hb))
          have bW : Below base w (w7.setCell ⟨gv, k, none⟩ (.slice D5 (L.length + 1) d5)) := ((hbb2.alloc zy _).trans (grown_below (hown3.alloc (.cells #[.int .i64 kd, .int .i64 V1, .int .i64 V2] 39)) HGR.out (by simp; omega) (Nat.le_refl _))).setCell (show base ≤ gv from hgvb) _
          refine .inl ⟨t.set k (L ++ [⟨kd, V1, V2⟩]), some ⟨gv, 0, none⟩, c, us.set k (.slice D5 (L.length + 1) d5), by rw [HM.out, hAdd.out], by rw [List.length_set]; rfl, ?_, bW⟩
          rw [List.length_set]
          exact oS
        · have e5 : C2 = 5 := by rw [HC2.out]; unfold inC; rw [if_pos (by omega)]
          subst e5
          rw [if_neg (fun h => hv h.2)] at HM
          clear HC1 HC2 HV1 HV2 ha hv
          go_wp2
          go_returns
          exact .inr ⟨HM.out, rfl, hbb⟩
      · have e3 : C1 = 5 := by rw [HC1.out]; unfold inC; rw [if_pos (by omega)]
        subst e3
        rw [if_neg (fun h => ha h.1)] at HM
        clear HC1 HC2 HV1 HV2 ha
        go_wp2
        go_returns
        exact .inr ⟨HM.out, rfl, hbb⟩
  · have hM : evM t kd wd = none := by unfold evM; rw [if_neg (fun h => h1 ⟨h.1, h.2.1⟩)]
    rw [hM]
    clear hM
    by_cases h2 : wd.length = 2
    · have q0 : ((t.length : Int) == 0) = true := beq_iff_eq.2 (by omega)
      have q1 : ((wd.length : Int) != 2) = false := by rw [h2]; rfl
      clear h1 h2
      go_enter Tryz.func75, Tryz.ntmps75
      go_wp2
      go_returns
      exact .inr ⟨rfl, rfl, Below.refl _ _⟩
    · have q1 : ((wd.length : Int) != 2) = true := bne_iff_ne.2 (by omega)
      clear h1 h2
      go_enter Tryz.func75, Tryz.ntmps75
      go_wp2
      go_returns
      exact .inr ⟨rfl, rfl, Below.refl _ _⟩
end Go.Proofs.YtmdaianbhpppfaaGreatDoor
