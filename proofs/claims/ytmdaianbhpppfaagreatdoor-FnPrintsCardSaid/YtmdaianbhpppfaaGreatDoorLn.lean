/- The contract of the document's l5Line: the event of a line. -/
import Derived.Test.YtmdaianbhpppfaaGreatDoorCutD
import Derived.Test.YtmdaianbhpppfaaGreatDoorGHeld
import Derived.Test.YtmdaianbhpppfaaGreatDoorGEv
import Derived.Deep.DeepCutAuto
namespace Go.Proofs.YtmdaianbhpppfaaGreatDoor
open Go.RowKit

/-- A new event variable, which lies or not. -/
structure E1 (w : World) (g1 : Option Nat) (W : World) : Prop where
  old : Below w.heap.size w W
  c1 : ∀ p, g1 = some p → w.heap.size ≤ p ∧ Bk W p #[.int .i64 0, .int .i64 0, .int .i64 0] 39
theorem E1.al {w W : World} (h : E1 w none W) : E1 w (some W.heap.size) (W.alloc (Obj.cells #[Value.int IntKind.i64 0, Value.int IntKind.i64 0, Value.int IntKind.i64 0] 39)) :=
  ⟨h.old.alloc h.old.size _, fun p e => by cases e; exact ⟨h.old.size, Bk.new _ _ _⟩⟩
theorem below_set3 {w W : World} {B p : Nat} (h : Below B w W) (hp : B ≤ p) (u v x : Value) : Below B w (((W.setCell ⟨p, 0, none⟩ u).setCell ⟨p, 1, none⟩ v).setCell ⟨p, 2, none⟩ x) := ((h.setCell (p := ⟨p, 0, none⟩) hp u).setCell (p := ⟨p, 1, none⟩) hp v).setCell (p := ⟨p, 2, none⟩) hp x
theorem Bk.far3 {w : World} {g p : Nat} {cs : Array Value} {t : TypeId} (h : Bk w g cs t) (hp : g ≠ p) (u v x : Value) : Bk (((w.setCell ⟨p, 0, none⟩ u).setCell ⟨p, 1, none⟩ v).setCell ⟨p, 2, none⟩ x) g cs t := ((h.far (p := ⟨p, 0, none⟩) hp u).far (p := ⟨p, 1, none⟩) hp v).far (p := ⟨p, 2, none⟩) hp x

theorem res_bk {w W w1 : World} {cs : Array Value} {t : TypeId} (hW : W = w.alloc (Obj.cells cs t)) (hb : Below W.heap.size W w1) : Bk w1 w.heap.size cs t := by
  subst hW
  exact (Bk.new w cs t).kept hb

/-- What a line tells: an event, and whether it is one. -/
def LnPost (ws : List (List Int)) (w : World) (e : Ending) (w' : World) : Prop :=
  ∃ x : Ev, e = .returned (.tuple #[evV x.k x.a x.v, .bool (decide (lnOk ws))]) ∧ (lnOk ws → x = lnE ws) ∧ Below w.heap.size w w'

set_option maxRecDepth 100000 in
set_option maxHeartbeats 3200000 in
theorem l5Line_any (l : List Int) (w : World) (b8 : B8 l) (hl : l.length ≤ 2000) :
    Calls Tryz.prog 69 #[.string (strOfNums l)] w (LnPost (cutS 32 [] l) w) := by
  obtain ⟨W, hW⟩ : ∃ W, W = w.alloc (Obj.cells #[Value.int .i64 0, .int .i64 0, .int .i64 0] 39) := ⟨_, rfl⟩
  have HW := hide hW
  have CU := hide (l1Cut_any l 32 W b8 (by omega))
  have hB8 := cutS_B8 32 l [] b8 (fun x h => by simp at h)
  have hLen := cutS_len 32 l []
  have hCnt := cutS_count 32 l []
  generalize cutS 32 [] l = ws at CU hB8 hLen hCnt ⊢
  simp only [List.length_nil, Nat.zero_add] at hLen
  unfold CutPost at CU
  unfold LnPost
  clear hW
  by_cases h3 : ws.length = 3 ∧ (ws.getD 0 [] = [114] ∨ ws.getD 0 [] = [119])
  · obtain ⟨h3, h01⟩ := h3
    obtain ⟨x0, x1, x2, rfl⟩ : ∃ x0 x1 x2, ws = [x0, x1, x2] := ⟨_, _, _, three h3⟩
    simp only [List.getD_cons_zero] at h01
    have hx0 := hB8 x0 (List.mem_cons_self ..)
    have hx1 := hB8 x1 (List.mem_cons_of_mem _ (List.mem_cons_self ..))
    have hx2 := hB8 x2 (List.mem_cons_of_mem _ (List.mem_cons_of_mem _ (List.mem_cons_self ..)))
    have hl1 := hLen x1 (List.mem_cons_of_mem _ (List.mem_cons_self ..))
    have hl2 := hLen x2 (List.mem_cons_of_mem _ (List.mem_cons_of_mem _ (List.mem_cons_self ..)))
    have RH := hide (fun w => l5ReadHex_any x1 w hx1 (by unfold maxLen; omega))
    have NO : Hid (∀ w, Calls Tryz.prog 48 #[.string (strOfNums x2), .int .i64 10, .int .i64 6] w fun e w' => e = .returned (.int .i64 (numL 10 6 x2)) ∧ w = w') := hide (fun w => l5Number_any x2 10 6 w (by omega) (by omega) (by omega) hx2 (by unfold maxLen; omega))
    have s1 := seq_lit hx0 (m := [119]) (fun y hy => by simp at hy; omega) (u := [119]) rfl
    have s2 := seq_lit hx0 (m := [114]) (fun y hy => by simp at hy; omega) (u := [114]) rfl
    have hOk : lnOk [x0, x1, x2] ↔ evF (lnE [x0, x1, x2]) = 0 := by
      unfold lnOk
      simp only [List.length_cons, List.length_nil, List.getD_cons_zero]
      exact ⟨fun h => h.2.2, fun h => ⟨trivial, h01, h⟩⟩
    have hE : lnE [x0, x1, x2] = ⟨if x0 = [119] then 1 else 0, hexV x1, numL 10 6 x2⟩ := rfl
    generalize hexV x1 = a at RH hE
    generalize numL 10 6 x2 = v at NO hE
    have EFk := fun (kd : Int) => hide (fun w => specEvF_any kd a v w)
    clear hB8 hLen hCnt hx1 hx2 hl1 hl2 h3 b8 hl
    rcases h01 with h01 | h01
    · have hE2 : lnE [x0, x1, x2] = ⟨0, a, v⟩ := by rw [hE, h01]; rfl
      replace s1 : ((strOfNums x0).toList == [119]) = false := by rw [s1, h01]; rfl
      replace s2 : ((strOfNums x0).toList == [114]) = true := by rw [s2, h01]; rfl
      have HE := hide hE2
      rw [hE2] at hOk
      have EF := EFk 0
      obtain ⟨F, hF⟩ : ∃ F, F = evF ⟨0, a, v⟩ := ⟨_, rfl⟩
      rw [← hF] at EF hOk
      have HB : Hid (decide (lnOk [x0, x1, x2]) = (F == 0)) := hide (by
        by_cases h0 : F = 0
        · rw [decide_eq_true (hOk.2 h0), beq_iff_eq.2 h0]
        · rw [decide_eq_false (fun h => h0 (hOk.1 h)), beq_eq_false_iff_ne.2 h0])
      clear hE hE2 hOk hF EFk h01
      simp only [List.length_cons, List.length_nil] at CU
      go_enter Tryz.func69, Tryz.ntmps69
      go_wp2_with fail
      rw [← HW.out]
      refine CU.out.mono ?_
      rintro e w1 ⟨A, c, rfl, hc, hr, _, hb⟩
      obtain ⟨b, off, rfl, hbb, hcc⟩ := hr.all (by simp)
      have hc0 := hcc 0 (by simp)
      have hc1 := hcc 1 (by simp)
      have hc2 := hcc 2 (by simp)
      rw [Nat.add_zero] at hc0
      simp only [List.getElem_cons_zero, List.getElem_cons_succ] at hc0 hc1 hc2
      have MC := hide (show ∀ W, Below w1.heap.size w1 W → W.cell? ⟨b, off + 1, none⟩ = some (.string (strOfNums x1)) ∧ W.cell? ⟨b, off + 2, none⟩ = some (.string (strOfNums x2)) from fun W h => ⟨cell_kept h hc1, cell_kept h hc2⟩)
      have MC0 := hide (show ∀ W, Below w1.heap.size w1 W → W.cell? ⟨b, off, none⟩ = some (.string (strOfNums x0)) from fun W h => cell_kept h hc0)
      have HBW := hide hb
      have hlt := W_lt HW.out hb
      clear CU hcc hr hb
      go_wp2_with fail
      go_cut [5] (fun s wx => ∃ p, s = .pointer (some ⟨p, 0, none⟩) ∧ w1.heap.size ≤ p ∧ Bk wx p #[.int .i64 0, .int .i64 a, .int .i64 v] 39 ∧ Below w1.heap.size w1 wx)
      case first =>
        clear hc0
        have M : E1 w1 none w1.drew := ⟨(Below.refl _ _).drew, fun p h => by (cases h)⟩
        refine wp_region_F 99 (fun w' => w'.cell? ⟨b, off + 1, none⟩ = some (.string (strOfNums x1)) ∧ w'.cell? ⟨b, off + 2, none⟩ = some (.string (strOfNums x2))) (fun w' => True) (by kernel_rfl) ⟨MC.out _ M.old, trivial⟩ (fun hHeld => ?_)
        try simp only [Act.put, List.setIfInBounds_toArray, List.set_cons_zero, List.set_cons_succ]
        generalize hq : w1.drew = wq at M hHeld ⊢
        clear hq
        refine wpAnyF_take (i := 0) (v := ?_) (by (simp only [List.getElem?_toArray, List.getElem?_cons_zero]; rfl)) (by kernel_rfl) (by kernel_rfl) (by kernel_rfl) (by decide) (by exact fun _ _ _ h => h) ⟨hHeld.1, .inr hHeld.2⟩ (Or.inl ⟨by rfl, ?_⟩) ?_
        rotate_left
        · (intro w' _; go_simp <;> with_reducible rfl)
        try simp only [Act.put, List.setIfInBounds_toArray, List.set_cons_zero, List.set_cons_succ]
        refine wpAnyF_take (i := 1) (v := ?_) (by (simp only [List.getElem?_toArray, List.getElem?_cons_succ, List.getElem?_cons_zero]; rfl)) (by kernel_rfl) (by kernel_rfl) (by kernel_rfl) (by decide) (by exact fun _ _ _ h => h) ⟨hHeld.1, .inr hHeld.2⟩ (Or.inl ⟨by rfl, ?_⟩) ?_
        rotate_left
        · (intro w' _; go_simp <;> with_reducible rfl)
        try simp only [Act.put, List.setIfInBounds_toArray, List.set_cons_zero, List.set_cons_succ]
        refine wpAnyF_keep (i := 2) (v := ?_) (by (simp only [List.getElem?_toArray, List.getElem?_cons_succ, List.getElem?_cons_zero]; rfl)) (by kernel_rfl) (by kernel_rfl) (by kernel_rfl) (by decide) (by exact fun _ _ _ h => h) ⟨hHeld.1, .inr hHeld.2⟩ (Or.inl ⟨by rfl, ?_⟩) ?_
        rotate_left
        · (intro w' hSw; (try dsimp only at hSw); obtain ⟨hSa0, hSa1⟩ := hSw; go_simp <;> with_reducible rfl)
        try simp only [Act.put, List.setIfInBounds_toArray, List.set_cons_zero, List.set_cons_succ]
        refine wpAnyF_take (i := 4) (v := ?_) (by (simp only [List.getElem?_toArray, List.getElem?_cons_succ, List.getElem?_cons_zero]; rfl)) (by kernel_rfl) (by kernel_rfl) (by kernel_rfl) (by decide) (by exact fun _ _ _ h => h) ⟨hHeld.1, .inr hHeld.2⟩ (Or.inl ⟨by rfl, ?_⟩) ?_
        rotate_left
        · (intro w' _; go_simp <;> with_reducible rfl)
        try simp only [Act.put, List.setIfInBounds_toArray, List.set_cons_zero, List.set_cons_succ]
        refine wpAnyF_take (i := 5) (v := ?_) (by (simp only [List.getElem?_toArray, List.getElem?_cons_succ, List.getElem?_cons_zero]; rfl)) (by kernel_rfl) (by kernel_rfl) (by kernel_rfl) (by decide) (by exact fun _ _ _ h => h) ⟨hHeld.1, .inr hHeld.2⟩ (Or.inl ⟨by rfl, ?_⟩) ?_
        rotate_left
        · (intro w' _; go_simp <;> with_reducible rfl)
        try simp only [Act.put, List.setIfInBounds_toArray, List.set_cons_zero, List.set_cons_succ]
        refine wpAnyF_keep (i := 6) (v := ?_) (by (simp only [List.getElem?_toArray, List.getElem?_cons_succ, List.getElem?_cons_zero]; rfl)) (by kernel_rfl) (by kernel_rfl) (by kernel_rfl) (by decide) (by exact fun _ _ _ h => h) ⟨hHeld.1, .inr hHeld.2⟩ (Or.inl ⟨by rfl, ?_⟩) ?_
        rotate_left
        · (intro w' hSw; (try dsimp only at hSw); obtain ⟨hSa0, hSa1⟩ := hSw; go_simp <;> with_reducible rfl)
        try simp only [Act.put, List.setIfInBounds_toArray, List.set_cons_zero, List.set_cons_succ]
        refine wpAnyF_ready (rs := [3, 9]) (by kernel_rfl) (by simp) ?_
        refine AllReadyF.cons (by (simp only [List.getElem?_toArray, List.getElem?_cons_succ, List.getElem?_cons_zero]; rfl)) (fun K hK => ?_) ?_
        · skip
          go_simp
          go_at_call 47
          refine (RH.out _).mono ?_
          rintro e wa ⟨rfl, rfl⟩
          refine hK.out _ _ ⟨MC.out _ M.old, trivial⟩ (fun hNew => ?_)
          replace hHeld := hNew
          clear hK K hNew
          try simp only [Act.put, List.setIfInBounds_toArray, List.set_cons_zero, List.set_cons_succ]
          refine wpAnyF_ready (rs := [7, 9]) (by kernel_rfl) (by simp) ?_
          refine AllReadyF.cons (by (simp only [List.getElem?_toArray, List.getElem?_cons_succ, List.getElem?_cons_zero]; rfl)) (fun K hK => ?_) ?_
          · skip
            go_simp
            go_at_call 48
            refine (NO.out _).mono ?_
            rintro e wa ⟨rfl, rfl⟩
            refine hK.out _ _ ⟨MC.out _ M.old, trivial⟩ (fun hNew => ?_)
            replace hHeld := hNew
            clear hK K hNew
            try simp only [Act.put, List.setIfInBounds_toArray, List.set_cons_zero, List.set_cons_succ]
            refine wpAnyF_take (i := 8) (v := ?_) (by (simp only [List.getElem?_toArray, List.getElem?_cons_succ, List.getElem?_cons_zero]; rfl)) (by kernel_rfl) (by kernel_rfl) (by kernel_rfl) (by decide) (by exact fun _ _ _ h => h) ⟨hHeld.1, .inr hHeld.2⟩ (Or.inl ⟨by rfl, ?_⟩) ?_
            rotate_left
            · (intro w' _; go_simp <;> with_reducible rfl)
            try simp only [Act.put, List.setIfInBounds_toArray, List.set_cons_zero, List.set_cons_succ]
            refine wpAnyF_ready (rs := [9]) (by kernel_rfl) (by simp) ?_
            refine AllReadyF.cons (by (simp only [List.getElem?_toArray, List.getElem?_cons_succ, List.getElem?_cons_zero]; rfl)) (fun K hK => ?_) AllReadyF.nil
            go_simp
            replace M := M.al
            generalize hQ : wq.alloc (Obj.cells #[Value.int IntKind.i64 0, Value.int IntKind.i64 0, Value.int IntKind.i64 0] 39) = wb at M ⊢
            generalize hP : wq.heap.size = p at M ⊢
            clear hQ hP
            refine hK.out _ _ ⟨MC.out _ M.old, trivial⟩ (fun hNew => ?_)
            replace hHeld := hNew
            clear hK K hNew
            try simp only [Act.put, List.setIfInBounds_toArray, List.set_cons_zero, List.set_cons_succ]
            obtain ⟨l1, k1⟩ := M.c1 _ rfl
            have d0 := (k1.cell 0).trans (rfl : _ = some (Value.int .i64 0))
            have d1 := (k1.cell 1).trans (rfl : _ = some (Value.int .i64 0))
            have d2 := (k1.cell 2).trans (rfl : _ = some (Value.int .i64 0))
            have f0 := k1.frozen 0
            have f1 := k1.frozen 1
            have f2 := k1.frozen 2
            refine wpAnyF_ready (rs := [10]) (by kernel_rfl) (by simp) ?_
            refine AllReadyF.cons (by (simp only [List.getElem?_toArray, List.getElem?_cons_succ, List.getElem?_cons_zero]; rfl)) (fun K hK => ?_) AllReadyF.nil
            go_simp
            have B1 := below_set3 M.old l1 (.int .i64 0) (.int .i64 a) (.int .i64 v)
            have k1' := ((k1.set_ 0 (.int .i64 0)).set_ 1 (.int .i64 a)).set_ 2 (.int .i64 v)
            refine hK.out _ _ ⟨MC.out _ B1, trivial⟩ (fun hNew => ?_)
            clear hK K hNew d0 d1 d2 f0 f1 f2
            try simp only [Act.put, List.setIfInBounds_toArray, List.set_cons_zero, List.set_cons_succ]
            refine wpAnyF_done (by kernel_rfl) ?_ _
            go_wp2_with fail
            go_meet
            exact ⟨_, rfl, l1, k1', B1⟩
          refine AllReadyF.cons (by (simp only [List.getElem?_toArray, List.getElem?_cons_succ, List.getElem?_cons_zero]; rfl)) (fun K hK => ?_) ?_
          · skip
            go_simp
            replace M := M.al
            generalize hQ : wq.alloc (Obj.cells #[Value.int IntKind.i64 0, Value.int IntKind.i64 0, Value.int IntKind.i64 0] 39) = wb at M ⊢
            generalize hP : wq.heap.size = p at M ⊢
            clear hQ hP
            refine hK.out _ _ ⟨MC.out _ M.old, trivial⟩ (fun hNew => ?_)
            replace hHeld := hNew
            clear hK K hNew
            try simp only [Act.put, List.setIfInBounds_toArray, List.set_cons_zero, List.set_cons_succ]
            refine wpAnyF_ready (rs := [7]) (by kernel_rfl) (by simp) ?_
            refine AllReadyF.cons (by (simp only [List.getElem?_toArray, List.getElem?_cons_succ, List.getElem?_cons_zero]; rfl)) (fun K hK => ?_) AllReadyF.nil
            go_simp
            go_at_call 48
            refine (NO.out _).mono ?_
            rintro e wa ⟨rfl, rfl⟩
            refine hK.out _ _ ⟨MC.out _ M.old, trivial⟩ (fun hNew => ?_)
            replace hHeld := hNew
            clear hK K hNew
            try simp only [Act.put, List.setIfInBounds_toArray, List.set_cons_zero, List.set_cons_succ]
            refine wpAnyF_take (i := 8) (v := ?_) (by (simp only [List.getElem?_toArray, List.getElem?_cons_succ, List.getElem?_cons_zero]; rfl)) (by kernel_rfl) (by kernel_rfl) (by kernel_rfl) (by decide) (by exact fun _ _ _ h => h) ⟨hHeld.1, .inr hHeld.2⟩ (Or.inl ⟨by rfl, ?_⟩) ?_
            rotate_left
            · (intro w' _; go_simp <;> with_reducible rfl)
            try simp only [Act.put, List.setIfInBounds_toArray, List.set_cons_zero, List.set_cons_succ]
            obtain ⟨l1, k1⟩ := M.c1 _ rfl
            have d0 := (k1.cell 0).trans (rfl : _ = some (Value.int .i64 0))
            have d1 := (k1.cell 1).trans (rfl : _ = some (Value.int .i64 0))
            have d2 := (k1.cell 2).trans (rfl : _ = some (Value.int .i64 0))
            have f0 := k1.frozen 0
            have f1 := k1.frozen 1
            have f2 := k1.frozen 2
            refine wpAnyF_ready (rs := [10]) (by kernel_rfl) (by simp) ?_
            refine AllReadyF.cons (by (simp only [List.getElem?_toArray, List.getElem?_cons_succ, List.getElem?_cons_zero]; rfl)) (fun K hK => ?_) AllReadyF.nil
            go_simp
            have B1 := below_set3 M.old l1 (.int .i64 0) (.int .i64 a) (.int .i64 v)
            have k1' := ((k1.set_ 0 (.int .i64 0)).set_ 1 (.int .i64 a)).set_ 2 (.int .i64 v)
            refine hK.out _ _ ⟨MC.out _ B1, trivial⟩ (fun hNew => ?_)
            clear hK K hNew d0 d1 d2 f0 f1 f2
            try simp only [Act.put, List.setIfInBounds_toArray, List.set_cons_zero, List.set_cons_succ]
            refine wpAnyF_done (by kernel_rfl) ?_ _
            go_wp2_with fail
            go_meet
            exact ⟨_, rfl, l1, k1', B1⟩
          exact AllReadyF.nil
        refine AllReadyF.cons (by (simp only [List.getElem?_toArray, List.getElem?_cons_succ, List.getElem?_cons_zero]; rfl)) (fun K hK => ?_) ?_
        · skip
          go_simp
          replace M := M.al
          generalize hQ : wq.alloc (Obj.cells #[Value.int IntKind.i64 0, Value.int IntKind.i64 0, Value.int IntKind.i64 0] 39) = wb at M ⊢
          generalize hP : wq.heap.size = p at M ⊢
          clear hQ hP
          refine hK.out _ _ ⟨MC.out _ M.old, trivial⟩ (fun hNew => ?_)
          replace hHeld := hNew
          clear hK K hNew
          try simp only [Act.put, List.setIfInBounds_toArray, List.set_cons_zero, List.set_cons_succ]
          refine wpAnyF_ready (rs := [3]) (by kernel_rfl) (by simp) ?_
          refine AllReadyF.cons (by (simp only [List.getElem?_toArray, List.getElem?_cons_succ, List.getElem?_cons_zero]; rfl)) (fun K hK => ?_) AllReadyF.nil
          go_simp
          go_at_call 47
          refine (RH.out _).mono ?_
          rintro e wa ⟨rfl, rfl⟩
          refine hK.out _ _ ⟨MC.out _ M.old, trivial⟩ (fun hNew => ?_)
          replace hHeld := hNew
          clear hK K hNew
          try simp only [Act.put, List.setIfInBounds_toArray, List.set_cons_zero, List.set_cons_succ]
          refine wpAnyF_ready (rs := [7]) (by kernel_rfl) (by simp) ?_
          refine AllReadyF.cons (by (simp only [List.getElem?_toArray, List.getElem?_cons_succ, List.getElem?_cons_zero]; rfl)) (fun K hK => ?_) AllReadyF.nil
          go_simp
          go_at_call 48
          refine (NO.out _).mono ?_
          rintro e wa ⟨rfl, rfl⟩
          refine hK.out _ _ ⟨MC.out _ M.old, trivial⟩ (fun hNew => ?_)
          replace hHeld := hNew
          clear hK K hNew
          try simp only [Act.put, List.setIfInBounds_toArray, List.set_cons_zero, List.set_cons_succ]
          refine wpAnyF_take (i := 8) (v := ?_) (by (simp only [List.getElem?_toArray, List.getElem?_cons_succ, List.getElem?_cons_zero]; rfl)) (by kernel_rfl) (by kernel_rfl) (by kernel_rfl) (by decide) (by exact fun _ _ _ h => h) ⟨hHeld.1, .inr hHeld.2⟩ (Or.inl ⟨by rfl, ?_⟩) ?_
          rotate_left
          · (intro w' _; go_simp <;> with_reducible rfl)
          try simp only [Act.put, List.setIfInBounds_toArray, List.set_cons_zero, List.set_cons_succ]
          obtain ⟨l1, k1⟩ := M.c1 _ rfl
          have d0 := (k1.cell 0).trans (rfl : _ = some (Value.int .i64 0))
          have d1 := (k1.cell 1).trans (rfl : _ = some (Value.int .i64 0))
          have d2 := (k1.cell 2).trans (rfl : _ = some (Value.int .i64 0))
          have f0 := k1.frozen 0
          have f1 := k1.frozen 1
          have f2 := k1.frozen 2
          refine wpAnyF_ready (rs := [10]) (by kernel_rfl) (by simp) ?_
          refine AllReadyF.cons (by (simp only [List.getElem?_toArray, List.getElem?_cons_succ, List.getElem?_cons_zero]; rfl)) (fun K hK => ?_) AllReadyF.nil
          go_simp
          have B1 := below_set3 M.old l1 (.int .i64 0) (.int .i64 a) (.int .i64 v)
          have k1' := ((k1.set_ 0 (.int .i64 0)).set_ 1 (.int .i64 a)).set_ 2 (.int .i64 v)
          refine hK.out _ _ ⟨MC.out _ B1, trivial⟩ (fun hNew => ?_)
          clear hK K hNew d0 d1 d2 f0 f1 f2
          try simp only [Act.put, List.setIfInBounds_toArray, List.set_cons_zero, List.set_cons_succ]
          refine wpAnyF_done (by kernel_rfl) ?_ _
          go_wp2_with fail
          go_meet
          exact ⟨_, rfl, l1, k1', B1⟩
        exact AllReadyF.nil
      case rest =>
        obtain ⟨p, rfl, hp, kp, B2⟩ := hcut
        have hc0 := MC0.out _ B2
        have d0 := (kp.cell 0).trans (rfl : _ = some (Value.int .i64 0))
        have f0 := kp.frozen 0
        clear hc1 hc2 MC RH NO
        go_wp2_with fail
        have kq : Bk (wc) p #[.int .i64 0, .int .i64 a, .int .i64 v] 39 := kp
        have B3 : Below w1.heap.size w1 (wc) := B2
        have HK7 := hide (HBW.out.trans (B3.mono HBW.out.size))
        clear d0 f0 hc0 kp B2 MC0
        generalize wc = wk at *
        have AC := hide (show ∀ W, Below wk.heap.size wk W → W.cell? ⟨p, 0, none⟩ = some (.int .i64 0) ∧ W.cell? ⟨p, 0 + 1, none⟩ = some (.int .i64 a) ∧ W.cell? ⟨p, 0 + 2, none⟩ = some (.int .i64 v) from fun W h => ⟨((kq.kept h).cell 0).trans rfl, ((kq.kept h).cell 1).trans rfl, ((kq.kept h).cell 2).trans rfl⟩)
        have AS := hide (show ∀ W, Below wk.heap.size wk W → ∀ x y z, (((W.setCell ⟨w.heap.size, 0, none⟩ x).setCell ⟨w.heap.size, 1, none⟩ y).setCell ⟨w.heap.size, 2, none⟩ z).cell? ⟨p, 0, none⟩ = some (.int .i64 0) ∧ (((W.setCell ⟨w.heap.size, 0, none⟩ x).setCell ⟨w.heap.size, 1, none⟩ y).setCell ⟨w.heap.size, 2, none⟩ z).cell? ⟨p, 0 + 1, none⟩ = some (.int .i64 a) ∧ (((W.setCell ⟨w.heap.size, 0, none⟩ x).setCell ⟨w.heap.size, 1, none⟩ y).setCell ⟨w.heap.size, 2, none⟩ z).cell? ⟨p, 0 + 2, none⟩ = some (.int .i64 v) from fun W h x y z => ⟨(((kq.kept h).far3 (by omega) x y z).cell 0).trans rfl, (((kq.kept h).far3 (by omega) x y z).cell 1).trans rfl, (((kq.kept h).far3 (by omega) x y z).cell 2).trans rfl⟩)
        clear kq B3
        have bD : Below wk.heap.size wk wk.drew := (Below.refl _ _).drew
        refine wp_region_F 99 (fun w' => w'.cell? ⟨p, 0, none⟩ = some (.int .i64 0) ∧ w'.cell? ⟨p, 0 + 1, none⟩ = some (.int .i64 a) ∧ w'.cell? ⟨p, 0 + 2, none⟩ = some (.int .i64 v)) (fun w' => True) (by kernel_rfl) ⟨AC.out _ (Below.refl _ _).drew, trivial⟩ (fun hHeld => ?_)
        try simp only [Act.put, List.setIfInBounds_toArray, List.set_cons_zero, List.set_cons_succ]
        generalize wk.drew = wd at bD hHeld ⊢
        refine wpAnyF_keep (i := 0) (v := ?_) (by (simp only [List.getElem?_toArray, List.getElem?_cons_zero]; rfl)) (by kernel_rfl) (by kernel_rfl) (by kernel_rfl) (by decide) (by exact fun _ _ _ h => h) ⟨hHeld.1, .inr hHeld.2⟩ (Or.inl ⟨by rfl, ?_⟩) ?_
        rotate_left
        · (intro w' hSw; (try dsimp only at hSw); obtain ⟨hSa0, hSa1, hSa2⟩ := hSw; go_simp <;> with_reducible rfl)
        try simp only [Act.put, List.setIfInBounds_toArray, List.set_cons_zero, List.set_cons_succ]
        refine wpAnyF_keep (i := 1) (v := ?_) (by (simp only [List.getElem?_toArray, List.getElem?_cons_succ, List.getElem?_cons_zero]; rfl)) (by kernel_rfl) (by kernel_rfl) (by kernel_rfl) (by decide) (by exact fun _ _ _ h => h) ⟨hHeld.1, .inr hHeld.2⟩ (Or.inl ⟨by rfl, ?_⟩) ?_
        rotate_left
        · (intro w' hSw; (try dsimp only at hSw); obtain ⟨hSa0, hSa1, hSa2⟩ := hSw; go_simp <;> with_reducible rfl)
        try simp only [Act.put, List.setIfInBounds_toArray, List.set_cons_zero, List.set_cons_succ]
        refine wpAnyF_ready (rs := [2]) (by kernel_rfl) (by simp) ?_
        refine AllReadyF.cons (by (simp only [List.getElem?_toArray, List.getElem?_cons_succ, List.getElem?_cons_zero]; rfl)) (fun K hK => ?_) AllReadyF.nil
        go_simp
        go_at_call 50
        refine (EF.out _).mono ?_
        rintro e we ⟨rfl, be⟩
        have bE := bD.trans (be.mono bD.size)
        refine hK.out _ _ ⟨AC.out _ bE, trivial⟩ (fun hNew => ?_)
        clear hK K hHeld
        have hHeld := hNew
        clear hNew
        try simp only [Act.put, List.setIfInBounds_toArray, List.set_cons_zero, List.set_cons_succ]
        refine wpAnyF_take (i := 3) (v := ?_) (by (simp only [List.getElem?_toArray, List.getElem?_cons_succ, List.getElem?_cons_zero]; rfl)) (by kernel_rfl) (by kernel_rfl) (by kernel_rfl) (by decide) (by exact fun _ _ _ h => h) ⟨hHeld.1, .inr hHeld.2⟩ (Or.inl ⟨by rfl, ?_⟩) ?_
        rotate_left
        · (intro w' _; go_simp <;> with_reducible rfl)
        try simp only [Act.put, List.setIfInBounds_toArray, List.set_cons_zero, List.set_cons_succ]
        have hbe := HK7.out.trans (bE.mono HK7.out.size)
        have r0 := (W_cell HW.out hbe 0).trans (rfl : _ = some (Value.int .i64 0))
        have r1 := (W_cell HW.out hbe 1).trans (rfl : _ = some (Value.int .i64 0))
        have r2 := (W_cell HW.out hbe 2).trans (rfl : _ = some (Value.int .i64 0))
        have x0 := W_frozen HW.out hbe 0
        have x1 := W_frozen HW.out hbe 1
        have x2 := W_frozen HW.out hbe 2
        refine wpAnyF_ready (rs := [4]) (by kernel_rfl) (by simp) ?_
        refine AllReadyF.cons (by (simp only [List.getElem?_toArray, List.getElem?_cons_succ, List.getElem?_cons_zero]; rfl)) (fun K hK => ?_) AllReadyF.nil
        go_simp
        have AC2 := AS.out _ bE (.int .i64 0) (.int .i64 a) (.int .i64 v)
        refine hK.out _ _ ⟨AC2, trivial⟩ (fun hNew => ?_)
        clear hK K hHeld
        have hHeld := hNew
        clear hNew
        try simp only [Act.put, List.setIfInBounds_toArray, List.set_cons_zero, List.set_cons_succ]
        refine wpAnyF_take (i := 5) (v := ?_) (by (simp only [List.getElem?_toArray, List.getElem?_cons_succ, List.getElem?_cons_zero]; rfl)) (by kernel_rfl) (by kernel_rfl) (by kernel_rfl) (by decide) (by exact fun _ _ _ h => h) ⟨hHeld.1, .inr hHeld.2⟩ (Or.inl ⟨by rfl, ?_⟩) ?_
        rotate_left
        · (intro w' _; go_simp <;> with_reducible rfl)
        try simp only [Act.put, List.setIfInBounds_toArray, List.set_cons_zero, List.set_cons_succ]
        refine wpAnyF_done (by kernel_rfl) ?_ _
        go_wp2
        have hbw := W_below HW.out hbe
        have y0 := ((((res_bk HW.out hbe).set_ 0 (.int .i64 0)).set_ 1 (.int .i64 a)).set_ 2 (.int .i64 v))
        have y00 := (y0.cell 0).trans (rfl : _ = some (Value.int .i64 0))
        have y01 := (y0.cell 1).trans (rfl : _ = some (Value.int .i64 a))
        have y02 := (y0.cell 2).trans (rfl : _ = some (Value.int .i64 v))
        refine bodyPost_ret (v := .tuple #[evV 0 a v, .bool (F == 0)]) (by simp [results, Tryz.results69, go_sem, y00, y01, y02]) rfl ?_
        exact ⟨⟨0, a, v⟩, by rw [HB.out], fun _ => HE.out.symm, below_set3 hbw (Nat.le_refl _) _ _ _⟩

    · have hE2 : lnE [x0, x1, x2] = ⟨1, a, v⟩ := by rw [hE, h01]; rfl
      replace s1 : ((strOfNums x0).toList == [119]) = true := by rw [s1, h01]; rfl
      replace s2 : ((strOfNums x0).toList == [114]) = false := by rw [s2, h01]; rfl
      have HE := hide hE2
      rw [hE2] at hOk
      have EF := EFk 1
      obtain ⟨F, hF⟩ : ∃ F, F = evF ⟨1, a, v⟩ := ⟨_, rfl⟩
      rw [← hF] at EF hOk
      have HB : Hid (decide (lnOk [x0, x1, x2]) = (F == 0)) := hide (by
        by_cases h0 : F = 0
        · rw [decide_eq_true (hOk.2 h0), beq_iff_eq.2 h0]
        · rw [decide_eq_false (fun h => h0 (hOk.1 h)), beq_eq_false_iff_ne.2 h0])
      clear hE hE2 hOk hF EFk h01
      simp only [List.length_cons, List.length_nil] at CU
      go_enter Tryz.func69, Tryz.ntmps69
      go_wp2_with fail
      rw [← HW.out]
      refine CU.out.mono ?_
      rintro e w1 ⟨A, c, rfl, hc, hr, _, hb⟩
      obtain ⟨b, off, rfl, hbb, hcc⟩ := hr.all (by simp)
      have hc0 := hcc 0 (by simp)
      have hc1 := hcc 1 (by simp)
      have hc2 := hcc 2 (by simp)
      rw [Nat.add_zero] at hc0
      simp only [List.getElem_cons_zero, List.getElem_cons_succ] at hc0 hc1 hc2
      have MC := hide (show ∀ W, Below w1.heap.size w1 W → W.cell? ⟨b, off + 1, none⟩ = some (.string (strOfNums x1)) ∧ W.cell? ⟨b, off + 2, none⟩ = some (.string (strOfNums x2)) from fun W h => ⟨cell_kept h hc1, cell_kept h hc2⟩)
      have MC0 := hide (show ∀ W, Below w1.heap.size w1 W → W.cell? ⟨b, off, none⟩ = some (.string (strOfNums x0)) from fun W h => cell_kept h hc0)
      have HBW := hide hb
      have hlt := W_lt HW.out hb
      clear CU hcc hr hb
      go_wp2_with fail
      go_cut [5] (fun s wx => ∃ p, s = .pointer (some ⟨p, 0, none⟩) ∧ w1.heap.size ≤ p ∧ Bk wx p #[.int .i64 0, .int .i64 a, .int .i64 v] 39 ∧ Below w1.heap.size w1 wx)
      case first =>
        clear hc0
        have M : E1 w1 none w1.drew := ⟨(Below.refl _ _).drew, fun p h => by (cases h)⟩
        refine wp_region_F 99 (fun w' => w'.cell? ⟨b, off + 1, none⟩ = some (.string (strOfNums x1)) ∧ w'.cell? ⟨b, off + 2, none⟩ = some (.string (strOfNums x2))) (fun w' => True) (by kernel_rfl) ⟨MC.out _ M.old, trivial⟩ (fun hHeld => ?_)
        try simp only [Act.put, List.setIfInBounds_toArray, List.set_cons_zero, List.set_cons_succ]
        generalize hq : w1.drew = wq at M hHeld ⊢
        clear hq
        refine wpAnyF_take (i := 0) (v := ?_) (by (simp only [List.getElem?_toArray, List.getElem?_cons_zero]; rfl)) (by kernel_rfl) (by kernel_rfl) (by kernel_rfl) (by decide) (by exact fun _ _ _ h => h) ⟨hHeld.1, .inr hHeld.2⟩ (Or.inl ⟨by rfl, ?_⟩) ?_
        rotate_left
        · (intro w' _; go_simp <;> with_reducible rfl)
        try simp only [Act.put, List.setIfInBounds_toArray, List.set_cons_zero, List.set_cons_succ]
        refine wpAnyF_take (i := 1) (v := ?_) (by (simp only [List.getElem?_toArray, List.getElem?_cons_succ, List.getElem?_cons_zero]; rfl)) (by kernel_rfl) (by kernel_rfl) (by kernel_rfl) (by decide) (by exact fun _ _ _ h => h) ⟨hHeld.1, .inr hHeld.2⟩ (Or.inl ⟨by rfl, ?_⟩) ?_
        rotate_left
        · (intro w' _; go_simp <;> with_reducible rfl)
        try simp only [Act.put, List.setIfInBounds_toArray, List.set_cons_zero, List.set_cons_succ]
        refine wpAnyF_keep (i := 2) (v := ?_) (by (simp only [List.getElem?_toArray, List.getElem?_cons_succ, List.getElem?_cons_zero]; rfl)) (by kernel_rfl) (by kernel_rfl) (by kernel_rfl) (by decide) (by exact fun _ _ _ h => h) ⟨hHeld.1, .inr hHeld.2⟩ (Or.inl ⟨by rfl, ?_⟩) ?_
        rotate_left
        · (intro w' hSw; (try dsimp only at hSw); obtain ⟨hSa0, hSa1⟩ := hSw; go_simp <;> with_reducible rfl)
        try simp only [Act.put, List.setIfInBounds_toArray, List.set_cons_zero, List.set_cons_succ]
        refine wpAnyF_take (i := 4) (v := ?_) (by (simp only [List.getElem?_toArray, List.getElem?_cons_succ, List.getElem?_cons_zero]; rfl)) (by kernel_rfl) (by kernel_rfl) (by kernel_rfl) (by decide) (by exact fun _ _ _ h => h) ⟨hHeld.1, .inr hHeld.2⟩ (Or.inl ⟨by rfl, ?_⟩) ?_
        rotate_left
        · (intro w' _; go_simp <;> with_reducible rfl)
        try simp only [Act.put, List.setIfInBounds_toArray, List.set_cons_zero, List.set_cons_succ]
        refine wpAnyF_take (i := 5) (v := ?_) (by (simp only [List.getElem?_toArray, List.getElem?_cons_succ, List.getElem?_cons_zero]; rfl)) (by kernel_rfl) (by kernel_rfl) (by kernel_rfl) (by decide) (by exact fun _ _ _ h => h) ⟨hHeld.1, .inr hHeld.2⟩ (Or.inl ⟨by rfl, ?_⟩) ?_
        rotate_left
        · (intro w' _; go_simp <;> with_reducible rfl)
        try simp only [Act.put, List.setIfInBounds_toArray, List.set_cons_zero, List.set_cons_succ]
        refine wpAnyF_keep (i := 6) (v := ?_) (by (simp only [List.getElem?_toArray, List.getElem?_cons_succ, List.getElem?_cons_zero]; rfl)) (by kernel_rfl) (by kernel_rfl) (by kernel_rfl) (by decide) (by exact fun _ _ _ h => h) ⟨hHeld.1, .inr hHeld.2⟩ (Or.inl ⟨by rfl, ?_⟩) ?_
        rotate_left
        · (intro w' hSw; (try dsimp only at hSw); obtain ⟨hSa0, hSa1⟩ := hSw; go_simp <;> with_reducible rfl)
        try simp only [Act.put, List.setIfInBounds_toArray, List.set_cons_zero, List.set_cons_succ]
        refine wpAnyF_ready (rs := [3, 9]) (by kernel_rfl) (by simp) ?_
        refine AllReadyF.cons (by (simp only [List.getElem?_toArray, List.getElem?_cons_succ, List.getElem?_cons_zero]; rfl)) (fun K hK => ?_) ?_
        · skip
          go_simp
          go_at_call 47
          refine (RH.out _).mono ?_
          rintro e wa ⟨rfl, rfl⟩
          refine hK.out _ _ ⟨MC.out _ M.old, trivial⟩ (fun hNew => ?_)
          replace hHeld := hNew
          clear hK K hNew
          try simp only [Act.put, List.setIfInBounds_toArray, List.set_cons_zero, List.set_cons_succ]
          refine wpAnyF_ready (rs := [7, 9]) (by kernel_rfl) (by simp) ?_
          refine AllReadyF.cons (by (simp only [List.getElem?_toArray, List.getElem?_cons_succ, List.getElem?_cons_zero]; rfl)) (fun K hK => ?_) ?_
          · skip
            go_simp
            go_at_call 48
            refine (NO.out _).mono ?_
            rintro e wa ⟨rfl, rfl⟩
            refine hK.out _ _ ⟨MC.out _ M.old, trivial⟩ (fun hNew => ?_)
            replace hHeld := hNew
            clear hK K hNew
            try simp only [Act.put, List.setIfInBounds_toArray, List.set_cons_zero, List.set_cons_succ]
            refine wpAnyF_take (i := 8) (v := ?_) (by (simp only [List.getElem?_toArray, List.getElem?_cons_succ, List.getElem?_cons_zero]; rfl)) (by kernel_rfl) (by kernel_rfl) (by kernel_rfl) (by decide) (by exact fun _ _ _ h => h) ⟨hHeld.1, .inr hHeld.2⟩ (Or.inl ⟨by rfl, ?_⟩) ?_
            rotate_left
            · (intro w' _; go_simp <;> with_reducible rfl)
            try simp only [Act.put, List.setIfInBounds_toArray, List.set_cons_zero, List.set_cons_succ]
            refine wpAnyF_ready (rs := [9]) (by kernel_rfl) (by simp) ?_
            refine AllReadyF.cons (by (simp only [List.getElem?_toArray, List.getElem?_cons_succ, List.getElem?_cons_zero]; rfl)) (fun K hK => ?_) AllReadyF.nil
            go_simp
            replace M := M.al
            generalize hQ : wq.alloc (Obj.cells #[Value.int IntKind.i64 0, Value.int IntKind.i64 0, Value.int IntKind.i64 0] 39) = wb at M ⊢
            generalize hP : wq.heap.size = p at M ⊢
            clear hQ hP
            refine hK.out _ _ ⟨MC.out _ M.old, trivial⟩ (fun hNew => ?_)
            replace hHeld := hNew
            clear hK K hNew
            try simp only [Act.put, List.setIfInBounds_toArray, List.set_cons_zero, List.set_cons_succ]
            obtain ⟨l1, k1⟩ := M.c1 _ rfl
            have d0 := (k1.cell 0).trans (rfl : _ = some (Value.int .i64 0))
            have d1 := (k1.cell 1).trans (rfl : _ = some (Value.int .i64 0))
            have d2 := (k1.cell 2).trans (rfl : _ = some (Value.int .i64 0))
            have f0 := k1.frozen 0
            have f1 := k1.frozen 1
            have f2 := k1.frozen 2
            refine wpAnyF_ready (rs := [10]) (by kernel_rfl) (by simp) ?_
            refine AllReadyF.cons (by (simp only [List.getElem?_toArray, List.getElem?_cons_succ, List.getElem?_cons_zero]; rfl)) (fun K hK => ?_) AllReadyF.nil
            go_simp
            have B1 := below_set3 M.old l1 (.int .i64 0) (.int .i64 a) (.int .i64 v)
            have k1' := ((k1.set_ 0 (.int .i64 0)).set_ 1 (.int .i64 a)).set_ 2 (.int .i64 v)
            refine hK.out _ _ ⟨MC.out _ B1, trivial⟩ (fun hNew => ?_)
            clear hK K hNew d0 d1 d2 f0 f1 f2
            try simp only [Act.put, List.setIfInBounds_toArray, List.set_cons_zero, List.set_cons_succ]
            refine wpAnyF_done (by kernel_rfl) ?_ _
            go_wp2_with fail
            go_meet
            exact ⟨_, rfl, l1, k1', B1⟩
          refine AllReadyF.cons (by (simp only [List.getElem?_toArray, List.getElem?_cons_succ, List.getElem?_cons_zero]; rfl)) (fun K hK => ?_) ?_
          · skip
            go_simp
            replace M := M.al
            generalize hQ : wq.alloc (Obj.cells #[Value.int IntKind.i64 0, Value.int IntKind.i64 0, Value.int IntKind.i64 0] 39) = wb at M ⊢
            generalize hP : wq.heap.size = p at M ⊢
            clear hQ hP
            refine hK.out _ _ ⟨MC.out _ M.old, trivial⟩ (fun hNew => ?_)
            replace hHeld := hNew
            clear hK K hNew
            try simp only [Act.put, List.setIfInBounds_toArray, List.set_cons_zero, List.set_cons_succ]
            refine wpAnyF_ready (rs := [7]) (by kernel_rfl) (by simp) ?_
            refine AllReadyF.cons (by (simp only [List.getElem?_toArray, List.getElem?_cons_succ, List.getElem?_cons_zero]; rfl)) (fun K hK => ?_) AllReadyF.nil
            go_simp
            go_at_call 48
            refine (NO.out _).mono ?_
            rintro e wa ⟨rfl, rfl⟩
            refine hK.out _ _ ⟨MC.out _ M.old, trivial⟩ (fun hNew => ?_)
            replace hHeld := hNew
            clear hK K hNew
            try simp only [Act.put, List.setIfInBounds_toArray, List.set_cons_zero, List.set_cons_succ]
            refine wpAnyF_take (i := 8) (v := ?_) (by (simp only [List.getElem?_toArray, List.getElem?_cons_succ, List.getElem?_cons_zero]; rfl)) (by kernel_rfl) (by kernel_rfl) (by kernel_rfl) (by decide) (by exact fun _ _ _ h => h) ⟨hHeld.1, .inr hHeld.2⟩ (Or.inl ⟨by rfl, ?_⟩) ?_
            rotate_left
            · (intro w' _; go_simp <;> with_reducible rfl)
            try simp only [Act.put, List.setIfInBounds_toArray, List.set_cons_zero, List.set_cons_succ]
            obtain ⟨l1, k1⟩ := M.c1 _ rfl
            have d0 := (k1.cell 0).trans (rfl : _ = some (Value.int .i64 0))
            have d1 := (k1.cell 1).trans (rfl : _ = some (Value.int .i64 0))
            have d2 := (k1.cell 2).trans (rfl : _ = some (Value.int .i64 0))
            have f0 := k1.frozen 0
            have f1 := k1.frozen 1
            have f2 := k1.frozen 2
            refine wpAnyF_ready (rs := [10]) (by kernel_rfl) (by simp) ?_
            refine AllReadyF.cons (by (simp only [List.getElem?_toArray, List.getElem?_cons_succ, List.getElem?_cons_zero]; rfl)) (fun K hK => ?_) AllReadyF.nil
            go_simp
            have B1 := below_set3 M.old l1 (.int .i64 0) (.int .i64 a) (.int .i64 v)
            have k1' := ((k1.set_ 0 (.int .i64 0)).set_ 1 (.int .i64 a)).set_ 2 (.int .i64 v)
            refine hK.out _ _ ⟨MC.out _ B1, trivial⟩ (fun hNew => ?_)
            clear hK K hNew d0 d1 d2 f0 f1 f2
            try simp only [Act.put, List.setIfInBounds_toArray, List.set_cons_zero, List.set_cons_succ]
            refine wpAnyF_done (by kernel_rfl) ?_ _
            go_wp2_with fail
            go_meet
            exact ⟨_, rfl, l1, k1', B1⟩
          exact AllReadyF.nil
        refine AllReadyF.cons (by (simp only [List.getElem?_toArray, List.getElem?_cons_succ, List.getElem?_cons_zero]; rfl)) (fun K hK => ?_) ?_
        · skip
          go_simp
          replace M := M.al
          generalize hQ : wq.alloc (Obj.cells #[Value.int IntKind.i64 0, Value.int IntKind.i64 0, Value.int IntKind.i64 0] 39) = wb at M ⊢
          generalize hP : wq.heap.size = p at M ⊢
          clear hQ hP
          refine hK.out _ _ ⟨MC.out _ M.old, trivial⟩ (fun hNew => ?_)
          replace hHeld := hNew
          clear hK K hNew
          try simp only [Act.put, List.setIfInBounds_toArray, List.set_cons_zero, List.set_cons_succ]
          refine wpAnyF_ready (rs := [3]) (by kernel_rfl) (by simp) ?_
          refine AllReadyF.cons (by (simp only [List.getElem?_toArray, List.getElem?_cons_succ, List.getElem?_cons_zero]; rfl)) (fun K hK => ?_) AllReadyF.nil
          go_simp
          go_at_call 47
          refine (RH.out _).mono ?_
          rintro e wa ⟨rfl, rfl⟩
          refine hK.out _ _ ⟨MC.out _ M.old, trivial⟩ (fun hNew => ?_)
          replace hHeld := hNew
          clear hK K hNew
          try simp only [Act.put, List.setIfInBounds_toArray, List.set_cons_zero, List.set_cons_succ]
          refine wpAnyF_ready (rs := [7]) (by kernel_rfl) (by simp) ?_
          refine AllReadyF.cons (by (simp only [List.getElem?_toArray, List.getElem?_cons_succ, List.getElem?_cons_zero]; rfl)) (fun K hK => ?_) AllReadyF.nil
          go_simp
          go_at_call 48
          refine (NO.out _).mono ?_
          rintro e wa ⟨rfl, rfl⟩
          refine hK.out _ _ ⟨MC.out _ M.old, trivial⟩ (fun hNew => ?_)
          replace hHeld := hNew
          clear hK K hNew
          try simp only [Act.put, List.setIfInBounds_toArray, List.set_cons_zero, List.set_cons_succ]
          refine wpAnyF_take (i := 8) (v := ?_) (by (simp only [List.getElem?_toArray, List.getElem?_cons_succ, List.getElem?_cons_zero]; rfl)) (by kernel_rfl) (by kernel_rfl) (by kernel_rfl) (by decide) (by exact fun _ _ _ h => h) ⟨hHeld.1, .inr hHeld.2⟩ (Or.inl ⟨by rfl, ?_⟩) ?_
          rotate_left
          · (intro w' _; go_simp <;> with_reducible rfl)
          try simp only [Act.put, List.setIfInBounds_toArray, List.set_cons_zero, List.set_cons_succ]
          obtain ⟨l1, k1⟩ := M.c1 _ rfl
          have d0 := (k1.cell 0).trans (rfl : _ = some (Value.int .i64 0))
          have d1 := (k1.cell 1).trans (rfl : _ = some (Value.int .i64 0))
          have d2 := (k1.cell 2).trans (rfl : _ = some (Value.int .i64 0))
          have f0 := k1.frozen 0
          have f1 := k1.frozen 1
          have f2 := k1.frozen 2
          refine wpAnyF_ready (rs := [10]) (by kernel_rfl) (by simp) ?_
          refine AllReadyF.cons (by (simp only [List.getElem?_toArray, List.getElem?_cons_succ, List.getElem?_cons_zero]; rfl)) (fun K hK => ?_) AllReadyF.nil
          go_simp
          have B1 := below_set3 M.old l1 (.int .i64 0) (.int .i64 a) (.int .i64 v)
          have k1' := ((k1.set_ 0 (.int .i64 0)).set_ 1 (.int .i64 a)).set_ 2 (.int .i64 v)
          refine hK.out _ _ ⟨MC.out _ B1, trivial⟩ (fun hNew => ?_)
          clear hK K hNew d0 d1 d2 f0 f1 f2
          try simp only [Act.put, List.setIfInBounds_toArray, List.set_cons_zero, List.set_cons_succ]
          refine wpAnyF_done (by kernel_rfl) ?_ _
          go_wp2_with fail
          go_meet
          exact ⟨_, rfl, l1, k1', B1⟩
        exact AllReadyF.nil
      case rest =>
        obtain ⟨p, rfl, hp, kp, B2⟩ := hcut
        have hc0 := MC0.out _ B2
        have d0 := (kp.cell 0).trans (rfl : _ = some (Value.int .i64 0))
        have f0 := kp.frozen 0
        clear hc1 hc2 MC RH NO
        go_wp2_with fail
        have kq : Bk (wc.setCell ⟨p, 0, none⟩ (.int .i64 1)) p #[.int .i64 1, .int .i64 a, .int .i64 v] 39 := kp.set_ 0 (.int .i64 1)
        have B3 : Below w1.heap.size w1 (wc.setCell ⟨p, 0, none⟩ (.int .i64 1)) := B2.setCell (p := ⟨p, 0, none⟩) hp (.int .i64 1)
        have HK7 := hide (HBW.out.trans (B3.mono HBW.out.size))
        clear d0 f0 hc0 kp B2 MC0
        generalize wc.setCell ⟨p, 0, none⟩ (.int .i64 1) = wk at *
        have AC := hide (show ∀ W, Below wk.heap.size wk W → W.cell? ⟨p, 0, none⟩ = some (.int .i64 1) ∧ W.cell? ⟨p, 0 + 1, none⟩ = some (.int .i64 a) ∧ W.cell? ⟨p, 0 + 2, none⟩ = some (.int .i64 v) from fun W h => ⟨((kq.kept h).cell 0).trans rfl, ((kq.kept h).cell 1).trans rfl, ((kq.kept h).cell 2).trans rfl⟩)
        have AS := hide (show ∀ W, Below wk.heap.size wk W → ∀ x y z, (((W.setCell ⟨w.heap.size, 0, none⟩ x).setCell ⟨w.heap.size, 1, none⟩ y).setCell ⟨w.heap.size, 2, none⟩ z).cell? ⟨p, 0, none⟩ = some (.int .i64 1) ∧ (((W.setCell ⟨w.heap.size, 0, none⟩ x).setCell ⟨w.heap.size, 1, none⟩ y).setCell ⟨w.heap.size, 2, none⟩ z).cell? ⟨p, 0 + 1, none⟩ = some (.int .i64 a) ∧ (((W.setCell ⟨w.heap.size, 0, none⟩ x).setCell ⟨w.heap.size, 1, none⟩ y).setCell ⟨w.heap.size, 2, none⟩ z).cell? ⟨p, 0 + 2, none⟩ = some (.int .i64 v) from fun W h x y z => ⟨(((kq.kept h).far3 (by omega) x y z).cell 0).trans rfl, (((kq.kept h).far3 (by omega) x y z).cell 1).trans rfl, (((kq.kept h).far3 (by omega) x y z).cell 2).trans rfl⟩)
        clear kq B3
        have bD : Below wk.heap.size wk wk.drew := (Below.refl _ _).drew
        refine wp_region_F 99 (fun w' => w'.cell? ⟨p, 0, none⟩ = some (.int .i64 1) ∧ w'.cell? ⟨p, 0 + 1, none⟩ = some (.int .i64 a) ∧ w'.cell? ⟨p, 0 + 2, none⟩ = some (.int .i64 v)) (fun w' => True) (by kernel_rfl) ⟨AC.out _ (Below.refl _ _).drew, trivial⟩ (fun hHeld => ?_)
        try simp only [Act.put, List.setIfInBounds_toArray, List.set_cons_zero, List.set_cons_succ]
        generalize wk.drew = wd at bD hHeld ⊢
        refine wpAnyF_keep (i := 0) (v := ?_) (by (simp only [List.getElem?_toArray, List.getElem?_cons_zero]; rfl)) (by kernel_rfl) (by kernel_rfl) (by kernel_rfl) (by decide) (by exact fun _ _ _ h => h) ⟨hHeld.1, .inr hHeld.2⟩ (Or.inl ⟨by rfl, ?_⟩) ?_
        rotate_left
        · (intro w' hSw; (try dsimp only at hSw); obtain ⟨hSa0, hSa1, hSa2⟩ := hSw; go_simp <;> with_reducible rfl)
        try simp only [Act.put, List.setIfInBounds_toArray, List.set_cons_zero, List.set_cons_succ]
        refine wpAnyF_keep (i := 1) (v := ?_) (by (simp only [List.getElem?_toArray, List.getElem?_cons_succ, List.getElem?_cons_zero]; rfl)) (by kernel_rfl) (by kernel_rfl) (by kernel_rfl) (by decide) (by exact fun _ _ _ h => h) ⟨hHeld.1, .inr hHeld.2⟩ (Or.inl ⟨by rfl, ?_⟩) ?_
        rotate_left
        · (intro w' hSw; (try dsimp only at hSw); obtain ⟨hSa0, hSa1, hSa2⟩ := hSw; go_simp <;> with_reducible rfl)
        try simp only [Act.put, List.setIfInBounds_toArray, List.set_cons_zero, List.set_cons_succ]
        refine wpAnyF_ready (rs := [2]) (by kernel_rfl) (by simp) ?_
        refine AllReadyF.cons (by (simp only [List.getElem?_toArray, List.getElem?_cons_succ, List.getElem?_cons_zero]; rfl)) (fun K hK => ?_) AllReadyF.nil
        go_simp
        go_at_call 50
        refine (EF.out _).mono ?_
        rintro e we ⟨rfl, be⟩
        have bE := bD.trans (be.mono bD.size)
        refine hK.out _ _ ⟨AC.out _ bE, trivial⟩ (fun hNew => ?_)
        clear hK K hHeld
        have hHeld := hNew
        clear hNew
        try simp only [Act.put, List.setIfInBounds_toArray, List.set_cons_zero, List.set_cons_succ]
        refine wpAnyF_take (i := 3) (v := ?_) (by (simp only [List.getElem?_toArray, List.getElem?_cons_succ, List.getElem?_cons_zero]; rfl)) (by kernel_rfl) (by kernel_rfl) (by kernel_rfl) (by decide) (by exact fun _ _ _ h => h) ⟨hHeld.1, .inr hHeld.2⟩ (Or.inl ⟨by rfl, ?_⟩) ?_
        rotate_left
        · (intro w' _; go_simp <;> with_reducible rfl)
        try simp only [Act.put, List.setIfInBounds_toArray, List.set_cons_zero, List.set_cons_succ]
        have hbe := HK7.out.trans (bE.mono HK7.out.size)
        have r0 := (W_cell HW.out hbe 0).trans (rfl : _ = some (Value.int .i64 0))
        have r1 := (W_cell HW.out hbe 1).trans (rfl : _ = some (Value.int .i64 0))
        have r2 := (W_cell HW.out hbe 2).trans (rfl : _ = some (Value.int .i64 0))
        have x0 := W_frozen HW.out hbe 0
        have x1 := W_frozen HW.out hbe 1
        have x2 := W_frozen HW.out hbe 2
        refine wpAnyF_ready (rs := [4]) (by kernel_rfl) (by simp) ?_
        refine AllReadyF.cons (by (simp only [List.getElem?_toArray, List.getElem?_cons_succ, List.getElem?_cons_zero]; rfl)) (fun K hK => ?_) AllReadyF.nil
        go_simp
        have AC2 := AS.out _ bE (.int .i64 1) (.int .i64 a) (.int .i64 v)
        refine hK.out _ _ ⟨AC2, trivial⟩ (fun hNew => ?_)
        clear hK K hHeld
        have hHeld := hNew
        clear hNew
        try simp only [Act.put, List.setIfInBounds_toArray, List.set_cons_zero, List.set_cons_succ]
        refine wpAnyF_take (i := 5) (v := ?_) (by (simp only [List.getElem?_toArray, List.getElem?_cons_succ, List.getElem?_cons_zero]; rfl)) (by kernel_rfl) (by kernel_rfl) (by kernel_rfl) (by decide) (by exact fun _ _ _ h => h) ⟨hHeld.1, .inr hHeld.2⟩ (Or.inl ⟨by rfl, ?_⟩) ?_
        rotate_left
        · (intro w' _; go_simp <;> with_reducible rfl)
        try simp only [Act.put, List.setIfInBounds_toArray, List.set_cons_zero, List.set_cons_succ]
        refine wpAnyF_done (by kernel_rfl) ?_ _
        go_wp2
        have hbw := W_below HW.out hbe
        have y0 := ((((res_bk HW.out hbe).set_ 0 (.int .i64 1)).set_ 1 (.int .i64 a)).set_ 2 (.int .i64 v))
        have y00 := (y0.cell 0).trans (rfl : _ = some (Value.int .i64 1))
        have y01 := (y0.cell 1).trans (rfl : _ = some (Value.int .i64 a))
        have y02 := (y0.cell 2).trans (rfl : _ = some (Value.int .i64 v))
        refine bodyPost_ret (v := .tuple #[evV 1 a v, .bool (F == 0)]) (by simp [results, Tryz.results69, go_sem, y00, y01, y02]) rfl ?_
        exact ⟨⟨1, a, v⟩, by rw [HB.out], fun _ => HE.out.symm, below_set3 hbw (Nat.le_refl _) _ _ _⟩

  · have hNo : ¬ lnOk ws := fun h => h3 ⟨h.1, h.2.1⟩
    have HN := hide hNo
    rw [decide_eq_false hNo]
    by_cases h4 : ws.length = 3
    · have h01 : ¬ (ws.getD 0 [] = [114] ∨ ws.getD 0 [] = [119]) := fun h => h3 ⟨h4, h⟩
      obtain ⟨x0, x1, x2, rfl⟩ : ∃ x0 x1 x2, ws = [x0, x1, x2] := ⟨_, _, _, three h4⟩
      simp only [List.getD_cons_zero] at h01
      have hx0 := hB8 x0 (List.mem_cons_self ..)
      have s1 := seq_lit hx0 (m := [119]) (fun y hy => by simp at hy; omega) (u := [119]) rfl
      have s2 := seq_lit hx0 (m := [114]) (fun y hy => by simp at hy; omega) (u := [114]) rfl
      rw [beq_eq_false_iff_ne.2 (fun h => h01 (.inr h))] at s1
      rw [beq_eq_false_iff_ne.2 (fun h => h01 (.inl h))] at s2
      clear hB8 hLen hCnt h3 h4 b8 hl hNo h01 hx0
      go_enter Tryz.func69, Tryz.ntmps69
      go_wp2_with fail
      rw [← HW.out]
      refine CU.out.mono ?_
      rintro e w1 ⟨A, c, rfl, hc, hr, _, hb⟩
      obtain ⟨b, off, rfl, hbb, hc0⟩ := hr.get (i := 0) (by simp)
      rw [Nat.add_zero] at hc0
      simp only [List.getElem_cons_zero] at hc0
      have r0 := (W_cell HW.out hb 0).trans (rfl : _ = some (Value.int .i64 0))
      have r1 := (W_cell HW.out hb 1).trans (rfl : _ = some (Value.int .i64 0))
      have r2 := (W_cell HW.out hb 2).trans (rfl : _ = some (Value.int .i64 0))
      have f0 := W_frozen HW.out hb 0
      have f1 := W_frozen HW.out hb 1
      have f2 := W_frozen HW.out hb 2
      have hbw := W_below HW.out hb
      clear CU hb hr
      go_wp2
      refine bodyPost_ret (v := .tuple #[evV 0 0 0, .bool false]) (by simp [results, Tryz.results69, go_sem, r0, r1, r2]) rfl ?_
      exact ⟨⟨0, 0, 0⟩, rfl, fun h => absurd h HN.out, below_set3 hbw (Nat.le_refl _) _ _ _⟩
    · have q1 : ((ws.length : Int) != 3) = true := bne_iff_ne.2 (by omega)
      clear hB8 hLen hCnt h3 h4 b8 hl hNo
      go_enter Tryz.func69, Tryz.ntmps69
      go_wp2_with fail
      rw [← HW.out]
      refine CU.out.mono ?_
      rintro e w1 ⟨A, c, rfl, hc, hr, _, hb⟩
      have r0 := (W_cell HW.out hb 0).trans (rfl : _ = some (Value.int .i64 0))
      have r1 := (W_cell HW.out hb 1).trans (rfl : _ = some (Value.int .i64 0))
      have r2 := (W_cell HW.out hb 2).trans (rfl : _ = some (Value.int .i64 0))
      have f0 := W_frozen HW.out hb 0
      have f1 := W_frozen HW.out hb 1
      have f2 := W_frozen HW.out hb 2
      have hbw := W_below HW.out hb
      clear CU hb hr
      go_wp2
      refine bodyPost_ret (v := .tuple #[evV 0 0 0, .bool false]) (by simp [results, Tryz.results69, go_sem, r0, r1, r2]) rfl ?_
      exact ⟨⟨0, 0, 0⟩, rfl, fun h => absurd h HN.out, below_set3 hbw (Nat.le_refl _) _ _ _⟩
end Go.Proofs.YtmdaianbhpppfaaGreatDoor
